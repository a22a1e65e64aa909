/- What a wheel's Due comes to: its rounds over the slots. Conditions: as stated. -/
import Derived.Test.YtpdlpnfaclpgbaaWhlC
import Derived.Test.YtpdlpnfaclpgbaaWhlE
import Derived.Test.YtpdlpnfaclpgbaaWhlG
namespace Go.Proofs.Ytpdlpnfaclpgbaa
open Go.ChangeShapes Go.WideShapes Go.ChangeAt Go.RowKit Go.Shelf
set_option linter.unusedVariables false
set_option maxRecDepth 100000
set_option linter.unusedSimpArgs false
set_option maxHeartbeats 2000000
attribute [local go_sem] Oper.semAt_some

theorem owns_form {w : World} {base e size n : Nat} {v : Value} {xs : List Value} (h : w.ownsRow base e size v n xs) : ∃ A c, v = .slice A n c := by
  rcases h.2 with ⟨h1, h2⟩ | ⟨g, cap, cur, h1, _⟩
  · subst h2; exact ⟨none, 0, h1⟩
  · exact ⟨_, _, h1⟩
theorem wtake_any (mv : Value) (L : List Tm) (now : Int) (w : World) (h : Slot w mv L) (hL : IdsW L) (hi : ∀ x ∈ L, inI x.id) (hlen : L.length ≤ 1000000) :
    Calls Try.prog 21 #[mv, .int .i64 now] w fun e w' => ∃ v d, e = .returned v ∧ d.Perm (dueOf L now) ∧ w'.ownsRow w.heap.size 62 2 v d.length (rowsW d).flatten ∧ Slot w' mv (restOf L now) ∧ Turned (fun j => mv = .map (some j)) w w' := by
  rcases h with ⟨rfl, rfl⟩ | ⟨m, rfl, hM⟩
  · have hr := run_range_nil w
    go_enter Try.func21, Try.ntmps21
    go_wp2_with fail
    go_loopw [5] (fun v wr => v = .slice none 0 0 ∧ wr = w.alloc (.mapIter none 0 #[] 0)) (fun _ _ => 0)
    case atStart => exact ⟨rfl, rfl⟩
    case round =>
      obtain ⟨rfl, rfl⟩ := hrel
      have hnx := fun ty => run_next_nilMap (P := Try.prog) w ty 0 0 #[]
      go_wp2_with fail
      go_ret
      exact ⟨_, [], rfl, List.Perm.refl _, World.ownsRow_nil _ _ _ _, .inl ⟨rfl, rfl⟩, Turned.of ((Below.refl _ _).alloc (Nat.le_refl _) _)⟩
  · refine (wtake_some m L now w hM hL hi hlen).mono ?_
    rintro e w' ⟨v, d, h1, h2, h3, h4, h5⟩
    exact ⟨v, d, h1, h2, h3, .inr ⟨m, rfl, h4⟩, h5.os, h5.tape, h5.output, h5.size, fun k hk hne => h5.block k hk (fun e => hne (by rw [e]))⟩
/-- 'append(s, x...)' in a round: s of the call's own, x read, wherever it lies. -/
theorem wpListIn_append_rdK {P : Program} {w : World} {ops : Array Oper} {rest : List Oper} {o : Oper} {a : Act} {Q : Exit → Act → World → Prop} {F : Fence} {nF : Nat} (hgd : o.guard = none) (s x : Operand) (t : TypeId)
    (ho : o.op = .call { callee := .builtin .append, args := #[s, x], argTypes := #[t, t] }) (base : Nat) (e : TypeId) (z : Value) (size bytes : Nat) (hinfo : (P.info? e).map (fun i => (i.zero, i.size, i.bytes)) = some (some z, size, bytes)) (hzs : z.cells.size = size) (hsz : 0 < size) (hby : bytes ≤ 1000) (ht : P.underlying t = some (.slice e))
    (v : Value) (n : Nat) (xs : List Value) (hs : a.eval s = v) (hown : w.ownsRow base e size v n xs) (K : Nat → Prop) (sv : Value) (rs : List (List Value)) (hx : a.eval x = sv) (hr : RdK size w K sv rs) (hm : ∀ r ∈ rs, r.length = size) (h1 : ∀ u ∈ rs.flatten, u.oneCell' = true) (hn : n + rs.length ≤ 1000000) (hbase : base ≤ w.heap.size)
    (h : ∀ v' w', w'.ownsRow base e size v' (n + rs.length) (xs ++ rs.flatten) → w.grownBy w' v.ownBlock → wpListIn F nF P ops Q rest (a.put o.dst v') w') : wpListIn F nF P ops Q (o :: rest) a w := by
  obtain ⟨i0, hi, hz0, hz1, hz2⟩ := info_parts hinfo
  obtain ⟨A, c, rfl, h2, h3⟩ := hr.form
  cases A with
  | none =>
    obtain rfl : rs = [] := by
      cases rs with
      | nil => rfl
      | cons y r =>
        obtain ⟨b, o', e', _⟩ := hr.at_ (k := 0) (by simp)
        cases e'
    refine wpListIn_plain hgd fun K' hK' => ?_
    have hx' : a.eval x = .slice none 0 c := hx
    have hrun := run_append_none_c (P := P) (w := w) base t o.type e i0 size c ht hi v n xs hown
    unfold Oper.wpIn
    refine ⟨by simp [Oper.about, ho, resolve, Target.leads, Sem.run_pure], ?_⟩
    rw [Oper.semAt_plain F _ _ (by rw [ho]; intro c hc'; cases hc')]
    simp [execOp, ho, resolve, invoke, builtin, hs, hx', hrun, Result.andThen]
    exact hK' _ _ (h v w (by simpa using hown) ⟨rfl, rfl, rfl, Nat.le_refl _, fun _ _ _ => rfl⟩)
  | some ad =>
    refine wpListIn_append_own w hgd s x t ho base e i0 z size bytes ht hi hz0 hz1 hz2 hzs hsz v n xs hs hown ad rs.length c rs.flatten hx (flat_len size rs hm) ?_ h1 (by unfold maxLen; omega) ?_ hbase ?_
    · exact RdK.cells hr hsz hm
    · have : (n + rs.length) * bytes ≤ 1000000 * 1000 := Nat.mul_le_mul hn hby
      omega
    · intro v' w' h5 h6 _
      exact h v' w' h5 h6
/-- Behind k slots. -/
structure DueSt (b : Nat) (ms : Array Value) (l : List Tm) (now : Int) (F : Nat → Prop) (w : World) (k : Nat) (v : Value) (d : List Tm) (W : World) : Prop where
  bnow : W.heap[w.heap.size]? = some (.cells #[.int .i64 now] 3 (0, 0))
  bdue : W.heap[w.heap.size + 1]? = some (.cells #[v] 57 (0, 0))
  own : W.ownsRow (w.heap.size + 4) 62 2 v d.length (rowsW d).flatten
  perm : d.Perm (dueOf (flatW l k) now)
  slot : ∀ i, i < 16 → Slot W (mAt ms i) (if i < k then restOf (slotL l i) now else slotL l i)
  turn : Turned F w W
  blk : W.heap[b]? = some (wX ms)
section
variable {b : Nat} {ms : Array Value} {l : List Tm} {now : Int} {F : Nat → Prop} {w W W' : World} {k : Nat} {v : Value} {d : List Tm}
theorem turned_books {L : Nat} (h : Turned F w W) (hb : Books L W W') (hL : w.heap.size ≤ L) : Turned F w W' :=
  ⟨hb.os.trans h.os, hb.tape.trans h.tape, hb.output.trans h.output, by rw [hb.size]; exact h.size, fun j hj hf => (hb.block j (by omega) (by omega)).trans (h.block j hj hf)⟩
theorem due_books (h : DueSt b ms l now F w k v d W) (hb : Books (w.heap.size + 2) W W') (hlt : ∀ i g, i < 16 → mAt ms i = .map (some g) → g < w.heap.size) (hbw : b < w.heap.size) : DueSt b ms l now F w k v d W' :=
  ⟨blk_books h.bnow hb (by omega) (by omega), blk_books h.bdue hb (by omega) (by omega), owns_keep h.own fun g hg _ => hb.block g (by omega) (by omega), h.perm,
    fun i hi => (h.slot i hi).keep fun g hg => hb.block g (by have := hlt i g hi hg; omega) (by have := hlt i g hi hg; omega), turned_books h.turn hb (by omega), blk_books h.blk hb (by omega) (by omega)⟩
theorem due_step {w4 w5 : World} {v5 : Value} {d5 : List Tm} (h : DueSt b ms l now F w k v d W) (hk : k < 16) (hW : w.heap.size + 4 ≤ W.heap.size) (hbw : b < w.heap.size)
    (hlt : ∀ i g, i < 16 → mAt ms i = .map (some g) → g < w.heap.size) (hap : ∀ i j g, i < 16 → j < 16 → mAt ms i = .map (some g) → mAt ms j = .map (some g) → i = j) (hbm : ∀ i, i < 16 → mAt ms i ≠ .map (some b))
    (hF : ∀ i g, i < 16 → mAt ms i = .map (some g) → F g)
    (hT : Turned (fun j => mAt ms k = .map (some j)) W w4) (hs4 : Slot w4 (mAt ms k) (restOf (slotL l k) now)) (hg : w4.grownBy w5 v.ownBlock)
    (h5 : w5.ownsRow (w.heap.size + 4) 62 2 v5 (d.length + (rowsW d5).length) ((rowsW d).flatten ++ (rowsW d5).flatten)) (hd : d5.Perm (dueOf (slotL l k) now)) :
    (w5.setCell ⟨w.heap.size + 1, 0, none⟩ v5).heap[w.heap.size + 2]? = W.heap[w.heap.size + 2]? ∧ (w5.setCell ⟨w.heap.size + 1, 0, none⟩ v5).heap[w.heap.size + 2 + 1]? = W.heap[w.heap.size + 2 + 1]? ∧ ∃ v d, DueSt b ms l now F w (k + 1) v d (w5.setCell ⟨w.heap.size + 1, 0, none⟩ v5) := by
  have hob : ∀ g, v.ownBlock = some g → w.heap.size + 4 ≤ g := fun g hg => owns_row h.own hg
  have hmk : ∀ j, w.heap.size ≤ j → ¬ mAt ms k = .map (some j) := fun j hj e => by have := hlt k j hk e; omega
  have hs4' := hT.size
  have far : ∀ j, j < w.heap.size + 4 → j ≠ w.heap.size + 1 → (w5.setCell ⟨w.heap.size + 1, 0, none⟩ v5).heap[j]? = w4.heap[j]? := fun j hj hne => by
    rw [Below.heap_setCell _ _ _ _ hne]
    exact hg.block j (by omega) (fun e => by have := hob j e.symm; omega)
  have same : ∀ j, w.heap.size ≤ j → j < w.heap.size + 4 → j ≠ w.heap.size + 1 → (w5.setCell ⟨w.heap.size + 1, 0, none⟩ v5).heap[j]? = W.heap[j]? := fun j h1 h2 h3 =>
    (far j h2 h3).trans (hT.block j (by omega) (hmk j h1))
  refine ⟨same _ (by omega) (by omega) (by omega), same _ (by omega) (by omega) (by omega), v5, d ++ d5, ⟨(same _ (by omega) (by omega) (by omega)).trans h.bnow, ?_, ?_, ?_, fun i hi => ?_, ?_, ?_⟩⟩
  · have e1 : w5.heap[w.heap.size + 1]? = some (.cells #[v] 57 (0, 0)) := (hg.block _ (by omega) (fun e => by have := hob _ e.symm; omega)).trans ((hT.block _ (by omega) (hmk _ (by omega))).trans h.bdue)
    exact blk_set e1 0 v5
  · have e2 : (rowsW (d ++ d5)).flatten = (rowsW d).flatten ++ (rowsW d5).flatten := by unfold rowsW; rw [List.map_append, List.flatten_append]
    rw [e2, List.length_append, ← rowsW_len d5]
    exact owns_keep h5 fun g hg _ => Below.heap_setCell _ _ _ _ (by simp only; omega)
  · show (d ++ d5).Perm (dueOf (flatW l k ++ slotL l k) now)
    unfold dueOf
    rw [List.filter_append]
    exact h.perm.append hd
  · by_cases e : i = k
    · subst e
      rw [if_pos (by omega)]
      exact hs4.keep fun g hg => far g (by have := hlt i g hi hg; omega) (by have := hlt i g hi hg; omega)
    · have h1 := h.slot i hi
      have e2 : (if i < k + 1 then restOf (slotL l i) now else slotL l i) = if i < k then restOf (slotL l i) now else slotL l i := by
        by_cases e3 : i < k
        · rw [if_pos e3, if_pos (by omega)]
        · rw [if_neg e3, if_neg (by omega)]
      rw [e2]
      exact h1.keep fun g hg => (far g (by have := hlt i g hi hg; omega) (by have := hlt i g hi hg; omega)).trans (hT.block g (h1.lt hg) (fun e3 => e (hap i k g hi hk hg e3)))
  · refine ⟨hg.os.trans (hT.os.trans h.turn.os), hg.tape.trans (hT.tape.trans h.turn.tape), hg.output.trans (hT.output.trans h.turn.output), ?_, fun j hj hf => ?_⟩
    · have := hg.size; rw [World.size_setCell]; omega
    · exact (far j (by omega) (by omega)).trans ((hT.block j (by omega) (fun e => hf (hF k j hk e))).trans (h.turn.block j hj hf))
  · exact (far b (by omega) (by omega)).trans ((hT.block b (by omega) (hbm k hk)).trans h.blk)
end
end Go.Proofs.Ytpdlpnfaclpgbaa
