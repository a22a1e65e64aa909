/- Slices of numbers: what reads as a list of numbers, in a block of which something is known. Conditions: as stated. -/
import Derived.Test.YtgooepfhapaenaaGreatSlices
import Derived.Test.YtgooepfhapaenaaGreatTurned
import Derived.Laws.AppendOwnNone
namespace Go.Proofs.YtgooepfhapaenaaGreat
open Go.ChangeShapes Go.WideShapes Go.ChangeAt Go.RowKit
set_option linter.unusedVariables false
set_option maxRecDepth 100000

/-- The value is a slice of int that reads as the numbers; its block, if it has any, is one of K. -/
def RdI (w : World) (K : Nat → Prop) (v : Value) (ns : List Int) : Prop :=
  ∃ (A : Option Addr) (c : Nat), v = .slice A ns.length c ∧ ns.length ≤ c ∧ c ≤ maxLen ∧
    (0 < ns.length → ∃ b o, A = some ⟨b, o, none⟩ ∧ b < w.heap.size ∧ K b ∧ ∀ i (hi : i < ns.length), w.cell? ⟨b, o + i, none⟩ = some (.int .i64 ns[i]))
section
variable {w w' : World} {K K' : Nat → Prop} {v : Value} {ns : List Int}
theorem RdI.nil (w : World) (K : Nat → Prop) : RdI w K (.slice none 0 0) [] := ⟨none, 0, rfl, Nat.le_refl _, Nat.zero_le _, fun h => absurd h (by simp)⟩
theorem RdI.keep (h : RdI w K v ns) (hk : ∀ b, K b → b < w.heap.size → w'.heap[b]? = w.heap[b]?) (hs : w.heap.size ≤ w'.heap.size) : RdI w' K v ns := by
  obtain ⟨A, c, h1, h2, hm, h3⟩ := h
  refine ⟨A, c, h1, h2, hm, fun h0 => ?_⟩
  obtain ⟨b, o, ha, hl, hb, hc⟩ := h3 h0
  refine ⟨b, o, ha, by omega, hb, fun i hi => ?_⟩
  rw [← hc i hi]
  unfold World.cell?
  rw [hk b hb hl]
theorem RdI.below (h : RdI w K v ns) (hb : Below w.heap.size w w') : RdI w' K v ns := h.keep (fun b _ hl => hb.block b hl) hb.size
theorem RdI.imp (h : RdI w K v ns) (hk : ∀ b, K b → b < w.heap.size → K' b) : RdI w K' v ns := by
  obtain ⟨A, c, h1, h2, hm, h3⟩ := h
  refine ⟨A, c, h1, h2, hm, fun h0 => ?_⟩
  obtain ⟨b, o, ha, hl, hb, hc⟩ := h3 h0
  exact ⟨b, o, ha, hl, hk b hb hl, hc⟩
theorem RdI.form (h : RdI w K v ns) : ∃ A c, v = .slice A ns.length c ∧ ns.length ≤ c ∧ c ≤ maxLen := by
  obtain ⟨A, c, h1, h2, h3, _⟩ := h; exact ⟨A, c, h1, h2, h3⟩
theorem RdI.at_ {A : Option Addr} {l c k : Nat} (h : RdI w K (.slice A l c) ns) (hk : k < ns.length) : ∃ b o, A = some ⟨b, o, none⟩ ∧ b < w.heap.size ∧ K b ∧ ∀ i (hi : i < ns.length), w.cell? ⟨b, o + i, none⟩ = some (.int .i64 ns[i]) := by
  obtain ⟨A', c', h1, h2, hm, h3⟩ := h
  cases h1
  exact h3 (by omega)
theorem RdI.take (k : Nat) {A : Option Addr} {l c : Nat} (h : RdI w K (.slice A l c) ns) (hk : k ≤ ns.length) : RdI w K (.slice A k c) (ns.take k) := by
  obtain ⟨A', c', h1, h2, hm, h3⟩ := h
  cases h1
  have hl : (ns.take k).length = k := by rw [List.length_take]; omega
  refine ⟨A, c, by rw [hl], by omega, hm, fun h0 => ?_⟩
  obtain ⟨b, o, ha, hlt, hb, hc⟩ := h3 (by omega)
  refine ⟨b, o, ha, hlt, hb, fun i hi => ?_⟩
  rw [hc i (by omega), List.getElem_take]
theorem RdI.drop (k : Nat) {A : Option Addr} {l c : Nat} (h : RdI w K (.slice A l c) ns) (hk : k ≤ ns.length) : RdI w K (sliced A k l c 1) (ns.drop k) := by
  obtain ⟨A', c', h1, h2, hm, h3⟩ := h
  cases h1
  have hl : (ns.drop k).length = ns.length - k := by rw [List.length_drop]
  refine ⟨if k = c then A else A.map (·.add (k * 1)), c - k, ?_, by omega, by omega, fun h0 => ?_⟩
  · unfold sliced
    rw [hl]
    by_cases e : k = c
    · rw [if_pos e.symm, if_pos e]
    · rw [if_neg (fun h => e h.symm), if_neg e]
  · obtain ⟨b, o, ha, hlt, hb, hc⟩ := h3 (by omega)
    subst ha
    refine ⟨b, o + k, ?_, hlt, hb, fun i hi => ?_⟩
    · rw [if_neg (by omega)]
      simp [Addr.add]
    · have hi2 : i < ns.length - k := by omega
      rw [show o + k + i = o + (k + i) by omega, hc (k + i) (by omega), List.getElem_drop]
theorem RdI.own {base n : Nat} {e : TypeId} (h : w.ownsRow base e 1 v n (ints ns)) (hn : ns.length = n) : RdI w (fun b => base ≤ b) v ns := by
  rcases h.2 with ⟨rfl, h0⟩ | ⟨g, cap, cur, rfl, hg, hb, h1, h2, h3, h4⟩
  · obtain rfl : ns = [] := List.eq_nil_of_length_eq_zero (by omega)
    exact RdI.nil w _
  · refine ⟨some ⟨g, 0, none⟩, cap, by rw [hn], by omega, h2, fun h0 => ⟨g, 0, rfl, lt_of_block hb, hg, fun i hi => ?_⟩⟩
    have := h.cells (g := g) rfl i (.int .i64 ns[i]) (by simp [ints, hi])
    rw [show (⟨g, 0 + i, none⟩ : Addr) = (⟨g, 0, none⟩ : Addr).add i by unfold Addr.add; split <;> simp_all]
    exact this
theorem RdI.rd (h : RdI w K v ns) : Rd w w.heap.size v (ints ns) := by
  obtain ⟨A, c, h1, h2, hm, h3⟩ := h
  refine ⟨A, c, by rw [ints_len]; exact h1, by rw [ints_len]; exact h2, hm, fun h0 => ?_⟩
  rw [ints_len] at h0
  obtain ⟨b, o, ha, hl, hb, hc⟩ := h3 h0
  exact ⟨b, o, ha, hl, fun j x hj => by obtain ⟨h5, rfl⟩ := List.getElem?_eq_some_iff.1 hj; rw [ints_get]; exact hc j (by rw [← ints_len]; exact h5)⟩
end
theorem ints_one (ns : List Int) : ∀ u ∈ ints ns, u.oneCell' = true := by
  intro u hu
  obtain ⟨x, _, rfl⟩ := List.mem_map.1 hu
  rfl
theorem ints_append (a b : List Int) : ints (a ++ b) = ints a ++ ints b := by simp [ints]
theorem run_append_none_c {P : Program} {w : World} (base : Nat) (t ty e : TypeId) (i : TypeInfo) (size c : Nat) (ht : P.underlying t = some (.slice e)) (hi : P.info? e = some i)
    (v : Value) (n : Nat) (xs : List Value) (hown : w.ownsRow base e size v n xs) :
    (Builtin.append_ #[t, t] ty #[v, .slice none 0 c]).run P w = .ok v w := by
  rcases hown.2 with ⟨rfl, rfl⟩ | ⟨g, cap, cur, rfl, _, _, hnc, _⟩
  · simp [Builtin.append_, run_underlying ht, sizeOf, typeInfo, hi, Builtin.lenOf, Builtin.firstCells]
  · simp [Builtin.append_, run_underlying ht, sizeOf, typeInfo, hi, Builtin.lenOf, Builtin.firstCells, hnc, storeCells]
/-- 'append(s, x...)': s of the call's own, x read, wherever it lies. -/
theorem wpList_append_rdI {P : Program} {w : World} {ops : Array Oper} {rest : List Oper} {o : Oper} {a : Act} {Q : Exit → Act → World → Prop} (hgd : o.guard = none) (s x : Operand) (t : TypeId)
    (ho : o.op = .call { callee := .builtin .append, args := #[s, x], argTypes := #[t, t] }) (base : Nat) (e : TypeId) (hinfo : (P.info? e).map (fun i => (i.zero, i.size, i.bytes)) = some (some (.int .i64 0), 1, 8)) (ht : P.underlying t = some (.slice e))
    (v : Value) (n : Nat) (xs : List Int) (hs : a.eval s = v) (hown : w.ownsRow base e 1 v n (ints xs)) (K : Nat → Prop) (sv : Value) (ns : List Int) (hx : a.eval x = sv) (hr : RdI w K sv ns) (hn : n + ns.length ≤ 1000000) (hbase : base ≤ w.heap.size)
    (h : ∀ v' w', w'.ownsRow base e 1 v' (n + ns.length) (ints (xs ++ ns)) → w.grownBy w' v.ownBlock → wpList P ops Q rest (a.put o.dst v') w') : wpList P ops Q (o :: rest) a w := by
  obtain ⟨i0, hi, hz0, hz1, hz2⟩ := info_parts hinfo
  obtain ⟨A, c, rfl, h2, h3, h4⟩ := hr
  cases A with
  | none =>
    obtain rfl : ns = [] := by
      cases ns with
      | nil => rfl
      | cons y r =>
        obtain ⟨b, o', e', _⟩ := h4 (by simp)
        cases e'
    refine wpList_plain hgd fun K' hK' => ?_
    have hx' : a.eval x = .slice none 0 c := hx
    have hrun := run_append_none_c (P := P) (w := w) base t o.type e i0 1 c ht hi v n (ints xs) hown
    unfold Oper.wp
    simp [execOp, ho, resolve, invoke, builtin, hs, hx', hrun, Result.andThen]
    exact hK' _ _ (h v w (by simpa using hown) ⟨rfl, rfl, rfl, Nat.le_refl _, fun _ _ _ => rfl⟩)
  | some ad =>
    refine wpList_append_own w hgd s x t ho base e i0 (.int .i64 0) 1 8 ht hi hz0 hz1 hz2 rfl (by decide) v n (ints xs) hs hown ad ns.length c (ints ns) hx (by rw [ints_len]; omega) ?_ (ints_one ns) (by unfold maxLen; omega) (by omega) hbase ?_
    · intro j u hj
      obtain ⟨hlt, rfl⟩ := List.getElem?_eq_some_iff.1 hj
      have hlt' : j < ns.length := by rw [← ints_len]; exact hlt
      obtain ⟨b, o', e', _, _, hc⟩ := h4 (by omega)
      cases e'
      rw [ints_get, ← hc j hlt']
      congr 1
      unfold Addr.add; split <;> simp_all
    · intro v' w' h5 h6 _
      exact h v' w' (by rw [ints_append]; exact h5) h6
/-- 's[:k]', 's[k:]'. -/
theorem run_slice_hd {P : Program} (w : World) (t e : TypeId) (A : Option Addr) (n c k : Nat) {s : Nat} (ht : P.underlying t = some (.slice e)) (hz : ∀ w, (sizeOf e).run P w = .ok s w) (hc : k ≤ c) :
    (Instr.slice t (.slice A n c) none (some (.int .i64 (k : Int))) none).run P w = .ok (.slice A k c) w := by
  have he : P.elem t = e := by unfold Program.elem; rw [ht]
  rw [run_slice_h w t A n c (by rw [he]; exact ht) .i64 (k : Int) (by omega) (by omega), he, hz]
  simp only [Result.andThen, sliced, Int.toNat_natCast, Nat.sub_zero, Nat.zero_mul, addr_add_zero]
  by_cases h0 : c = 0
  · rw [if_pos h0]
  · rw [if_neg h0]; cases A <;> rfl
theorem run_slice_tl {P : Program} (w : World) (t e : TypeId) (A : Option Addr) (n c k : Nat) {s : Nat} (ht : P.underlying t = some (.slice e)) (hz : ∀ w, (sizeOf e).run P w = .ok s w) (hc : k ≤ n) :
    (Instr.slice t (.slice A n c) (some (.int .i64 (k : Int))) none none).run P w = .ok (sliced A k n c s) w := by
  have he : P.elem t = e := by unfold Program.elem; rw [ht]
  rw [run_slice_l w t A n c (by rw [he]; exact ht) .i64 (k : Int) (by omega) (by omega), he, hz]
  simp only [Result.andThen, Int.toNat_natCast]
/-- A slice that was written out. -/
theorem rdI_lit (w : World) (ns : List Int) (cs : Array Value) (t : TypeId) (hc : cs.toList = ints ns) (hl : ns.length ≤ 100000) : RdI (w.alloc (.cells cs t)) (fun b => b = w.heap.size) (.slice (some ⟨w.heap.size, 0, none⟩) ns.length ns.length) ns :=
  ⟨some ⟨w.heap.size, 0, none⟩, ns.length, rfl, Nat.le_refl _, by unfold maxLen; omega, fun _ => ⟨w.heap.size, 0, rfl, by simp, rfl, fun i hi => by
    rw [blk_cell (blk_new w (.cells cs t)) (0 + i), Nat.zero_add, ← Array.getElem?_toList, hc]
    simp [ints, hi]⟩⟩
end Go.Proofs.YtgooepfhapaenaaGreat
