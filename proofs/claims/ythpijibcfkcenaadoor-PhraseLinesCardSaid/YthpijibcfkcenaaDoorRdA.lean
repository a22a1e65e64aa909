/- Rows of elements of several cells: the first ones; appended to what is the call's own. Of any program. Conditions: as stated. -/
import Derived.Test.YthpijibcfkcenaaDoorRdm
import Derived.Test.YthpijibcfkcenaaDoorRdI
namespace Go.Proofs.YthpijibcfkcenaaDoor
open Go.ChangeShapes Go.WideShapes Go.ChangeAt Go.RowKit
set_option linter.unusedVariables false
set_option maxRecDepth 100000

theorem RdK.take {w : World} {K : Nat → Prop} {rs : List (List Value)} {m : Nat} (k : Nat) {A : Option Addr} {l c : Nat} (h : RdK m w K (.slice A l c) rs) (hk : k ≤ rs.length) : RdK m w K (.slice A k c) (rs.take k) := by
  obtain ⟨A', c', h1, h2, hm, h3⟩ := h
  cases h1
  have hl : (rs.take k).length = k := by rw [List.length_take]; omega
  refine ⟨A, c, by rw [hl], by omega, hm, fun h0 => ?_⟩
  obtain ⟨b, o, ha, hlt, hb, hc⟩ := h3 (by omega)
  refine ⟨b, o, ha, hlt, hb, fun i r hi j x hj => hc i r ?_ j x hj⟩
  have hik : i < k := by have := (List.getElem?_eq_some_iff.1 hi).1; omega
  rw [List.getElem?_take_of_lt hik] at hi
  exact hi
/-- 'append(s, x...)': s of the call's own, x read, wherever it lies. -/
theorem wpList_append_rdK {P : Program} {w : World} {ops : Array Oper} {rest : List Oper} {o : Oper} {a : Act} {Q : Exit → Act → World → Prop} (hgd : o.guard = none) (s x : Operand) (t : TypeId)
    (ho : o.op = .call { callee := .builtin .append, args := #[s, x], argTypes := #[t, t] }) (base : Nat) (e : TypeId) (z : Value) (size bytes : Nat) (hinfo : (P.info? e).map (fun i => (i.zero, i.size, i.bytes)) = some (some z, size, bytes)) (hzs : z.cells.size = size) (hsz : 0 < size) (hby : bytes ≤ 1000) (ht : P.underlying t = some (.slice e))
    (v : Value) (n : Nat) (xs : List Value) (hs : a.eval s = v) (hown : w.ownsRow base e size v n xs) (K : Nat → Prop) (sv : Value) (rs : List (List Value)) (hx : a.eval x = sv) (hr : RdK size w K sv rs) (hm : ∀ r ∈ rs, r.length = size) (h1 : ∀ u ∈ rs.flatten, u.oneCell' = true) (hn : n + rs.length ≤ 1000000) (hbase : base ≤ w.heap.size)
    (h : ∀ v' w', w'.ownsRow base e size v' (n + rs.length) (xs ++ rs.flatten) → w.grownBy w' v.ownBlock → wpList P ops Q rest (a.put o.dst v') w') : wpList P ops Q (o :: rest) a w := by
  obtain ⟨i0, hi, hz0, hz1, hz2⟩ := info_parts hinfo
  obtain ⟨A, c, rfl, h2, h3⟩ := hr.form
  cases A with
  | none =>
    obtain rfl : rs = [] := by
      cases rs with
      | nil => rfl
      | cons y r =>
        obtain ⟨b, o', e', _⟩ := hr.at_ (k := 0) (by simp)
        cases e'
    refine wpList_plain hgd fun K' hK' => ?_
    have hx' : a.eval x = .slice none 0 c := hx
    have hrun := run_append_none_c (P := P) (w := w) base t o.type e i0 size c ht hi v n xs hown
    unfold Oper.wp
    simp [execOp, ho, resolve, invoke, builtin, hs, hx', hrun, Result.andThen]
    exact hK' _ _ (h v w (by simpa using hown) ⟨rfl, rfl, rfl, Nat.le_refl _, fun _ _ _ => rfl⟩)
  | some ad =>
    refine wpList_append_own w hgd s x t ho base e i0 z size bytes ht hi hz0 hz1 hz2 hzs hsz v n xs hs hown ad rs.length c rs.flatten hx (flat_len size rs hm) ?_ h1 (by unfold maxLen; omega) ?_ hbase ?_
    · exact RdK.cells hr hsz hm
    · have : (n + rs.length) * bytes ≤ 1000000 * 1000 := Nat.mul_le_mul hn hby
      omega
    · intro v' w' h5 h6 _
      exact h v' w' h5 h6
theorem run_append_rdK {P : Program} {w : World} (t ty : TypeId) (base : Nat) (e : TypeId) (z : Value) (size bytes : Nat) (hinfo : (P.info? e).map (fun i => (i.zero, i.size, i.bytes)) = some (some z, size, bytes)) (hzs : z.cells.size = size) (hsz : 0 < size) (hby : bytes ≤ 1000) (ht : P.underlying t = some (.slice e))
    (v : Value) (n : Nat) (xs : List Value) (hown : w.ownsRow base e size v n xs) (K : Nat → Prop) (sv : Value) (rs : List (List Value)) (hr : RdK size w K sv rs) (hm : ∀ r ∈ rs, r.length = size) (h1 : ∀ u ∈ rs.flatten, u.oneCell' = true) (hn : n + rs.length ≤ 1000000) (hbase : base ≤ w.heap.size) :
    ∃ v' w', (Builtin.append_ #[t, t] ty #[v, sv]).run P w = .ok v' w' ∧ w'.ownsRow base e size v' (n + rs.length) (xs ++ rs.flatten) ∧ w.grownBy w' v.ownBlock := by
  obtain ⟨i0, hi, hz0, hz1, hz2⟩ := info_parts hinfo
  obtain ⟨A, c, rfl, h2, h3⟩ := hr.form
  cases A with
  | none =>
    obtain rfl : rs = [] := by
      cases rs with
      | nil => rfl
      | cons y r =>
        obtain ⟨b, o', e', _⟩ := hr.at_ (k := 0) (by simp)
        cases e'
    exact ⟨v, w, run_append_none_c (P := P) (w := w) base t ty e i0 size c ht hi v n xs hown, by simpa using hown, ⟨rfl, rfl, rfl, Nat.le_refl _, fun _ _ _ => rfl⟩⟩
  | some ad =>
    obtain ⟨v', w', e1, e2, e3, _⟩ := run_append_own (P := P) w base t ty e i0 z size bytes ht hi hz0 hz1 hz2 hzs hsz v n xs hown ad rs.length c rs.flatten (flat_len size rs hm) (RdK.cells hr hsz hm) h1 (by unfold maxLen; omega) (by
      have : (n + rs.length) * bytes ≤ 1000000 * 1000 := Nat.mul_le_mul hn hby
      omega) hbase
    exact ⟨v', w', e1, e2, e3⟩
/-- A slice of one element that was written out. -/
theorem rdK_lit1 (w : World) (r : List Value) (cs : Array Value) (t : TypeId) (hc : cs.toList = r) : RdK r.length (w.alloc (.cells cs t)) (fun b => b = w.heap.size) (.slice (some ⟨w.heap.size, 0, none⟩) 1 1) [r] :=
  ⟨some ⟨w.heap.size, 0, none⟩, 1, rfl, Nat.le_refl _, by unfold maxLen; omega, fun _ => ⟨w.heap.size, 0, rfl, by simp, rfl, fun i q hi j x hj => by
    have hi0 : i = 0 := by have := (List.getElem?_eq_some_iff.1 hi).1; simpa using this
    subst hi0
    simp at hi
    subst hi
    rw [blk_cell (blk_new w (.cells cs t)) (0 + 0 * r.length + j), ← Array.getElem?_toList, hc]
    simpa using hj⟩⟩
end Go.Proofs.YthpijibcfkcenaaDoor
