/- A range over a map from numbers to things of any kind, whatever the order: what is still to come, told number by number; the step, a delete in the round; in a walk and in a round of a range over a function. Of any program. Conditions: as stated. -/
import Derived.Test.YtdlkpkigpnlanaaMapF
import Derived.Maps.RangeWalk
import Derived.Maps.OwnIn
namespace Go.Proofs.Ytdlkpkigpnlanaa
open Go.ChangeShapes Go.WideShapes Go.ChangeAt Go.RowKit
open Go.Maps (Keyed int_keyed keyOf_int_mk)
set_option linter.unusedVariables false
set_option maxRecDepth 100000
section
variable {α : Type} {P : Program} {k t e : TypeId} {val : α → Value} {z : α} {w w' : World} {b r n cnt : Nat} {f : Int → Option α} {left : Int → Bool}
def leftB (left : Int → Bool) (id : Int) : Int → Bool := fun i => left i && !(i == id)
/-- Block r goes over the map b, which f tells; left: those still to come, cnt of them. -/
def RgF (P : Program) (k : TypeId) (val : α → Value) (z : α) (w : World) (b r n : Nat) (f : Int → Option α) (left : Int → Bool) (cnt : Nat) : Prop :=
  ∃ D L m, w.ranges P k (RV val) b r m D L cnt ∧ Maps.size D = n ∧ SaysF z D f ∧ ∀ id, inI id → left id = L (.int .i64 id)
theorem RgF.map (h : RgF P k val z w b r n f left cnt) : MapF P k val z w b n f := by
  obtain ⟨D, L, m, h1, h2, h3, h4⟩ := h
  exact ⟨D, by have := owns_tightF h1.owns; rwa [h2] at this, h2, h3⟩
theorem RgF.lt (h : RgF P k val z w b r n f left cnt) : r < w.heap.size := by obtain ⟨D, L, m, h1, _⟩ := h; exact h1.lt
theorem RgF.ne (h : RgF P k val z w b r n f left cnt) : r ≠ b := by obtain ⟨D, L, m, h1, _⟩ := h; exact h1.ne
theorem RgF.left_eq (h : RgF P k val z w b r n f left cnt) : w.rangeLeft b r = cnt := by obtain ⟨D, L, m, h1, _⟩ := h; exact h1.left_eq
theorem RgF.keep (h : RgF P k val z w b r n f left cnt) (hb : w'.heap[b]? = w.heap[b]?) (hr : w'.heap[r]? = w.heap[r]?) : RgF P k val z w' b r n f left cnt := by
  obtain ⟨D, L, m, ⟨es, clock, since, seen, c0, h1, F, hs, hD, h2, rest⟩, hh⟩ := h
  exact ⟨D, L, m, ⟨es, clock, since, seen, c0, hb.trans h1, F, hs, hD, hr.trans h2, rest⟩, hh⟩
theorem RgF.same {g : Int → Option α} {left' : Int → Bool} {n' : Nat} (h : RgF P k val z w b r n f left cnt) (hn : n = n') (hf : ∀ i, f i = g i) (hl : ∀ i, inI i → left i = left' i) : RgF P k val z w b r n' g left' cnt := by
  obtain ⟨D, L, m, h1, h2, h3, h4⟩ := h
  exact ⟨D, L, m, h1, hn ▸ h2, h3.same hf, fun id hid => (hl id hid).symm.trans (h4 id hid)⟩
theorem MapF.range (h : MapF P k val z w b n f) (hk : P.underlying k = some (.int .i64)) (ht : P.underlying t = some (.map k e)) :
    ∃ w', (Instr.range t (.map (some b))).run P w = .ok (.pointer (some ⟨w.heap.size, 0, none⟩)) w' ∧ RgF P k val z w' b w.heap.size n f (fun id => (f id).isSome) n ∧ Below w.heap.size w w' ∧ w'.heap.size = w.heap.size + 1 := by
  obtain ⟨D, h1, h2, h3⟩ := h
  obtain ⟨w', r1, r2, r3, r4⟩ := h1.range (t := t) (e := e) (int_keyed hk) ht
  rw [h2] at r2
  exact ⟨w', r1, ⟨D, _, n, r2, h2, h3, fun id hid => (h3.at_ hid).1.symm⟩, ⟨r3.os, r3.tape, r3.output, r3.size, fun j hj => r3.block j hj (by simp)⟩, r4⟩
theorem RgF.next (h : RgF P k val z w b r n f left cnt) (hi : InjV val) (hk : P.underlying k = some (.int .i64)) (ty : TypeId) :
    (cnt = 0 ∧ (∀ id, inI id → left id = false) ∧ (Instr.next (.pointer (some ⟨r, 0, none⟩)) false ty).run P w = .ok (.tuple #[.bool false]) w) ∨
    ∃ id x w' cnt', inI id ∧ left id = true ∧ f id = some x ∧ (Instr.next (.pointer (some ⟨r, 0, none⟩)) false ty).run P w = .ok (.tuple #[.bool true, .int .i64 id, val x]) w' ∧
      RgF P k val z w' b r n f (leftB left id) cnt' ∧ cnt' < cnt ∧ Only r w w' ∧ w'.heap.size = w.heap.size ∧ (Instr.entry (.pointer (some ⟨r, 0, none⟩))).run P w' = .ok (.tuple #[.int .i64 id, val x]) w' := by
  obtain ⟨D, L, m, h1, h2, h3, h4⟩ := h
  rcases h1.next (int_keyed hk) ty with ⟨h0, hl, hrun⟩ | ⟨key, v, kl, y, w', cnt', hkey, hlk, hv, hat, hrun, hrg, hlt, hgr, hsz, hen⟩
  · exact .inl ⟨h0, fun id hid => (h4 id hid).trans (hl _), hrun⟩
  · obtain ⟨id, rfl, rfl, hwf⟩ := Maps.keyOf_int_inv hk hkey
    obtain ⟨x, rfl, rfl⟩ := rv_inv hv
    have hid : inI id := by
      simp [Lit.wf, IntKind.min, IntKind.max, IntKind.signed, IntKind.bits] at hwf
      unfold inI; omega
    have hf : f id = some x := by
      rcases h3 id hid with ⟨_, e2, _⟩ | ⟨x', e1, _, e3⟩
      · have := hat .nil
        rw [Maps.atKey_of_not_has e2] at this
        cases this
      · rw [hat] at e3
        cases e3
        exact e1
    refine .inr ⟨id, x, w', cnt', hid, (h4 id hid).trans hlk, hf, hrun, ⟨D, _, m, hrg, h2, h3, fun i hi' => ?_⟩, hlt, ⟨hgr.os, hgr.tape, hgr.output, hgr.size, fun j hj hne => hgr.block j hj (fun e' => hne (Option.some.inj e'))⟩, hsz, hen⟩
    unfold leftB
    rw [h4 i hi']
    congr 2
    by_cases e' : i = id
    · subst e'; simp [Lit.sameKey]
    · simp [Lit.sameKey, e']
theorem RgF.del (h : RgF P k val z w b r n f left cnt) (hk : P.underlying k = some (.int .i64)) (ht : P.underlying t = some (.map k e)) {id : Int} (hid : inI id) (ty : TypeId) :
    ∃ w' cnt', (Builtin.delete_ #[t, k] ty #[.map (some b), .int .i64 id]).run P w = .ok (.tuple #[]) w' ∧ RgF P k val z w' b r (n - if (f id).isSome = true then 1 else 0) (delF f id) (leftB left id) cnt' ∧ cnt' ≤ cnt ∧ Only b w w' := by
  obtain ⟨D, L, m, h1, h2, h3, h4⟩ := h
  have hT := h1.owns.tidy (int_keyed hk)
  obtain ⟨w', cnt', hrun, r1, r2, r3⟩ := h1.drop (t := t) (e := e) (int_keyed hk) ht (keyIP hk hid) ty
  refine ⟨w', cnt', hrun, ⟨_, _, m, r1, ?_, h3.del id, fun i hi' => ?_⟩, r2, turned_only r3⟩
  · have hs := Maps.size_del (k := .int .i64 id) hT
    rw [(h3.at_ hid).1] at hs
    omega
  · unfold leftB
    rw [h4 i hi']
    congr 2
    by_cases e' : i = id
    · subst e'; simp [Lit.sameKey]
    · simp [Lit.sameKey, e']
end
section
variable {α : Type} {P : Program} {val : α → Value} {z : α} {w : World} {b r n cnt : Nat} {f : Int → Option α} {left : Int → Bool} {ops : Array Oper} {rest : List Oper} {o : Oper} {a : Act} {Q : Exit → Act → World → Prop}
theorem wpList_range_mapF (hg : o.guard = none) (m : Operand) (t : TypeId) (hop : o.op = Op.range t m) (k e : TypeId) (hk : P.underlying k = some (.int .i64)) (ht : P.underlying t = some (.map k e))
    (hm : a.eval m = .map (some b)) (h : MapF P k val z w b n f)
    (hK : ∀ w', RgF P k val z w' b w.heap.size n f (fun id => (f id).isSome) n → Below w.heap.size w w' → w'.heap.size = w.heap.size + 1 → wpList P ops Q rest (a.put o.dst (.pointer (some ⟨w.heap.size, 0, none⟩))) w') :
    wpList P ops Q (o :: rest) a w := by
  refine wpList_plain hg fun K' hK' => ?_
  obtain ⟨w', hrun, r1, r2, r3⟩ := h.range hk ht
  unfold Oper.wp
  simp [execOp, hop, hm, hrun, Result.andThen]
  exact hK' _ _ (hK w' r1 r2 r3)
theorem wpList_next_mapF (hg : o.guard = none) (it : Operand) (hop : o.op = Op.next it false) (k : TypeId) (hi : InjV val) (hk : P.underlying k = some (.int .i64))
    (hit : a.eval it = .pointer (some ⟨r, 0, none⟩)) (h : RgF P k val z w b r n f left cnt)
    (hDone : cnt = 0 → (∀ id, inI id → left id = false) → wpList P ops Q rest (a.put o.dst (.tuple #[.bool false])) w)
    (hMore : ∀ id x w' cnt', inI id → left id = true → f id = some x → RgF P k val z w' b r n f (leftB left id) cnt' → cnt' < cnt → Only r w w' → w'.heap.size = w.heap.size →
      (Instr.entry (.pointer (some ⟨r, 0, none⟩))).run P w' = .ok (.tuple #[.int .i64 id, val x]) w' → wpList P ops Q rest (a.put o.dst (.tuple #[.bool true, .int .i64 id, val x])) w') :
    wpList P ops Q (o :: rest) a w := by
  refine wpList_plain hg fun K' hK' => ?_
  unfold Oper.wp
  rcases h.next hi hk o.type with ⟨h0, hl, hrun⟩ | ⟨id, x, w', cnt', h1, h2, h3, hrun, h4, h5, h6, h7, h8⟩
  · simp [execOp, hop, hit, hrun, Result.andThen]
    exact hK' _ _ (hDone h0 hl)
  · simp [execOp, hop, hit, hrun, Result.andThen]
    exact hK' _ _ (hMore id x w' cnt' h1 h2 h3 h4 h5 h6 h7 h8)
/-- 'delete(m, k)' in the round. -/
theorem wpList_delete_rgF (hg : o.guard = none) (m x : Operand) (t k : TypeId) (hop : o.op = Op.call { callee := Callee.builtin Builtin.delete, args := #[m, x], argTypes := #[t, k] })
    (e : TypeId) (hk : P.underlying k = some (.int .i64)) (ht : P.underlying t = some (.map k e)) (hm : a.eval m = .map (some b)) (h : RgF P k val z w b r n f left cnt) (id : Int) (hid : inI id) (hx : a.eval x = .int .i64 id)
    (hK : ∀ w' cnt', RgF P k val z w' b r (n - if (f id).isSome = true then 1 else 0) (delF f id) (leftB left id) cnt' → cnt' ≤ cnt → Only b w w' → wpList P ops Q rest (a.put o.dst (.tuple #[])) w') :
    wpList P ops Q (o :: rest) a w := by
  refine wpList_plain hg fun K' hK' => ?_
  obtain ⟨w', cnt', hrun, r1, r2, r3⟩ := h.del (t := t) (e := e) hk ht hid o.type
  unfold Oper.wp
  simp [execOp, hop, resolve, invoke, builtin, hm, hx, hrun, Result.andThen]
  exact hK' _ _ (hK w' cnt' r1 r2 r3)
variable {F : Fence} {nF : Nat}
theorem wpListIn_range_mapF (hg : o.guard = none) (m : Operand) (t : TypeId) (hop : o.op = Op.range t m) (k e : TypeId) (hk : P.underlying k = some (.int .i64)) (ht : P.underlying t = some (.map k e))
    (hm : a.eval m = .map (some b)) (h : MapF P k val z w b n f)
    (hK : ∀ w', RgF P k val z w' b w.heap.size n f (fun id => (f id).isSome) n → Below w.heap.size w w' → w'.heap.size = w.heap.size + 1 → wpListIn F nF P ops Q rest (a.put o.dst (.pointer (some ⟨w.heap.size, 0, none⟩))) w') :
    wpListIn F nF P ops Q (o :: rest) a w := by
  refine wpListIn_plain hg fun K' hK' => ?_
  obtain ⟨w', hrun, r1, r2, r3⟩ := h.range hk ht
  unfold Oper.wpIn
  refine ⟨by simp [Oper.about, hop], ?_⟩
  rw [Oper.semAt_plain F _ _ (by rw [hop]; intro c hc'; cases hc')]
  simp [execOp, hop, hm, hrun, Result.andThen]
  exact hK' _ _ (hK w' r1 r2 r3)
theorem wpListIn_next_mapF (hg : o.guard = none) (it : Operand) (hop : o.op = Op.next it false) (k : TypeId) (hi : InjV val) (hk : P.underlying k = some (.int .i64))
    (hit : a.eval it = .pointer (some ⟨r, 0, none⟩)) (h : RgF P k val z w b r n f left cnt)
    (hDone : cnt = 0 → (∀ id, inI id → left id = false) → wpListIn F nF P ops Q rest (a.put o.dst (.tuple #[.bool false])) w)
    (hMore : ∀ id x w' cnt', inI id → left id = true → f id = some x → RgF P k val z w' b r n f (leftB left id) cnt' → cnt' < cnt → Only r w w' → w'.heap.size = w.heap.size →
      (Instr.entry (.pointer (some ⟨r, 0, none⟩))).run P w' = .ok (.tuple #[.int .i64 id, val x]) w' → wpListIn F nF P ops Q rest (a.put o.dst (.tuple #[.bool true, .int .i64 id, val x])) w') :
    wpListIn F nF P ops Q (o :: rest) a w := by
  refine wpListIn_plain hg fun K' hK' => ?_
  unfold Oper.wpIn
  refine ⟨by simp [Oper.about, hop], ?_⟩
  rw [Oper.semAt_plain F _ _ (by rw [hop]; intro c hc'; cases hc')]
  rcases h.next hi hk o.type with ⟨h0, hl, hrun⟩ | ⟨id, x, w', cnt', h1, h2, h3, hrun, h4, h5, h6, h7, h8⟩
  · simp [execOp, hop, hit, hrun, Result.andThen]
    exact hK' _ _ (hDone h0 hl)
  · simp [execOp, hop, hit, hrun, Result.andThen]
    exact hK' _ _ (hMore id x w' cnt' h1 h2 h3 h4 h5 h6 h7 h8)
end
end Go.Proofs.Ytdlkpkigpnlanaa
