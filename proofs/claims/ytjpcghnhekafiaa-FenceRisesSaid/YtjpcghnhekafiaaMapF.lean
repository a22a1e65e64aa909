/- Maps from numbers to things of any kind: what a map in memory says of each number, behind each store, delete and look-up. Conditions: as stated. -/
import Derived.Test.YtjpcghnhekafiaaKit
import Derived.Test.YtjpcghnhekafiaaPlains
import Derived.Maps.OwnSet
import Derived.Maps.OwnOps
import Derived.Maps.Views
import Derived.Lib.SlKeysI
namespace Go.Proofs.Ytjpcghnhekafiaa
open Go.ChangeShapes Go.WideShapes Go.ChangeAt Go.RowKit
open Go.Maps (Keyed int_keyed keyOf_int_mk)
set_option linter.unusedVariables false
set_option maxRecDepth 100000

theorem lit_wf {n : Int} (h : inI n) : (Lit.int .i64 n).wf = true := by
  unfold inI at h
  simp [Lit.wf, IntKind.min, IntKind.max, IntKind.signed, IntKind.bits]; omega
theorem lit_ne {a b : Int} (h : a ≠ b) : (Lit.int .i64 a) ≠ Lit.int .i64 b := fun e => h (by cases e; rfl)
section
variable {α : Type}
def InjV (val : α → Value) : Prop := ∀ x y, val x = val y → x = y
open Classical in
/-- How an element reads. -/
noncomputable def RV (val : α → Value) (v : Value) : Option (DataW α × List MemPlace) := if h : ∃ x, val x = v then some (.held h.choose, []) else none
theorem rv_mk {val : α → Value} (hi : InjV val) (x : α) : RV val (val x) = some (.held x, []) := by
  have h : ∃ y, val y = val x := ⟨x, rfl⟩
  unfold RV
  rw [dif_pos h, hi _ _ h.choose_spec]
theorem rv_inv {val : α → Value} {v : Value} {z : DataW α × List MemPlace} (h : RV val v = some z) : ∃ x, v = val x ∧ z = (.held x, []) := by
  unfold RV at h
  split at h
  · rename_i hh
    cases h
    exact ⟨_, hh.choose_spec.symm, rfl⟩
  · cases h
/-- What the datum says of each number. -/
def SaysF (z : α) (D : DataW α) (f : Int → Option α) : Prop := ∀ id, inI id → (f id = none ∧ Maps.has D (.int .i64 id) = false ∧ D.atKey (.int .i64 id) (.held z) = .held z) ∨ ∃ x, f id = some x ∧ Maps.has D (.int .i64 id) = true ∧ D.atKey (.int .i64 id) (.held z) = .held x
def setF (f : Int → Option α) (id : Int) (x : α) : Int → Option α := fun i => if i = id then some x else f i
def delF (f : Int → Option α) (id : Int) : Int → Option α := fun i => if i = id then none else f i
theorem SaysF.put {z : α} {D : DataW α} {f : Int → Option α} (h : SaysF z D f) (hM : Maps.IsMap D) {id : Int} (hid : inI id) (x : α) : SaysF z (D.put (.int .i64 id) (.held x)) (setF f id x) := by
  intro i hi
  unfold setF
  by_cases e : i = id
  · subst e
    refine .inr ⟨x, if_pos rfl, Maps.has_put_same hM ?_ _, Maps.atKey_put_same hM ?_ _ _⟩ <;> trivial
  · rw [if_neg e, Maps.has_put_other (lit_ne e), Maps.atKey_put_other (lit_ne e)]
    exact h i hi
theorem SaysF.del {z : α} {D : DataW α} {f : Int → Option α} (h : SaysF z D f) (id : Int) : SaysF z (D.del (.int .i64 id)) (delF f id) := by
  intro i hi
  unfold delF
  by_cases e : i = id
  · subst e
    exact .inl ⟨if_pos rfl, Maps.has_del_same, Maps.atKey_del_same _⟩
  · rw [if_neg e, Maps.has_del_other (lit_ne e), Maps.atKey_del_other (lit_ne e)]
    exact h i hi
theorem SaysF.same {z : α} {D : DataW α} {f g : Int → Option α} (h : SaysF z D f) (e : ∀ i, f i = g i) : SaysF z D g := by
  intro i hi
  rw [← e i]
  exact h i hi
theorem SaysF.at_ {z : α} {D : DataW α} {f : Int → Option α} (h : SaysF z D f) {id : Int} (hid : inI id) : Maps.has D (.int .i64 id) = (f id).isSome ∧ D.atKey (.int .i64 id) (.held z) = .held ((f id).getD z) := by
  rcases h id hid with ⟨e1, e2, e3⟩ | ⟨x, e1, e2, e3⟩ <;> rw [e1, e2, e3] <;> exact ⟨rfl, rfl⟩
theorem owns_tightF {w : World} {P : Program} {k : TypeId} {R : Value → Option (DataW α × List MemPlace)} {b n : Nat} {D : DataW α} (h : w.ownsMap P k R b n D) : w.ownsMap P k R b (Maps.size D) D := by
  obtain ⟨es, clock, hb, F, hs, rfl⟩ := h
  exact ⟨es, clock, hb, F, by simp [Maps.size, length_sorted], rfl⟩
/-- Block bm is a map of n numbers, of which f says what each has. -/
def MapF (P : Program) (k : TypeId) (val : α → Value) (z : α) (w : World) (bm n : Nat) (f : Int → Option α) : Prop := ∃ D, w.ownsMap P k (RV val) bm n D ∧ Maps.size D = n ∧ SaysF z D f
variable {P : Program} {k t e : TypeId} {val : α → Value} {z : α} {w w' : World} {bm n : Nat} {f : Int → Option α}
theorem MapF.keep (h : MapF P k val z w bm n f) (hk : w'.heap[bm]? = w.heap[bm]?) : MapF P k val z w' bm n f := by
  obtain ⟨D, ⟨es, clock, hb, F, hs, hD⟩, h2, h3⟩ := h
  exact ⟨D, ⟨es, clock, hk.trans hb, F, hs, hD⟩, h2, h3⟩
theorem MapF.lt (h : MapF P k val z w bm n f) : bm < w.heap.size := by
  obtain ⟨D, h1, _⟩ := h; exact h1.lt
theorem MapF.same {g : Int → Option α} {m : Nat} (h : MapF P k val z w bm n f) (e : ∀ i, f i = g i) (hn : n = m) : MapF P k val z w bm m g := by
  subst hn
  obtain ⟨D, h1, h2, h3⟩ := h
  exact ⟨D, h1, h2, h3.same e⟩
theorem mapF_made (w : World) (P : Program) (k : TypeId) (val : α → Value) (z : α) : MapF P k val z (w.alloc (.map #[] 0)) w.heap.size 0 (fun _ => none) :=
  ⟨.map [], World.ownsMap_made _ _ _ _, rfl, fun _ _ => .inl ⟨rfl, rfl, rfl⟩⟩
theorem keyIP (hk : P.underlying k = some (.int .i64)) {i : Int} (h : inI i) : keyOf P k (.int .i64 i) = some (.int .i64 i) := keyOf_int_mk hk (lit_wf h)
theorem turned_only {w w' : World} {b : Nat} (h : w.mapTurned w' b) : Only b w w' := by
  have hg := h.grown
  exact ⟨hg.os, hg.tape, hg.output, hg.size, fun j hj hne => hg.block j hj (fun e => hne (Option.some.inj e))⟩
/-- m[id] = x. -/
theorem MapF.store (h : MapF P k val z w bm n f) (hi : InjV val) (hk : P.underlying k = some (.int .i64)) (ht : P.underlying t = some (.map k e)) (hn : n < maxLen) {id : Int} (hid : inI id) (x : α) :
    ∃ w', (Instr.mapUpdate t (.map (some bm)) (.int .i64 id) (val x)).run P w = .ok () w' ∧ MapF P k val z w' bm (n + if (f id).isNone = true then 1 else 0) (setF f id x) ∧ Only bm w w' := by
  obtain ⟨D, h1, h2, h3⟩ := h
  have hT := h1.tidy (int_keyed hk)
  obtain ⟨w', hr, ho, hm⟩ := h1.store (t := t) (e := e) (int_keyed hk) ht hn (keyIP hk hid) (rv_mk hi x)
  refine ⟨w', hr, ⟨_, owns_tightF ho |>.mono ?_, ?_, h3.put hT.isMap hid x⟩, turned_only hm⟩
  · rw [Maps.size_put hT, h2]
    rcases h3 id hid with ⟨e1, e2, _⟩ | ⟨j, e1, e2, _⟩ <;> rw [e1, e2] <;> simp
  · rw [Maps.size_put hT, h2]
    rcases h3 id hid with ⟨e1, e2, _⟩ | ⟨j, e1, e2, _⟩ <;> rw [e1, e2] <;> simp
/-- delete(m, id). -/
theorem MapF.del (h : MapF P k val z w bm n f) (hk : P.underlying k = some (.int .i64)) (ht : P.underlying t = some (.map k e)) {id : Int} (hid : inI id) (ty : TypeId) :
    ∃ w', (Builtin.delete_ #[t, k] ty #[.map (some bm), .int .i64 id]).run P w = .ok (.tuple #[]) w' ∧ MapF P k val z w' bm (n - if (f id).isSome = true then 1 else 0) (delF f id) ∧ Only bm w w' := by
  obtain ⟨D, h1, h2, h3⟩ := h
  have hT := h1.tidy (int_keyed hk)
  obtain ⟨w', hr, ho, hm⟩ := h1.drop (t := t) (e := e) (int_keyed hk) ht (keyIP hk hid) ty
  have hs := Maps.size_del (k := .int .i64 id) hT
  have e1 : Maps.size (D.del (.int .i64 id)) = n - if (f id).isSome = true then 1 else 0 := by
    rw [(h3.at_ hid).1] at hs
    omega
  exact ⟨w', hr, ⟨_, (owns_tightF ho).mono (by rw [e1]; exact Nat.le_refl _), e1, h3.del id⟩, turned_only hm⟩
/-- m[id]. -/
theorem MapF.look (h : MapF P k val z w bm n f) (hi : InjV val) (hk : P.underlying k = some (.int .i64)) (ht : P.underlying t = some (.map k e)) (hz : (zeroValue e).run P w = .ok (val z) w) {id : Int} (hid : inI id) :
    (Instr.lookup t (.map (some bm)) (.int .i64 id) false).run P w = .ok (val ((f id).getD z)) w := by
  obtain ⟨D, h1, h2, h3⟩ := h
  obtain ⟨v, ps, hr, hv⟩ := h1.lookup (int_keyed hk) ht hz (rv_mk hi z) (keyIP hk hid)
  rw [(h3.at_ hid).2] at hv
  obtain ⟨x, rfl, e⟩ := rv_inv hv
  cases e
  exact hr
/-- x, ok := m[id]. -/
theorem MapF.look_ok (h : MapF P k val z w bm n f) (hi : InjV val) (hk : P.underlying k = some (.int .i64)) (ht : P.underlying t = some (.map k e)) (hz : (zeroValue e).run P w = .ok (val z) w) {id : Int} (hid : inI id) :
    (Instr.lookup t (.map (some bm)) (.int .i64 id) true).run P w = .ok (.tuple #[val ((f id).getD z), .bool (f id).isSome]) w := by
  obtain ⟨D, h1, h2, h3⟩ := h
  obtain ⟨v, ps, hr, hv⟩ := h1.look_ok (int_keyed hk) ht hz (rv_mk hi z) (keyIP hk hid)
  rw [(h3.at_ hid).2] at hv
  rw [(h3.at_ hid).1] at hr
  obtain ⟨x, rfl, e⟩ := rv_inv hv
  cases e
  exact hr
/-- len(m). -/
theorem MapF.len (h : MapF P k val z w bm n f) (ht : P.underlying t = some (.map k e)) (ty : TypeId) : (Builtin.len_ #[t] ty #[.map (some bm)]).run P w = .ok (.int .i64 n) w := by
  obtain ⟨D, h1, h2, h3⟩ := h
  rw [← h2]
  exact h1.len ht ty
/-- clear(m). -/
theorem MapF.clear (h : MapF P k val z w bm n f) (ht : P.underlying t = some (.map k e)) (ty : TypeId) :
    ∃ w', (Builtin.clear_ #[t] ty #[.map (some bm)]).run P w = .ok (.tuple #[]) w' ∧ MapF P k val z w' bm 0 (fun _ => none) ∧ Only bm w w' := by
  obtain ⟨D, ⟨es, clock, hb, F, hs, hD⟩, h2, h3⟩ := h
  refine ⟨ChangeMaps.setBlock w bm (.map #[] clock), ?_, ⟨.map [], ⟨#[], clock, ChangeMaps.heap_setBlock_same hb _, ⟨by simp, MapKept.stamped_empty _, by simp⟩, Nat.le_refl _, rfl⟩, rfl, fun _ _ => .inl ⟨rfl, rfl, rfl⟩⟩, turned_only ⟨es, clock, #[], clock, hb, rfl⟩⟩
  simp [Builtin.clear_, run_underlying ht, MapKept.run_getObj_map hb, MapKept.run_setObj_map _ hb, Result.andThen]
  rfl
theorem nomap_clear (ht : P.underlying t = some (.map k e)) (ty : TypeId) : (Builtin.clear_ #[t] ty #[.map none]).run P w = .ok (.tuple #[]) w := by
  simp [Builtin.clear_, run_underlying ht, Result.andThen]
/-- The numbers that a map has, in whatever order. -/
theorem MapF.keys (h : MapF P k val z w bm n f) (hk : P.underlying k = some (.int .i64)) {l : List Int} (hn : l.Nodup) (hl : ∀ x, x ∈ l ↔ (inI x ∧ (f x).isSome = true)) : ∃ D, w.ownsMap P k (RV val) bm n D ∧ Maps.size D = n ∧ l.Perm (intKeys D) := by
  obtain ⟨D, h1, h2, h3⟩ := h
  refine ⟨D, h1, h2, ?_⟩
  have hw := intKeys_wf h1 hk
  obtain ⟨es, hD, hpw, _⟩ := h1.entries (int_keyed hk)
  obtain ⟨es', hD', hko⟩ := h1.keysOf
  obtain rfl : es = es' := by rw [hD] at hD'; simpa using hD'
  subst hD
  refine perm_intKeys hpw (fun p hp => by obtain ⟨v, hv⟩ := hko p hp; obtain ⟨x, _, hx, _⟩ := Maps.keyOf_i64 hk hv; exact ⟨x, hx⟩) hn (fun x => ?_)
  rw [hl x]
  constructor
  · rintro ⟨h4, h5⟩
    rw [(h3.at_ h4).1, h5]
  · intro h4
    have h5 : inI x := by
      rw [Maps.has_eq, List.any_eq_true] at h4
      obtain ⟨p, hp, hs⟩ := h4
      obtain ⟨v, hv⟩ := hko p hp
      obtain ⟨a, _, ha, hwf⟩ := Maps.keyOf_i64 hk hv
      rw [ha] at hs
      obtain rfl : a = x := by simpa [Lit.sameKey] using hs
      simp [Lit.wf, IntKind.min, IntKind.max, IntKind.signed, IntKind.bits] at hwf
      unfold inI; omega
    exact ⟨h5, by rw [← (h3.at_ h5).1, h4]⟩
/-- A nil map. -/
theorem nomap_look (hk : P.underlying k = some (.int .i64)) (ht : P.underlying t = some (.map k e)) (hz : (zeroValue e).run P w = .ok (val z) w) {id : Int} (hid : inI id) :
    (Instr.lookup t (.map none) (.int .i64 id) false).run P w = .ok (val z) w := by
  have := Maps.look_nil (w := w) false (t := t) (e := e) (int_keyed hk) ht hz (keyIP hk hid)
  simpa using this
theorem nomap_look_ok (hk : P.underlying k = some (.int .i64)) (ht : P.underlying t = some (.map k e)) (hz : (zeroValue e).run P w = .ok (val z) w) {id : Int} (hid : inI id) :
    (Instr.lookup t (.map none) (.int .i64 id) true).run P w = .ok (.tuple #[val z, .bool false]) w := by
  have := Maps.look_nil (w := w) true (t := t) (e := e) (int_keyed hk) ht hz (keyIP hk hid)
  simpa using this
theorem nomap_del (hk : P.underlying k = some (.int .i64)) (ht : P.underlying t = some (.map k e)) {id : Int} (hid : inI id) (ty : TypeId) :
    (Builtin.delete_ #[t, k] ty #[.map none, .int .i64 id]).run P w = .ok (.tuple #[]) w := Maps.drop_nil (int_keyed hk) ht (keyIP hk hid) ty
/-- 'delete(m, id)' at the operation. -/
theorem wpList_delete_mapF {ops : Array Oper} {rest : List Oper} {o : Oper} {a : Act} {Q : Exit → Act → World → Prop} (hg : o.guard = none) (m x : Operand) (t k : TypeId) (hop : o.op = Op.call { callee := Callee.builtin Builtin.delete, args := #[m, x], argTypes := #[t, k] })
    (e : TypeId) (hk : P.underlying k = some (.int .i64)) (ht : P.underlying t = some (.map k e)) (bm n : Nat) (hm : a.eval m = .map (some bm)) (h : MapF P k val z w bm n f) (id : Int) (hid : inI id) (hx : a.eval x = .int .i64 id) (n' : Nat) (hn' : (n - if (f id).isSome = true then 1 else 0) = n')
    (hK : ∀ w', MapF P k val z w' bm n' (delF f id) → Only bm w w' → wpList P ops Q rest (a.put o.dst (.tuple #[])) w') :
    wpList P ops Q (o :: rest) a w := by
  refine wpList_plain hg fun K' hK' => ?_
  obtain ⟨w', hrun, r1, r2⟩ := h.del (t := t) (e := e) hk ht hid o.type
  rw [hn'] at r1
  unfold Oper.wp
  simp [execOp, hop, resolve, invoke, builtin, hm, hx, hrun, Result.andThen]
  exact hK' _ _ (hK w' r1 r2)
theorem wpList_delete_nomap {ops : Array Oper} {rest : List Oper} {o : Oper} {a : Act} {Q : Exit → Act → World → Prop} (hg : o.guard = none) (m x : Operand) (t k : TypeId) (hop : o.op = Op.call { callee := Callee.builtin Builtin.delete, args := #[m, x], argTypes := #[t, k] })
    (e : TypeId) (hk : P.underlying k = some (.int .i64)) (ht : P.underlying t = some (.map k e)) (hm : a.eval m = .map none) (id : Int) (hid : inI id) (hx : a.eval x = .int .i64 id)
    (hK : wpList P ops Q rest (a.put o.dst (.tuple #[])) w) :
    wpList P ops Q (o :: rest) a w := by
  refine wpList_plain hg fun K' hK' => ?_
  have hrun := nomap_del (w := w) hk ht hid o.type
  unfold Oper.wp
  simp [execOp, hop, resolve, invoke, builtin, hm, hx, hrun, Result.andThen]
  exact hK' _ _ hK
/-- 'clear(m)' at the operation. -/
theorem wpList_clear_mapF {ops : Array Oper} {rest : List Oper} {o : Oper} {a : Act} {Q : Exit → Act → World → Prop} (hg : o.guard = none) (m : Operand) (t : TypeId) (hop : o.op = Op.call { callee := Callee.builtin Builtin.clear, args := #[m], argTypes := #[t] })
    (k e : TypeId) (ht : P.underlying t = some (.map k e)) (bm n : Nat) (hm : a.eval m = .map (some bm)) (h : MapF P k val z w bm n f)
    (hK : ∀ w', MapF P k val z w' bm 0 (fun _ => none) → Only bm w w' → wpList P ops Q rest (a.put o.dst (.tuple #[])) w') :
    wpList P ops Q (o :: rest) a w := by
  refine wpList_plain hg fun K' hK' => ?_
  obtain ⟨w', hrun, r1, r2⟩ := h.clear (t := t) (e := e) ht o.type
  unfold Oper.wp
  simp [execOp, hop, resolve, invoke, builtin, hm, hrun, Result.andThen]
  exact hK' _ _ (hK w' r1 r2)
/-- 'm[id] = x' at the operation. -/
theorem wpList_store_mapF {ops : Array Oper} {rest : List Oper} {o : Oper} {a : Act} {Q : Exit → Act → World → Prop} (hg : o.guard = none) (m x v : Operand) (t : TypeId) (hop : o.op = Op.mapUpdate t m x v)
    (k e : TypeId) (hi : InjV val) (hk : P.underlying k = some (.int .i64)) (ht : P.underlying t = some (.map k e)) (bm n : Nat) (hn : n < maxLen) (hm : a.eval m = .map (some bm)) (h : MapF P k val z w bm n f) (id : Int) (hid : inI id) (hx : a.eval x = .int .i64 id) (y : α) (hv : a.eval v = val y) (n' : Nat) (hn' : (n + if (f id).isNone = true then 1 else 0) = n')
    (hK : ∀ w', MapF P k val z w' bm n' (setF f id y) → Only bm w w' → wpList P ops Q rest (a.put o.dst undef) w') :
    wpList P ops Q (o :: rest) a w := by
  refine wpList_plain hg fun K' hK' => ?_
  obtain ⟨w', hrun, r1, r2⟩ := h.store (t := t) (e := e) hi hk ht hn hid y
  rw [hn'] at r1
  unfold Oper.wp
  simp [execOp, hop, hm, hx, hv, hrun, Result.andThen]
  exact hK' _ _ (hK w' r1 r2)
end
end Go.Proofs.Ytjpcghnhekafiaa
