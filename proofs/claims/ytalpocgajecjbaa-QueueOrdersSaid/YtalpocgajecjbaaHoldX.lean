/- A region that draws its order and holds calls of Go functions whose results hang on the world (new slices): taken in the text's order. The calls come up in the text's order (chained); reads go anywhere. Conditions: as stated. -/
import Derived.Test.YtalpocgajecjbaaHold
namespace Go.Proofs.Ytalpocgajecjbaa
open Go.RowKit
set_option linter.unusedVariables false

/-- A call of a Go function. -/
def isFn (o : Oper) : Bool := match o.op with
  | .call c => match c.callee with
    | .value _ => true
    | _ => false
  | _ => false
section
variable {P : Program} {ops : Array Oper} {Q : Exit → Act → World → Prop}
/-- What only reads, or is not wanted. -/
def StepsR (P : Program) (ops : Array Oper) (S : Array Bool → World → Prop) (i : Nat) (o : Oper) (v : Value) (a : Act) : Prop :=
  (Region.wanted o (yielded ops a.tmps) = true ∧ ∀ L w, i ∈ Region.ready .any ops L → S L w → ((execOp a.eval o).run P w = .ok (.value v) w ∨ ((execOp a.eval o).run P w = .ok .skip w ∧ v = undef)) ∧ S (L.setIfInBounds i true) w) ∨
  (Region.wanted o (yielded ops a.tmps) = false ∧ v = undef ∧ ∀ L w, i ∈ Region.ready .any ops L → S L w → S (L.setIfInBounds i true) w)
/-- A call that yields one value. -/
def StepsC (P : Program) (ops : Array Oper) (S : Array Bool → World → Prop) (i : Nat) (o : Oper) (v : Value) (a : Act) : Prop :=
  Region.wanted o (yielded ops a.tmps) = true ∧ isFn o = true ∧ ∀ L w, i ∈ Region.ready .any ops L → S L w → ∃ f args, (execOp a.eval o).run P w = .ok (.enter f args) w ∧ Calls P f args w fun e w' => e = .returned v ∧ S (L.setIfInBounds i true) w'
/-- A call that yields any value of which something is known. -/
def StepsE (P : Program) (ops : Array Oper) (S : Array Bool → World → Prop) (i : Nat) (o : Oper) (F : Value → World → Prop) (a : Act) : Prop :=
  Region.wanted o (yielded ops a.tmps) = true ∧ isFn o = true ∧ ∀ L w, i ∈ Region.ready .any ops L → S L w → ∃ f args, (execOp a.eval o).run P w = .ok (.enter f args) w ∧ Calls P f args w fun e w' => ∃ v, e = .returned v ∧ S (L.setIfInBounds i true) w' ∧ F v w'
def plusS (S : Array Bool → World → Prop) (i : Nat) (F : World → Prop) (L : Array Bool) (w : World) : Prop := S L w ∧ (L.getD i true = true → F w)
theorem StepsR.of_same {S : Array Bool → World → Prop} {i : Nat} {o : Oper} {v : Value} {a a' : Act} (hy : StepsR P ops S i o v a) (he : execOp a'.eval o = execOp a.eval o)
    (hw : Region.wanted o (yielded ops a'.tmps) = Region.wanted o (yielded ops a.tmps)) : StepsR P ops S i o v a' := by
  unfold StepsR at *; rw [he, hw]; exact hy
theorem StepsC.of_same {S : Array Bool → World → Prop} {i : Nat} {o : Oper} {v : Value} {a a' : Act} (hy : StepsC P ops S i o v a) (he : execOp a'.eval o = execOp a.eval o)
    (hw : Region.wanted o (yielded ops a'.tmps) = Region.wanted o (yielded ops a.tmps)) : StepsC P ops S i o v a' := by
  unfold StepsC at *; rw [he, hw]; exact hy
theorem StepsE.of_same {S : Array Bool → World → Prop} {i : Nat} {o : Oper} {F : Value → World → Prop} {a a' : Act} (hy : StepsE P ops S i o F a) (he : execOp a'.eval o = execOp a.eval o)
    (hw : Region.wanted o (yielded ops a'.tmps) = Region.wanted o (yielded ops a.tmps)) : StepsE P ops S i o F a' := by
  unfold StepsE at *; rw [he, hw]; exact hy
theorem StepsR.more {S : Array Bool → World → Prop} {i j : Nat} {o : Oper} {v : Value} {a : Act} {F : World → Prop} (hy : StepsR P ops S i o v a) (hij : i ≠ j) : StepsR P ops (plusS S j F) i o v a := by
  rcases hy with ⟨hw, h⟩ | ⟨hw, hv, h⟩
  · refine .inl ⟨hw, fun L w hr hS => ⟨(h L w hr hS.1).1, (h L w hr hS.1).2, ?_⟩⟩
    rw [getD_set_ne true hij]; exact hS.2
  · refine .inr ⟨hw, hv, fun L w hr hS => ⟨h L w hr hS.1, ?_⟩⟩
    rw [getD_set_ne true hij]; exact hS.2
/-- The operations that are left, in the text's order. -/
def HoldX (P : Program) (ops : Array Oper) (T : Act → (Array Bool → World → Prop) → Prop) : List Nat → Act → (Array Bool → World → Prop) → Prop
  | [], a, S => T a S
  | i :: r, a, S => ∃ o, ops[i]? = some o ∧ ((∃ v, StepsR P ops S i o v a ∧ HoldX P ops T r (a.put o.dst v) S) ∨ (∃ v, StepsC P ops S i o v a ∧ HoldX P ops T r (a.put o.dst v) S) ∨
      (∃ F : Value → World → Prop, StepsE P ops S i o F a ∧ ∀ v, HoldX P ops T r (a.put o.dst v) (plusS S i (F v))))
/-- What becomes of number j, taken now. -/
abbrev OutX (P : Program) (ops : Array Oper) (T : Act → (Array Bool → World → Prop) → Prop) (L : Array Bool) (w : World) (j : Nat) (o : Oper) (l : List Nat) (a : Act) (S : Array Bool → World → Prop) : Prop :=
  (∃ v, ((Region.wanted o (yielded ops a.tmps) = true ∧ ((execOp a.eval o).run P w = .ok (.value v) w ∨ ((execOp a.eval o).run P w = .ok .skip w ∧ v = undef))) ∨ (Region.wanted o (yielded ops a.tmps) = false ∧ v = undef)) ∧ S (L.setIfInBounds j true) w ∧ HoldX P ops T l (a.put o.dst v) S) ∨
  (isFn o = true ∧ Region.wanted o (yielded ops a.tmps) = true ∧ ∃ v f args, (execOp a.eval o).run P w = .ok (.enter f args) w ∧ (Calls P f args w fun e w' => e = .returned v ∧ S (L.setIfInBounds j true) w') ∧ HoldX P ops T l (a.put o.dst v) S) ∨
  (isFn o = true ∧ Region.wanted o (yielded ops a.tmps) = true ∧ ∃ (F : Value → World → Prop) (f : FuncId) (args : Array Value), (execOp a.eval o).run P w = .ok (.enter f args) w ∧ (Calls P f args w fun e w' => ∃ v, e = .returned v ∧ S (L.setIfInBounds j true) w' ∧ F v w') ∧ ∀ v, HoldX P ops T l (a.put o.dst v) (plusS S j (F v)))
theorem HoldX.pick {T : Act → (Array Bool → World → Prop) → Prop} (hsel : Region.noSelect ops = true) {L : Array Bool} {w : World} {j : Nat} {oj : Oper} (hj : ops[j]? = some oj) (hr : j ∈ Region.ready .any ops L) {l2 : List Nat} :
    ∀ (l1 : List Nat) (a : Act) (S : Array Bool → World → Prop), (∀ i ∈ l1, i ≠ j ∧ L.getD i true = false ∧ ∀ oi, ops[i]? = some oi → oi.apart ops oj = true ∧ (isFn oi = true → isFn oj = false)) → S L w → HoldX P ops T (l1 ++ j :: l2) a S →
      OutX P ops T L w j oj (l1 ++ l2) a S
  | [], a, S, _, hS, h => by
    obtain ⟨o, ho, h⟩ := h
    obtain rfl : o = oj := Option.some.inj (ho.symm.trans hj)
    rcases h with ⟨v, hy, h⟩ | ⟨v, ⟨hw, hf, hy⟩, h⟩ | ⟨F, ⟨hw, hf, hy⟩, h⟩
    · rcases hy with ⟨hw, hy⟩ | ⟨hw, hv, hy⟩
      · exact .inl ⟨v, .inl ⟨hw, (hy L w hr hS).1⟩, (hy L w hr hS).2, h⟩
      · exact .inl ⟨v, .inr ⟨hw, hv⟩, hy L w hr hS, h⟩
    · obtain ⟨f, args, h1, h2⟩ := hy L w hr hS
      exact .inr (.inl ⟨hf, hw, v, f, args, h1, h2, h⟩)
    · obtain ⟨f, args, h1, h2⟩ := hy L w hr hS
      exact .inr (.inr ⟨hf, hw, F, f, args, h1, h2, h⟩)
  | i :: l1, a, S, hap, hS, h => by
    obtain ⟨o, ho, h⟩ := h
    obtain ⟨hne, hun, hio⟩ := hap i (by simp)
    obtain ⟨hapt, hfn⟩ := hio o ho
    obtain ⟨h1, h2', h3⟩ := Oper.apart_spec hapt
    have hso := Region.noSelect_spec hsel i o
    have hsj := Region.noSelect_spec hsel j oj
    have hap' : ∀ k ∈ l1, k ≠ j ∧ L.getD k true = false ∧ ∀ oi, ops[k]? = some oi → oi.apart ops oj = true ∧ (isFn oi = true → isFn oj = false) := fun k hk => hap k (by simp [hk])
    have ej : ∀ v, execOp (a.put o.dst v).eval oj = execOp a.eval oj := fun v => execOp_put oj (fun cs b => hsj cs b hj) a o.dst v h1
    have wj : ∀ v, Region.wanted oj (yielded ops (a.put o.dst v).tmps) = Region.wanted oj (yielded ops a.tmps) := fun v => wanted_put oj a o.dst v h1
    have ei : ∀ u, execOp (a.put oj.dst u).eval o = execOp a.eval o := fun u => execOp_put o (fun cs b => hso cs b ho) a oj.dst u h3
    have wi : ∀ u, Region.wanted o (yielded ops (a.put oj.dst u).tmps) = Region.wanted o (yielded ops a.tmps) := fun u => wanted_put o a oj.dst u h3
    have cm : ∀ v u, (a.put o.dst v).put oj.dst u = (a.put oj.dst u).put o.dst v := fun v u => Act.put_comm a v u (fun d hd hd2 => h2' d hd hd2)
    rcases h with ⟨v, hy, h⟩ | ⟨v, hy, h⟩ | ⟨F, hy, h⟩
    · have ih := HoldX.pick hsel hj hr l1 (a.put o.dst v) S hap' hS h
      unfold OutX at ih
      rw [ej, wj] at ih
      rcases ih with ⟨u, hu, hs, hh⟩ | ⟨hf, hw, u, f, args, hu, hc, hh⟩ | ⟨hf, hw, G, f, args, hu, hc, hh⟩
      · exact .inl ⟨u, hu, hs, o, ho, .inl ⟨v, hy.of_same (ei u) (wi u), by rw [← cm]; exact hh⟩⟩
      · exact .inr (.inl ⟨hf, hw, u, f, args, hu, hc, o, ho, .inl ⟨v, hy.of_same (ei u) (wi u), by rw [← cm]; exact hh⟩⟩)
      · exact .inr (.inr ⟨hf, hw, G, f, args, hu, hc, fun u => ⟨o, ho, .inl ⟨v, (hy.of_same (ei u) (wi u)).more hne, by rw [← cm]; exact hh u⟩⟩⟩)
    · have ih := HoldX.pick hsel hj hr l1 (a.put o.dst v) S hap' hS h
      have hfj := hfn hy.2.1
      unfold OutX at ih
      rw [ej, wj] at ih
      rcases ih with ⟨u, hu, hs, hh⟩ | ⟨hf, _⟩ | ⟨hf, _⟩
      · exact .inl ⟨u, hu, hs, o, ho, .inr (.inl ⟨v, hy.of_same (ei u) (wi u), by rw [← cm]; exact hh⟩)⟩
      · rw [hfj] at hf; cases hf
      · rw [hfj] at hf; cases hf
    · have hfj := hfn hy.2.1
      have ih := fun v => HoldX.pick hsel hj hr l1 (a.put o.dst v) (plusS S i (F v)) hap' ⟨hS, fun e => by rw [hun] at e; cases e⟩ (h v)
      have key : ∀ v, ∃ u, ((Region.wanted oj (yielded ops a.tmps) = true ∧ ((execOp a.eval oj).run P w = .ok (.value u) w ∨ ((execOp a.eval oj).run P w = .ok .skip w ∧ u = undef))) ∨ (Region.wanted oj (yielded ops a.tmps) = false ∧ u = undef)) ∧ S (L.setIfInBounds j true) w ∧ HoldX P ops T (l1 ++ l2) ((a.put oj.dst u).put o.dst v) (plusS S i (F v)) := fun v => by
        have ihv := ih v
        unfold OutX at ihv
        rw [ej, wj] at ihv
        rcases ihv with ⟨u, hu, hs, hh⟩ | ⟨hf, _⟩ | ⟨hf, _⟩
        · exact ⟨u, hu, hs.1, by rw [← cm]; exact hh⟩
        · rw [hfj] at hf; cases hf
        · rw [hfj] at hf; cases hf
      obtain ⟨u, hu, hs, _⟩ := key undef
      refine .inl ⟨u, hu, hs, o, ho, .inr (.inr ⟨F, hy.of_same (ei u) (wi u), fun v => ?_⟩)⟩
      obtain ⟨u', hu', _, hh⟩ := key v
      have : u' = u := by
        rcases hu with ⟨hw, hu⟩ | ⟨hw, hu⟩ <;> rcases hu' with ⟨hw', hu'⟩ | ⟨hw', hu'⟩
        · rcases hu with hu | ⟨hu, e⟩ <;> rcases hu' with hu' | ⟨hu', e'⟩
          · rw [hu] at hu'; cases hu'; rfl
          · rw [hu] at hu'; cases hu'
          · rw [hu] at hu'; cases hu'
          · rw [e, e']
        · rw [hw] at hw'; cases hw'
        · rw [hw] at hw'; cases hw'
        · rw [hu, hu']
      rw [← this]; exact hh
/-- Whatever has come up, what it waits for has. -/
def ClosedL (ops : Array Oper) (L : Array Bool) : Prop := ∀ j o, ops[j]? = some o → L.getD j false = true → ∀ e ∈ o.after, Region.binds .any e = true → L.getD e.on false = true
/-- Number j waits for number i, by steps. -/
inductive Anc (ops : Array Oper) : Nat → Nat → Prop where
  | one {j : Nat} {o : Oper} {e : Edge} (hj : ops[j]? = some o) (he : e ∈ o.after) (hb : Region.binds .any e = true) : Anc ops e.on j
  | step {i j : Nat} {o : Oper} {e : Edge} (hj : ops[j]? = some o) (he : e ∈ o.after) (hb : Region.binds .any e = true) (h : Anc ops i e.on) : Anc ops i j
theorem anc_done {i j : Nat} {L : Array Bool} (hc : ClosedL ops L) (h : Anc ops i j) : L.getD j false = true → L.getD i false = true := by
  induction h with
  | one hj he hb => exact fun hl => hc _ _ hj hl _ he hb
  | step hj he hb _ ih => exact fun hl => ih (hc _ _ hj hl _ he hb)
theorem anc_ready {i j : Nat} {L : Array Bool} (hc : ClosedL ops L) (h : Anc ops i j) (hr : j ∈ Region.ready .any ops L) (hsz : ∀ k, k < ops.size → k < L.size) (hbk : ∀ o, ops[j]? = some o → ∀ e ∈ o.after, Region.binds .any e = true → e.on < ops.size) : L.getD i false = true := by
  obtain ⟨hun, o, ho, hall⟩ := mem_ready.1 hr
  have key : ∀ e ∈ o.after, Region.binds .any e = true → L.getD e.on false = true := fun e he hb => by
    have h1 := hall e he hb
    have hlt := hsz _ (hbk o ho e he hb)
    simp [hlt] at h1 ⊢; exact h1
  cases h with
  | one hj he hb => obtain rfl : _ = o := Option.some.inj (hj.symm.trans ho); exact key _ he hb
  | step hj he hb h2 => obtain rfl : _ = o := Option.some.inj (hj.symm.trans ho); exact anc_done hc h2 (key _ he hb)
/-- All that a number waits for, as bits. -/
def edgeMask (ms : List Nat) : List Edge → Nat
  | [] => 0
  | e :: r => if Region.binds .any e then (edgeMask ms r ||| 2 ^ e.on) ||| ms.getD e.on 0 else edgeMask ms r
def masks : List Oper → List Nat → List Nat
  | [], ms => ms
  | o :: r, ms => masks r (ms ++ [edgeMask ms o.after.toList])
theorem edgeMask_spec (ms : List Nat) (i : Nat) : ∀ l : List Edge, (edgeMask ms l).testBit i = true → ∃ e ∈ l, Region.binds .any e = true ∧ (e.on = i ∨ (ms.getD e.on 0).testBit i = true)
  | [], h => by simp [edgeMask] at h
  | e :: r, h => by
    unfold edgeMask at h
    split at h
    · rename_i hb
      rw [Nat.testBit_or, Nat.testBit_or, Bool.or_eq_true, Bool.or_eq_true] at h
      rcases h with (h | h) | h
      · obtain ⟨e', he', h'⟩ := edgeMask_spec ms i r h
        exact ⟨e', by simp [he'], h'⟩
      · rw [Nat.testBit_two_pow] at h
        exact ⟨e, by simp, hb, .inl (by simpa using h)⟩
      · exact ⟨e, by simp, hb, .inr h⟩
    · obtain ⟨e', he', h'⟩ := edgeMask_spec ms i r h
      exact ⟨e', by simp [he'], h'⟩
theorem masks_spec : ∀ (l : List Oper) (ms : List Nat) (k : Nat), (∀ j, l[j]? = ops[k + j]?) → ms.length = k → (∀ j i, (ms.getD j 0).testBit i = true → Anc ops i j) → ∀ j i, ((masks l ms).getD j 0).testBit i = true → Anc ops i j
  | [], ms, k, _, _, h => h
  | o :: r, ms, k, hl, hk, h => by
    have ho : ops[k]? = some o := by have := hl 0; simpa using this.symm
    refine masks_spec r _ (k + 1) (fun j => by have := hl (j + 1); simp at this; rw [this]; congr 1; omega) (by simp [hk]) (fun j i hj => ?_)
    rw [List.getD_eq_getElem?_getD] at hj
    by_cases hjk : j < ms.length
    · rw [List.getElem?_append_left hjk, ← List.getD_eq_getElem?_getD] at hj
      exact h j i hj
    · rw [List.getElem?_append_right (by omega)] at hj
      by_cases hj0 : j = ms.length
      · subst hj0
        simp at hj
        obtain ⟨e, he, hb, h1⟩ := edgeMask_spec ms i _ hj
        rw [hk]
        rcases h1 with rfl | h1
        · exact .one ho (by simpa using he) hb
        · exact .step ho (by simpa using he) hb (h _ _ h1)
      · have : j - ms.length ≠ 0 := by omega
        obtain ⟨n, hn⟩ := Nat.exists_eq_succ_of_ne_zero this
        rw [hn] at hj; simp at hj
/-- Calls of Go functions come up in the text's order. -/
def chainB (ops : Array Oper) : Bool :=
  let ms := masks ops.toList []
  (List.range ops.size).all fun j => (List.range j).all fun i => match ops[i]?, ops[j]? with
    | some oi, some oj => !isFn oi || !isFn oj || (ms.getD j 0).testBit i
    | _, _ => true
theorem chainB_spec (h : chainB ops = true) {i j : Nat} {oi oj : Oper} (hij : i < j) (hi : ops[i]? = some oi) (hj : ops[j]? = some oj) (h1 : isFn oi = true) (h2 : isFn oj = true) : Anc ops i j := by
  unfold chainB at h
  simp only at h
  rw [List.all_eq_true] at h
  have h3 := h j (List.mem_range.2 (Array.getElem?_eq_some_iff.1 hj).1)
  rw [List.all_eq_true] at h3
  have h4 := h3 i (List.mem_range.2 hij)
  rw [hi, hj] at h4
  refine masks_spec ops.toList [] 0 (fun j => by simp) rfl (fun j i hh => by simp at hh) j i ?_
  simpa [h1, h2] using h4
theorem backB_spec (h : backB .any ops = true) {j : Nat} {o : Oper} (hj : ops[j]? = some o) : ∀ e ∈ o.after, Region.binds .any e = true → e.on < j := by
  unfold backB at h
  rw [List.all_eq_true] at h
  have h1 := h j (List.mem_range.2 (Array.getElem?_eq_some_iff.1 hj).1)
  rw [hj] at h1
  intro e he hb
  have h2 := Array.all_eq_true'.1 h1 e he
  rw [hb] at h2
  simpa using h2
theorem wpAny_of_holdX (hsel : Region.noSelect ops = true) (hB : meetB .any ops = true) (hK : backB .any ops = true) (hC : chainB ops = true) {T : Act → (Array Bool → World → Prop) → Prop}
    (hend : ∀ a S L w, L.size = ops.size → leftOf ops.size L = [] → T a S → S L w → Q .normal a w) :
    ∀ (fuel : Nat) (L : Array Bool) (a : Act) (w : World) (S : Array Bool → World → Prop), L.size = ops.size → ClosedL ops L → (leftOf ops.size L).length = fuel → S L w → HoldX P ops T (leftOf ops.size L) a S → wpAny P .any ops Q fuel L a w := by
  intro fuel
  induction fuel with
  | zero =>
    intro L a w S hsz hcl hl hS h
    have h0 : leftOf ops.size L = [] := List.eq_nil_of_length_eq_zero hl
    rw [h0] at h
    have hr : Region.ready .any ops L = [] := by
      rw [List.eq_nil_iff_forall_not_mem]
      intro i hi
      obtain ⟨hun, oi, hoi, _⟩ := mem_ready.1 hi
      have : i ∈ leftOf ops.size L := leftOf_mem.2 ⟨(Array.getElem?_eq_some_iff.1 hoi).1, hun⟩
      rw [h0] at this; cases this
    exact ⟨hr, hend a S L w hsz h0 h hS⟩
  | succ fuel ih =>
    intro L a w S hsz hcl hl hS h
    refine ⟨fun h0 => absurd h0 (ready_some hK L hsz (fun e => by rw [e] at hl; cases hl)), fun j hj => ?_⟩
    obtain ⟨hun, oj, hoj, hall⟩ := mem_ready.1 hj
    have hjs : j < ops.size := (Array.getElem?_eq_some_iff.1 hoj).1
    have hmem : j ∈ leftOf ops.size L := leftOf_mem.2 ⟨hjs, hun⟩
    obtain ⟨l1, l2, hsp⟩ := List.append_of_mem hmem
    have hsrt : (leftOf ops.size L).Pairwise (· < ·) := List.Pairwise.filter _ List.pairwise_lt_range
    rw [hsp] at h hsrt
    have hlt : ∀ i ∈ l1, i < j := fun i hi => (List.pairwise_append.1 hsrt).2.2 i hi j (by simp)
    have hj1 : j ∉ l1 := fun e => Nat.lt_irrefl _ (hlt j e)
    have hj2 : j ∉ l2 := fun e => by
      have := (List.pairwise_append.1 hsrt).2.1
      exact Nat.lt_irrefl _ ((List.pairwise_cons.1 this).1 j e)
    have hL : ∀ k, k < ops.size → k < L.size := fun k hk => by rw [hsz]; exact hk
    have hun1 : ∀ i ∈ l1, L.getD i true = false := fun i hi => (leftOf_mem.1 (show i ∈ leftOf ops.size L by rw [hsp]; simp [hi])).2
    have hap1 : ∀ i ∈ l1, ∀ oi, ops[i]? = some oi → oi.apart ops oj = true := fun i hi oi hoi => by
      refine meetB_spec hB (hlt i hi) hoi hoj fun e he hb heq => ?_
      have h1 := hall e he hb
      have h3 := hun1 i hi
      rw [heq] at h1
      have hil : i < L.size := by rw [hsz]; exact (Array.getElem?_eq_some_iff.1 hoi).1
      simp [hil] at h1 h3
      rw [h3] at h1; cases h1
    have hap2 : ∀ i ∈ l1, ∀ oi, ops[i]? = some oi → isFn oi = true → isFn oj = false := fun i hi oi hoi hfi => by
      cases hfj : isFn oj with
      | false => rfl
      | true =>
        have h1 := anc_ready hcl (chainB_spec hC (hlt i hi) hoi hoj hfi hfj) hj hL (fun o ho e he hb => Nat.lt_trans (backB_spec hK ho e he hb) hjs)
        have h3 := hun1 i hi
        have hil : i < L.size := by rw [hsz]; exact (Array.getElem?_eq_some_iff.1 hoi).1
        simp [hil] at h1 h3
        rw [h3] at h1; cases h1
    have hap : ∀ i ∈ l1, i ≠ j ∧ L.getD i true = false ∧ ∀ oi, ops[i]? = some oi → oi.apart ops oj = true ∧ (isFn oi = true → isFn oj = false) := fun i hi => ⟨Nat.ne_of_lt (hlt i hi), hun1 i hi, fun oi hoi => ⟨hap1 i hi oi hoi, hap2 i hi oi hoi⟩⟩
    have hleft : leftOf ops.size (L.setIfInBounds j true) = l1 ++ l2 := by
      have e1 : leftOf ops.size (L.setIfInBounds j true) = (leftOf ops.size L).filter (· ≠ j) := by
        unfold leftOf
        rw [List.filter_filter]
        refine List.filter_congr fun i hi => ?_
        by_cases hij : i = j
        · subst hij
          have : i < L.size := by rw [hsz]; exact hjs
          simp [this]
        · rw [getD_set_ne true (fun e => hij e.symm)]; simp [hij]
      rw [e1, hsp, List.filter_append, List.filter_cons]
      simp only [ne_eq, not_true_eq_false, decide_false]
      have f1 : l1.filter (fun x => decide (¬ x = j)) = l1 := List.filter_eq_self.2 fun x hx => by simp; rintro rfl; exact hj1 hx
      have f2 : l2.filter (fun x => decide (¬ x = j)) = l2 := List.filter_eq_self.2 fun x hx => by simp; rintro rfl; exact hj2 hx
      rw [f1]
      simp only [Bool.false_eq_true, if_false]
      rw [f2]
    have hsz' : (L.setIfInBounds j true).size = ops.size := by simpa using hsz
    have hlen : (leftOf ops.size (L.setIfInBounds j true)).length = fuel := by
      rw [hleft]; rw [hsp] at hl; simp at hl ⊢; omega
    have hcl' : ClosedL ops (L.setIfInBounds j true) := fun k o hk hm e he hb => by
      have done : ∀ q, q < ops.size → L.getD q false = true → (L.setIfInBounds j true).getD q false = true := fun q hq h => by
        by_cases hqj : q = j
        · subst hqj; have := hL q hq; simp [this]
        · rw [getD_set_ne false (fun e => hqj e.symm)]; exact h
      have hks : k < ops.size := (Array.getElem?_eq_some_iff.1 hk).1
      have hes : e.on < ops.size := Nat.lt_trans (backB_spec hK hk e he hb) hks
      refine done _ hes ?_
      by_cases hkj : k = j
      · subst hkj
        obtain rfl : o = oj := Option.some.inj (hk.symm.trans hoj)
        have h1 := hall e he hb
        have := hL _ hes
        simp [this] at h1 ⊢; exact h1
      · rw [getD_set_ne false (fun e => hkj e.symm)] at hm
        exact hcl k o hk hm e he hb
    have go : ∀ v w' S', S' (L.setIfInBounds j true) w' → HoldX P ops T (l1 ++ l2) (a.put oj.dst v) S' → wpAny P .any ops Q fuel (L.setIfInBounds j true) (a.put oj.dst v) w' := fun v w' S' hS' hh =>
      ih (L.setIfInBounds j true) (a.put oj.dst v) w' S' hsz' hcl' hlen hS' (by rw [hleft]; exact hh)
    have hjL : j < L.size := hL j hjs
    unfold Go.wpOp
    simp only [hoj]
    rcases HoldX.pick hsel hoj hj l1 a S hap hS h with ⟨v, hu, hs, hh⟩ | ⟨_, hw, v, f, args, hu, hc, hh⟩ | ⟨_, hw, F, f, args, hu, hc, hh⟩
    · rcases hu with ⟨hw, hu⟩ | ⟨hw, rfl⟩
      · simp only [hw, if_true, Oper.wp]
        refine .inl ?_
        rcases hu with hu | ⟨hu, rfl⟩
        · simp only [hu, Oper.upon]; exact go _ _ _ hs hh
        · simp only [hu, Oper.upon]; exact go _ _ _ hs hh
      · simp only [hw, Bool.false_eq_true, if_false]; exact go _ _ _ hs hh
    · simp only [hw, if_true, Oper.wp]
      refine .inl ?_
      simp only [hu, Oper.upon]
      exact hc.mono fun e w'' ⟨he, hs⟩ => by subst he; exact go _ _ _ hs hh
    · simp only [hw, if_true, Oper.wp]
      refine .inl ?_
      simp only [hu, Oper.upon]
      exact hc.mono fun e w'' ⟨v, he, hs, hF⟩ => by subst he; exact go _ _ _ ⟨hs, fun _ => hF⟩ (hh v)
def holdXOk (ops : Array Oper) : Bool := Region.noSelect ops && meetB .any ops && backB .any ops && chainB ops
/-- THE BEGINNING. -/
theorem wp_region_holdX0 {id : Nat} {l : List Oper} {a : Act} {w : World} (S : Array Bool → World → Prop) (hm : P.follows .mixedOrders = true) (hB : holdXOk l.toArray = true)
    (hS : S (Array.replicate l.length false) w.drew) (h : HoldX P l.toArray (fun a S => ∀ L w, (∀ i, i < l.length → L.getD i true = true ∧ L.getD i false = true) → S L w → Q .normal a w) (List.range l.length) a S) :
    (Code.region id l.toArray true).wp P Q a w := by
  unfold holdXOk at hB
  simp only [Bool.and_eq_true] at hB
  obtain ⟨⟨⟨h1, h2⟩, h3⟩, h4⟩ := hB
  refine wp_region_any hm ?_
  have hl0 : leftOf l.toArray.size (Array.replicate l.toArray.size false) = List.range l.length := by
    unfold leftOf
    rw [List.filter_eq_self.2]
    · simp
    · intro x hx
      have : x < l.toArray.size := List.mem_range.1 hx
      simp at this
      simp [this]
  refine wpAny_of_holdX (ops := l.toArray) h1 h2 h3 h4 (T := fun a S => ∀ L w, (∀ i, i < l.length → L.getD i true = true ∧ L.getD i false = true) → S L w → Q .normal a w) (fun a S L w hsz hl hT hs => ?_) _ _ _ _ S (by simp) (fun j o ho hm => ?_) (by rw [hl0]; simp) (by simpa using hS) (by rw [hl0]; exact h)
  · refine hT L w (fun i hi => ?_) hs
    have h' : i < L.size := by rw [hsz]; simpa using hi
    by_cases hx : L.getD i true = false
    · have : i ∈ leftOf l.toArray.size L := leftOf_mem.2 ⟨by simpa using hi, hx⟩
      rw [hl] at this; cases this
    · simp [h'] at hx ⊢; exact hx
  · rw [Array.getD_eq_getD_getElem?, Array.getElem?_replicate] at hm
    split at hm <;> cases hm
end
/-! ### The same, with a condition that calls keep -/
section
variable {P : Program} {ops : Array Oper} {Q : Exit → Act → World → Prop} {S : World → Prop}
/-- What is known of results that hang on the world: the call's number, the fact. -/
abbrev Env := List (Nat × (World → Prop))
def envS (n : Nat) (S : World → Prop) (E : Env) : Array Bool → World → Prop := E.foldr (fun p S' => plusS S' p.1 p.2) (fun L w => L.size = n ∧ S w)
/-- It stays where only memory is made. -/
def Kept (F : World → Prop) : Prop := ∀ w w', F w → Below w.heap.size w w' → F w'
def KeptE (S : World → Prop) (E : Env) : Prop := Kept S ∧ ∀ p ∈ E, Kept p.2
theorem env_base {n : Nat} {L : Array Bool} {w : World} : ∀ {E : Env}, envS n S E L w → L.size = n ∧ S w
  | [], h => h
  | _ :: E, h => env_base (E := E) h.1
theorem env_get {n : Nat} {L : Array Bool} {w : World} {p : Nat × (World → Prop)} : ∀ {E : Env}, p ∈ E → envS n S E L w → L.getD p.1 true = true → p.2 w
  | q :: E, hp, h, hl => by
    rcases List.mem_cons.1 hp with rfl | hp
    · exact h.2 hl
    · exact env_get hp h.1 hl
theorem env_step {n i : Nat} {L : Array Bool} {w w' : World} (hb : Below w.heap.size w w') : ∀ {E : Env}, KeptE S E → (E.all fun p => p.1 != i) = true → envS n S E L w → envS n S E (L.setIfInBounds i true) w'
  | [], hK, _, h => ⟨by simpa using h.1, hK.1 _ _ h.2 hb⟩
  | q :: E, hK, hE, h => by
    simp only [List.all_cons, Bool.and_eq_true, bne_iff_ne, ne_eq] at hE
    refine ⟨env_step hb ⟨hK.1, fun p hp => hK.2 p (by simp [hp])⟩ hE.2 h.1, fun hl => hK.2 q (by simp) _ _ (h.2 ?_) hb⟩
    rw [getD_set_ne true (fun e => hE.1 e.symm)] at hl
    exact hl
/-- The operations from number i on, in the text's order. -/
def HoldY (P : Program) (ops : Array Oper) (S : World → Prop) (T : Act → Env → Prop) : Nat → List Oper → Act → Env → Prop
  | _, [], a, E => T a E
  | i, o :: r, a, E => (∃ v, StepsR P ops (envS ops.size S E) i o v a ∧ HoldY P ops S T (i + 1) r (a.put o.dst v) E) ∨ (∃ v, StepsC P ops (envS ops.size S E) i o v a ∧ HoldY P ops S T (i + 1) r (a.put o.dst v) E) ∨
      (∃ F : Value → World → Prop, StepsE P ops (envS ops.size S E) i o F a ∧ ∀ v, HoldY P ops S T (i + 1) r (a.put o.dst v) ((i, F v) :: E))
theorem HoldY.holdX {T : Act → Env → Prop} : ∀ (l : List Oper) (i : Nat) (a : Act) (E : Env), (∀ j, l[j]? = ops[i + j]?) → HoldY P ops S T i l a E →
    HoldX P ops (fun a S' => ∃ E, S' = envS ops.size S E ∧ T a E) (List.range' i l.length) a (envS ops.size S E)
  | [], i, a, E, _, h => ⟨E, rfl, h⟩
  | o :: r, i, a, E, hl, h => by
    have ho : ops[i]? = some o := by have := hl 0; simpa using this.symm
    have hr : ∀ j, r[j]? = ops[i + 1 + j]? := fun j => by have := hl (j + 1); simp at this; rw [this]; congr 1; omega
    refine ⟨o, ho, ?_⟩
    rcases h with ⟨v, hy, h⟩ | ⟨v, hy, h⟩ | ⟨F, hy, h⟩
    · exact .inl ⟨v, hy, HoldY.holdX r (i + 1) _ E hr h⟩
    · exact .inr (.inl ⟨v, hy, HoldY.holdX r (i + 1) _ E hr h⟩)
    · exact .inr (.inr ⟨F, hy, fun v => HoldY.holdX r (i + 1) _ ((i, F v) :: E) hr (h v)⟩)
/-- THE BEGINNING. -/
theorem wp_region_holdY {id : Nat} {l : List Oper} {a : Act} {w : World} (S : World → Prop) (hm : P.follows .mixedOrders = true) (hB : holdXOk l.toArray = true) (hK : Kept S) (hS : S w.drew)
    (h : KeptE S [] → HoldY P l.toArray S (fun a E => ∀ w, S w → (∀ p ∈ E, p.1 < l.length → p.2 w) → Q .normal a w) 0 l a []) : (Code.region id l.toArray true).wp P Q a w := by
  have h' := HoldY.holdX (ops := l.toArray) l 0 a [] (fun j => by simp) (h ⟨hK, fun p hp => by cases hp⟩)
  rw [← List.range_eq_range'] at h'
  refine wp_region_holdX0 (envS l.toArray.size S []) hm hB ⟨by simp, hS⟩ ?_
  revert h'
  generalize List.range l.length = ns
  generalize envS l.toArray.size S [] = S0
  intro h'
  have mono : ∀ (ns : List Nat) (a : Act) (S' : Array Bool → World → Prop), HoldX P l.toArray (fun a S' => ∃ E, S' = envS l.toArray.size S E ∧ ∀ w, S w → (∀ p ∈ E, p.1 < l.length → p.2 w) → Q .normal a w) ns a S' →
      HoldX P l.toArray (fun a S => ∀ L w, (∀ i, i < l.length → L.getD i true = true ∧ L.getD i false = true) → S L w → Q .normal a w) ns a S' := by
    intro ns
    induction ns with
    | nil =>
      intro a S' h L w hall hs
      obtain ⟨E, rfl, h⟩ := h
      exact h w (env_base hs).2 (fun p hp hl => env_get hp hs (hall _ hl).1)
    | cons i ns ih =>
      intro a S' h
      obtain ⟨o, ho, h⟩ := h
      refine ⟨o, ho, ?_⟩
      rcases h with ⟨v, hy, h⟩ | ⟨v, hy, h⟩ | ⟨F, hy, h⟩
      · exact .inl ⟨v, hy, ih _ _ h⟩
      · exact .inr (.inl ⟨v, hy, ih _ _ h⟩)
      · exact .inr (.inr ⟨F, hy, fun v => ih _ _ (h v)⟩)
  exact mono _ _ _ h'
section
variable {T : Act → Env → Prop} {i : Nat} {o : Oper} {r : List Oper} {a : Act} {E : Env} {v : Value}
theorem holdY_nil {k : Nat} (h : T a E) : HoldY P ops S T k [] a E := h
theorem holdY_val (hK : KeptE S E) (hE : (E.all fun p => p.1 != i) = true) (hw : Region.wanted o (yielded ops a.tmps) = true) (hv : ∀ w, S w → (execOp a.eval o).run P w = .ok (.value v) w) (h : HoldY P ops S T (i + 1) r (a.put o.dst v) E) : HoldY P ops S T i (o :: r) a E :=
  .inl ⟨v, .inl ⟨hw, fun L w _ hs => ⟨.inl (hv w (env_base hs).2), env_step (Below.refl _ _) hK hE hs⟩⟩, h⟩
theorem holdY_skip (hK : KeptE S E) (hE : (E.all fun p => p.1 != i) = true) (hw : Region.wanted o (yielded ops a.tmps) = false) (h : HoldY P ops S T (i + 1) r (a.put o.dst undef) E) : HoldY P ops S T i (o :: r) a E :=
  .inl ⟨undef, .inr ⟨hw, rfl, fun L w _ hs => env_step (Below.refl _ _) hK hE hs⟩, h⟩
theorem ready_env {n k : Nat} {F : World → Prop} {L : Array Bool} {w : World} (hi : ops[i]? = some o) (hk : (k, F) ∈ E) (hb : o.after.any (fun e => Region.binds .any e && e.on == k) = true) (hr : i ∈ Region.ready .any ops L) (hs : envS n S E L w) : F w := by
  refine env_get hk hs ?_
  have h1 := ready_on hi hr hb
  by_cases hx : k < L.size
  · simp [hx] at h1 ⊢; exact h1
  · simp [Nat.le_of_not_lt hx]
/-- What only reads, with the fact of a result that it waits for. -/
theorem holdY_valE (k : Nat) (F : World → Prop) (hi : ops[i]? = some o) (hk : (k, F) ∈ E) (hb : o.after.any (fun e => Region.binds .any e && e.on == k) = true) (hK : KeptE S E) (hE : (E.all fun p => p.1 != i) = true) (hw : Region.wanted o (yielded ops a.tmps) = true)
    (hv : ∀ w, S w → F w → (execOp a.eval o).run P w = .ok (.value v) w) (h : HoldY P ops S T (i + 1) r (a.put o.dst v) E) : HoldY P ops S T i (o :: r) a E :=
  .inl ⟨v, .inl ⟨hw, fun L w hr hs => ⟨.inl (hv w (env_base hs).2 (ready_env hi hk hb hr hs)), env_step (Below.refl _ _) hK hE hs⟩⟩, h⟩
theorem holdY_call {f : FuncId} {args : Array Value} (hf : isFn o = true) (hK : KeptE S E) (hE : (E.all fun p => p.1 != i) = true) (hw : Region.wanted o (yielded ops a.tmps) = true) (hv : ∀ w, S w → (execOp a.eval o).run P w = .ok (.enter f args) w)
    (hc : ∀ w, S w → Calls P f args w fun e w' => e = .returned v ∧ Below w.heap.size w w') (h : HoldY P ops S T (i + 1) r (a.put o.dst v) E) : HoldY P ops S T i (o :: r) a E :=
  .inr (.inl ⟨v, ⟨hw, hf, fun L w _ hs => ⟨f, args, hv w (env_base hs).2, (hc w (env_base hs).2).mono fun e w' ⟨he, hb⟩ => ⟨he, env_step hb hK hE hs⟩⟩⟩, h⟩)
/-- A call of two results that hang on the world. -/
theorem holdY_call2 {f : FuncId} {args : Array Value} (k1 k2 : Nat) (F1 F2 : World → Prop) (hi : ops[i]? = some o) (hk1 : (k1, F1) ∈ E) (hk2 : (k2, F2) ∈ E) (hb1 : o.after.any (fun e => Region.binds .any e && e.on == k1) = true) (hb2 : o.after.any (fun e => Region.binds .any e && e.on == k2) = true)
    (hf : isFn o = true) (hK : KeptE S E) (hE : (E.all fun p => p.1 != i) = true) (hw : Region.wanted o (yielded ops a.tmps) = true) (hv : ∀ w, S w → (execOp a.eval o).run P w = .ok (.enter f args) w)
    (hc : ∀ w, S w → F1 w → F2 w → Calls P f args w fun e w' => e = .returned v ∧ Below w.heap.size w w') (h : HoldY P ops S T (i + 1) r (a.put o.dst v) E) : HoldY P ops S T i (o :: r) a E :=
  .inr (.inl ⟨v, ⟨hw, hf, fun L w hr hs => ⟨f, args, hv w (env_base hs).2, (hc w (env_base hs).2 (ready_env hi hk1 hb1 hr hs) (ready_env hi hk2 hb2 hr hs)).mono fun e w' ⟨he, hb⟩ => ⟨he, env_step hb hK hE hs⟩⟩⟩, h⟩)
/-- A call whose result hangs on the world. -/
theorem holdY_some {f : FuncId} {args : Array Value} (F : Value → World → Prop) (hF : ∀ v, Kept (F v)) (hf : isFn o = true) (hK : KeptE S E) (hE : (E.all fun p => p.1 != i) = true) (hw : Region.wanted o (yielded ops a.tmps) = true) (hv : ∀ w, S w → (execOp a.eval o).run P w = .ok (.enter f args) w)
    (hc : ∀ w, S w → Calls P f args w fun e w' => ∃ v, e = .returned v ∧ F v w' ∧ Below w.heap.size w w') (h : ∀ v, KeptE S ((i, F v) :: E) → HoldY P ops S T (i + 1) r (a.put o.dst v) ((i, F v) :: E)) : HoldY P ops S T i (o :: r) a E :=
  .inr (.inr ⟨F, ⟨hw, hf, fun L w _ hs => ⟨f, args, hv w (env_base hs).2, (hc w (env_base hs).2).mono fun e w' ⟨v, he, hF, hb⟩ => ⟨v, he, env_step hb hK hE hs, hF⟩⟩⟩, fun v => h v ⟨hK.1, fun p hp => by
    rcases List.mem_cons.1 hp with rfl | hp
    · exact hF v
    · exact hK.2 p hp⟩⟩)
end
/-- The frame behind a name. -/
theorem holdY_env {T : Act → Env → Prop} {i : Nat} {l : List Oper} {a : Act} {E : Env} (h : ∀ A, A = a → HoldY P ops S T i l A E) : HoldY P ops S T i l a E := h a rfl
end
end Go.Proofs.Ytalpocgajecjbaa
