/- A region that draws, in which some operations (calls, slices made, stores: the chain) come up in the text's order and may turn memory, and all others read: taken once, in the text's order; what a chain operation yields may hang on the world. Conditions: as stated. -/
import Derived.Test.YtgooepfhapaenaaGreatHolds
import Derived.Deep.MidRow
namespace Go.Proofs.YtgooepfhapaenaaGreat
open Go.RowKit
set_option linter.unusedVariables false

section
variable {P : Program} {ops : Array Oper} {Q : Exit → Act → World → Prop} {cl : List Nat}
/-- What an operation of the chain comes to. -/
def Does (P : Program) (o : Oper) (a : Act) (w : World) (K : Value → World → Prop) : Prop :=
  (∃ v w', (execOp a.eval o).run P w = .ok (.value v) w' ∧ K v w') ∨ (∃ w', (execOp a.eval o).run P w = .ok .skip w' ∧ K undef w') ∨ ∃ f args, (execOp a.eval o).run P w = .ok (.enter f args) w ∧ Calls P f args w fun e w' => ∃ v, e = .returned v ∧ K v w'
/-- One of the chain, whatever it yields. -/
def StepsV (P : Program) (cl : List Nat) (ops : Array Oper) (S : Array Bool → World → Prop) (i : Nat) (o : Oper) (F : Value → Array Bool → World → Prop) (a : Act) : Prop :=
  Region.wanted o (yielded ops a.tmps) = true ∧ cl.contains i = true ∧ ∀ L w, i ∈ Region.ready .any ops L → S L w → Does P o a w fun v w' => S (L.setIfInBounds i true) w' ∧ F v (L.setIfInBounds i true) w'
/-- One of the chain that yields one value. -/
def StepsD (P : Program) (cl : List Nat) (ops : Array Oper) (S : Array Bool → World → Prop) (i : Nat) (o : Oper) (v : Value) (a : Act) : Prop :=
  Region.wanted o (yielded ops a.tmps) = true ∧ cl.contains i = true ∧ ∀ L w, i ∈ Region.ready .any ops L → S L w → Does P o a w fun u w' => u = v ∧ S (L.setIfInBounds i true) w'
/-- What is said hangs on the chain's operations alone. -/
def FlatV (cl : List Nat) (F : Array Bool → World → Prop) : Prop := ∀ L w k, cl.contains k = false → F L w → F (L.setIfInBounds k true) w
def plusV (S : Array Bool → World → Prop) (i : Nat) (F : Array Bool → World → Prop) (L : Array Bool) (w : World) : Prop := S L w ∧ (L.getD i true = true → F L w)
theorem StepsV.of_same {S : Array Bool → World → Prop} {i : Nat} {o : Oper} {F : Value → Array Bool → World → Prop} {a a' : Act} (hy : StepsV P cl ops S i o F a) (he : execOp a'.eval o = execOp a.eval o)
    (hw : Region.wanted o (yielded ops a'.tmps) = Region.wanted o (yielded ops a.tmps)) : StepsV P cl ops S i o F a' := by
  unfold StepsV Does at *; rw [he, hw]; exact hy
theorem StepsD.of_same {S : Array Bool → World → Prop} {i : Nat} {o : Oper} {v : Value} {a a' : Act} (hy : StepsD P cl ops S i o v a) (he : execOp a'.eval o = execOp a.eval o)
    (hw : Region.wanted o (yielded ops a'.tmps) = Region.wanted o (yielded ops a.tmps)) : StepsD P cl ops S i o v a' := by
  unfold StepsD Does at *; rw [he, hw]; exact hy
theorem StepsR.moreV {S : Array Bool → World → Prop} {i j : Nat} {o : Oper} {v : Value} {a : Act} {F : Array Bool → World → Prop} (hF : FlatV cl F) (hi : cl.contains i = false) (hy : StepsR P ops S i o v a) (hij : i ≠ j) : StepsR P ops (plusV S j F) i o v a := by
  rcases hy with ⟨hw, h⟩ | ⟨hw, hv, h⟩
  · refine .inl ⟨hw, fun L w hr hS => ⟨(h L w hr hS.1).1, (h L w hr hS.1).2, fun e => ?_⟩⟩
    rw [getD_set_ne true hij] at e; exact hF L w i hi (hS.2 e)
  · refine .inr ⟨hw, hv, fun L w hr hS => ⟨h L w hr hS.1, fun e => ?_⟩⟩
    rw [getD_set_ne true hij] at e; exact hF L w i hi (hS.2 e)
/-- The operations that are left, in the text's order. -/
def HoldV (P : Program) (cl : List Nat) (ops : Array Oper) (T : Act → (Array Bool → World → Prop) → Prop) : List Nat → Act → (Array Bool → World → Prop) → Prop
  | [], a, S => T a S
  | i :: r, a, S => ∃ o, ops[i]? = some o ∧ ((∃ v, StepsR P ops S i o v a ∧ HoldV P cl ops T r (a.put o.dst v) S) ∨ (∃ v, StepsD P cl ops S i o v a ∧ HoldV P cl ops T r (a.put o.dst v) S) ∨
      (∃ F : Value → Array Bool → World → Prop, (∀ v, FlatV cl (F v)) ∧ StepsV P cl ops S i o F a ∧ ∀ v, HoldV P cl ops T r (a.put o.dst v) (plusV S i (F v))))
/-- What becomes of number j, taken now. -/
abbrev OutV (P : Program) (cl : List Nat) (ops : Array Oper) (T : Act → (Array Bool → World → Prop) → Prop) (L : Array Bool) (w : World) (j : Nat) (o : Oper) (l : List Nat) (a : Act) (S : Array Bool → World → Prop) : Prop :=
  (∃ v, ((Region.wanted o (yielded ops a.tmps) = true ∧ ((execOp a.eval o).run P w = .ok (.value v) w ∨ ((execOp a.eval o).run P w = .ok .skip w ∧ v = undef))) ∨ (Region.wanted o (yielded ops a.tmps) = false ∧ v = undef)) ∧ S (L.setIfInBounds j true) w ∧ HoldV P cl ops T l (a.put o.dst v) S) ∨
  (cl.contains j = true ∧ Region.wanted o (yielded ops a.tmps) = true ∧ ∃ v, (Does P o a w fun u w' => u = v ∧ S (L.setIfInBounds j true) w') ∧ HoldV P cl ops T l (a.put o.dst v) S) ∨
  (cl.contains j = true ∧ Region.wanted o (yielded ops a.tmps) = true ∧ ∃ F : Value → Array Bool → World → Prop, (∀ v, FlatV cl (F v)) ∧ (Does P o a w fun v w' => S (L.setIfInBounds j true) w' ∧ F v (L.setIfInBounds j true) w') ∧ ∀ v, HoldV P cl ops T l (a.put o.dst v) (plusV S j (F v)))
theorem HoldV.pick {T : Act → (Array Bool → World → Prop) → Prop} (hsel : Region.noSelect ops = true) {L : Array Bool} {w : World} {j : Nat} {oj : Oper} (hj : ops[j]? = some oj) (hr : j ∈ Region.ready .any ops L) {l2 : List Nat} :
    ∀ (l1 : List Nat) (a : Act) (S : Array Bool → World → Prop), (∀ i ∈ l1, i ≠ j ∧ L.getD i true = false ∧ (∀ oi, ops[i]? = some oi → oi.apart ops oj = true) ∧ (cl.contains i = true → cl.contains j = false)) → S L w → HoldV P cl ops T (l1 ++ j :: l2) a S →
      OutV P cl ops T L w j oj (l1 ++ l2) a S
  | [], a, S, _, hS, h => by
    obtain ⟨o, ho, h⟩ := h
    obtain rfl : o = oj := Option.some.inj (ho.symm.trans hj)
    rcases h with ⟨v, hy, h⟩ | ⟨v, ⟨hw, hf, hy⟩, h⟩ | ⟨F, hF, ⟨hw, hf, hy⟩, h⟩
    · rcases hy with ⟨hw, hy⟩ | ⟨hw, hv, hy⟩
      · exact .inl ⟨v, .inl ⟨hw, (hy L w hr hS).1⟩, (hy L w hr hS).2, h⟩
      · exact .inl ⟨v, .inr ⟨hw, hv⟩, hy L w hr hS, h⟩
    · exact .inr (.inl ⟨hf, hw, v, hy L w hr hS, h⟩)
    · exact .inr (.inr ⟨hf, hw, F, hF, hy L w hr hS, h⟩)
  | i :: l1, a, S, hap, hS, h => by
    obtain ⟨o, ho, h⟩ := h
    obtain ⟨hne, hun, hio, hfn⟩ := hap i (by simp)
    have hapt := hio o ho
    obtain ⟨h1, h2', h3⟩ := Oper.apart_spec hapt
    have hso := Region.noSelect_spec hsel i o
    have hsj := Region.noSelect_spec hsel j oj
    have hap' : ∀ k ∈ l1, k ≠ j ∧ L.getD k true = false ∧ (∀ oi, ops[k]? = some oi → oi.apart ops oj = true) ∧ (cl.contains k = true → cl.contains j = false) := fun k hk => hap k (by simp [hk])
    have ej : ∀ v, execOp (a.put o.dst v).eval oj = execOp a.eval oj := fun v => execOp_put oj (fun cs b => hsj cs b hj) a o.dst v h1
    have wj : ∀ v, Region.wanted oj (yielded ops (a.put o.dst v).tmps) = Region.wanted oj (yielded ops a.tmps) := fun v => wanted_put oj a o.dst v h1
    have ei : ∀ u, execOp (a.put oj.dst u).eval o = execOp a.eval o := fun u => execOp_put o (fun cs b => hso cs b ho) a oj.dst u h3
    have wi : ∀ u, Region.wanted o (yielded ops (a.put oj.dst u).tmps) = Region.wanted o (yielded ops a.tmps) := fun u => wanted_put o a oj.dst u h3
    have cm : ∀ v u, (a.put o.dst v).put oj.dst u = (a.put oj.dst u).put o.dst v := fun v u => Act.put_comm a v u (fun d hd hd2 => h2' d hd hd2)
    rcases h with ⟨v, hy, h⟩ | ⟨v, hy, h⟩ | ⟨F, hF, hy, h⟩
    · have ih := HoldV.pick hsel hj hr l1 (a.put o.dst v) S hap' hS h
      unfold OutV Does at ih
      rw [ej, wj] at ih
      rcases ih with ⟨u, hu, hs, hh⟩ | ⟨hf, hw, u, hc, hh⟩ | ⟨hf, hw, G, hG, hc, hh⟩
      · exact .inl ⟨u, hu, hs, o, ho, .inl ⟨v, hy.of_same (ei u) (wi u), by rw [← cm]; exact hh⟩⟩
      · exact .inr (.inl ⟨hf, hw, u, hc, o, ho, .inl ⟨v, hy.of_same (ei u) (wi u), by rw [← cm]; exact hh⟩⟩)
      · have hci : cl.contains i = false := by
          cases hc' : cl.contains i with
          | false => rfl
          | true => have := hfn hc'; rw [hf] at this; cases this
        exact .inr (.inr ⟨hf, hw, G, hG, hc, fun u => ⟨o, ho, .inl ⟨v, (hy.of_same (ei u) (wi u)).moreV (hG u) hci hne, by rw [← cm]; exact hh u⟩⟩⟩)
    · have hfj := hfn hy.2.1
      have ih := HoldV.pick hsel hj hr l1 (a.put o.dst v) S hap' hS h
      unfold OutV at ih
      rw [ej, wj] at ih
      rcases ih with ⟨u, hu, hs, hh⟩ | ⟨hf, _⟩ | ⟨hf, _⟩
      · exact .inl ⟨u, hu, hs, o, ho, .inr (.inl ⟨v, hy.of_same (ei u) (wi u), by rw [← cm]; exact hh⟩)⟩
      · rw [hfj] at hf; cases hf
      · rw [hfj] at hf; cases hf
    · have hfj := hfn hy.2.1
      have ih := fun v => HoldV.pick hsel hj hr l1 (a.put o.dst v) (plusV S i (F v)) hap' ⟨hS, fun e => by rw [hun] at e; cases e⟩ (h v)
      have key : ∀ v, ∃ u, ((Region.wanted oj (yielded ops a.tmps) = true ∧ ((execOp a.eval oj).run P w = .ok (.value u) w ∨ ((execOp a.eval oj).run P w = .ok .skip w ∧ u = undef))) ∨ (Region.wanted oj (yielded ops a.tmps) = false ∧ u = undef)) ∧ S (L.setIfInBounds j true) w ∧ HoldV P cl ops T (l1 ++ l2) ((a.put oj.dst u).put o.dst v) (plusV S i (F v)) := fun v => by
        have ihv := ih v
        unfold OutV at ihv
        rw [ej, wj] at ihv
        rcases ihv with ⟨u, hu, hs, hh⟩ | ⟨hf, _⟩ | ⟨hf, _⟩
        · exact ⟨u, hu, hs.1, by rw [← cm]; exact hh⟩
        · rw [hfj] at hf; cases hf
        · rw [hfj] at hf; cases hf
      obtain ⟨u, hu, hs, _⟩ := key undef
      refine .inl ⟨u, hu, hs, o, ho, .inr (.inr ⟨F, hF, hy.of_same (ei u) (wi u), fun v => ?_⟩)⟩
      obtain ⟨u', hu', _, hh⟩ := key v
      have : u' = u := by
        rcases hu with ⟨hw, hu⟩ | ⟨hw, hu⟩ <;> rcases hu' with ⟨hw', hu'⟩ | ⟨hw', hu'⟩
        · rcases hu with hu | ⟨hu, e⟩ <;> rcases hu' with hu' | ⟨hu', e'⟩
          · rw [hu] at hu'; cases hu'; rfl
          · rw [hu] at hu'; cases hu'
          · rw [hu] at hu'; cases hu'
          · rw [e, e']
        · rw [hw] at hw'; cases hw'
        · rw [hw] at hw'; cases hw'
        · rw [hu, hu']
      rw [← this]; exact hh
/-- The chain's operations come up in the text's order. -/
def chainV (cl : List Nat) (ops : Array Oper) : Bool :=
  let ms := masks ops.toList []
  (List.range ops.size).all fun j => (List.range j).all fun i => !cl.contains i || !cl.contains j || (ms.getD j 0).testBit i
theorem chainV_spec (h : chainV cl ops = true) {i j : Nat} {oj : Oper} (hij : i < j) (hj : ops[j]? = some oj) (h1 : cl.contains i = true) (h2 : cl.contains j = true) : Anc ops i j := by
  unfold chainV at h
  simp only at h
  rw [List.all_eq_true] at h
  have h3 := h j (List.mem_range.2 (Array.getElem?_eq_some_iff.1 hj).1)
  rw [List.all_eq_true] at h3
  have h4 := h3 i (List.mem_range.2 hij)
  refine masks_spec ops.toList [] 0 (fun j => by simp) rfl (fun j i hh => by simp at hh) j i ?_
  rw [h1, h2] at h4
  simpa using h4
theorem wpAny_of_holdV (hsel : Region.noSelect ops = true) (hB : meetB .any ops = true) (hK : backB .any ops = true) (hC : chainV cl ops = true) {T : Act → (Array Bool → World → Prop) → Prop}
    (hend : ∀ a S L w, L.size = ops.size → leftOf ops.size L = [] → T a S → S L w → Q .normal a w) :
    ∀ (fuel : Nat) (L : Array Bool) (a : Act) (w : World) (S : Array Bool → World → Prop), L.size = ops.size → ClosedL ops L → (leftOf ops.size L).length = fuel → S L w → HoldV P cl ops T (leftOf ops.size L) a S → wpAny P .any ops Q fuel L a w := by
  intro fuel
  induction fuel with
  | zero =>
    intro L a w S hsz hcl hl hS h
    have h0 : leftOf ops.size L = [] := List.eq_nil_of_length_eq_zero hl
    rw [h0] at h
    have hr : Region.ready .any ops L = [] := by
      rw [List.eq_nil_iff_forall_not_mem]
      intro i hi
      obtain ⟨hun, oi, hoi, _⟩ := mem_ready.1 hi
      have : i ∈ leftOf ops.size L := leftOf_mem.2 ⟨(Array.getElem?_eq_some_iff.1 hoi).1, hun⟩
      rw [h0] at this; cases this
    exact ⟨hr, hend a S L w hsz h0 h hS⟩
  | succ fuel ih =>
    intro L a w S hsz hcl hl hS h
    refine ⟨fun h0 => absurd h0 (ready_some hK L hsz (fun e => by rw [e] at hl; cases hl)), fun j hj => ?_⟩
    obtain ⟨hun, oj, hoj, hall⟩ := mem_ready.1 hj
    have hjs : j < ops.size := (Array.getElem?_eq_some_iff.1 hoj).1
    have hmem : j ∈ leftOf ops.size L := leftOf_mem.2 ⟨hjs, hun⟩
    obtain ⟨l1, l2, hsp⟩ := List.append_of_mem hmem
    have hsrt : (leftOf ops.size L).Pairwise (· < ·) := List.Pairwise.filter _ List.pairwise_lt_range
    rw [hsp] at h hsrt
    have hlt : ∀ i ∈ l1, i < j := fun i hi => (List.pairwise_append.1 hsrt).2.2 i hi j (by simp)
    have hj1 : j ∉ l1 := fun e => Nat.lt_irrefl _ (hlt j e)
    have hj2 : j ∉ l2 := fun e => by
      have := (List.pairwise_append.1 hsrt).2.1
      exact Nat.lt_irrefl _ ((List.pairwise_cons.1 this).1 j e)
    have hL : ∀ k, k < ops.size → k < L.size := fun k hk => by rw [hsz]; exact hk
    have hun1 : ∀ i ∈ l1, L.getD i true = false := fun i hi => (leftOf_mem.1 (show i ∈ leftOf ops.size L by rw [hsp]; simp [hi])).2
    have hap1 : ∀ i ∈ l1, ∀ oi, ops[i]? = some oi → oi.apart ops oj = true := fun i hi oi hoi => by
      refine meetB_spec hB (hlt i hi) hoi hoj fun e he hb heq => ?_
      have h1 := hall e he hb
      have h3 := hun1 i hi
      rw [heq] at h1
      have hil : i < L.size := by rw [hsz]; exact (Array.getElem?_eq_some_iff.1 hoi).1
      simp [hil] at h1 h3
      rw [h3] at h1; cases h1
    have hap2 : ∀ i ∈ l1, cl.contains i = true → cl.contains j = false := fun i hi hfi => by
      cases hfj : cl.contains j with
      | false => rfl
      | true =>
        have his : i < ops.size := Nat.lt_trans (hlt i hi) hjs
        have h1 := anc_ready hcl (chainV_spec hC (hlt i hi) hoj hfi hfj) hj hL (fun o ho e he hb => Nat.lt_trans (backB_spec hK ho e he hb) hjs)
        have h3 := hun1 i hi
        have hil : i < L.size := by rw [hsz]; exact his
        simp [hil] at h1 h3
        rw [h3] at h1; cases h1
    have hap : ∀ i ∈ l1, i ≠ j ∧ L.getD i true = false ∧ (∀ oi, ops[i]? = some oi → oi.apart ops oj = true) ∧ (cl.contains i = true → cl.contains j = false) := fun i hi => ⟨Nat.ne_of_lt (hlt i hi), hun1 i hi, hap1 i hi, hap2 i hi⟩
    have hleft : leftOf ops.size (L.setIfInBounds j true) = l1 ++ l2 := by
      have e1 : leftOf ops.size (L.setIfInBounds j true) = (leftOf ops.size L).filter (· ≠ j) := by
        unfold leftOf
        rw [List.filter_filter]
        refine List.filter_congr fun i hi => ?_
        by_cases hij : i = j
        · subst hij
          have : i < L.size := by rw [hsz]; exact hjs
          simp [this]
        · rw [getD_set_ne true (fun e => hij e.symm)]; simp [hij]
      rw [e1, hsp, List.filter_append, List.filter_cons]
      simp only [ne_eq, not_true_eq_false, decide_false]
      have f1 : l1.filter (fun x => decide (¬ x = j)) = l1 := List.filter_eq_self.2 fun x hx => by simp; rintro rfl; exact hj1 hx
      have f2 : l2.filter (fun x => decide (¬ x = j)) = l2 := List.filter_eq_self.2 fun x hx => by simp; rintro rfl; exact hj2 hx
      rw [f1]
      simp only [Bool.false_eq_true, if_false]
      rw [f2]
    have hsz' : (L.setIfInBounds j true).size = ops.size := by simpa using hsz
    have hlen : (leftOf ops.size (L.setIfInBounds j true)).length = fuel := by
      rw [hleft]; rw [hsp] at hl; simp at hl ⊢; omega
    have hcl' : ClosedL ops (L.setIfInBounds j true) := fun k o hk hm e he hb => by
      have done : ∀ q, q < ops.size → L.getD q false = true → (L.setIfInBounds j true).getD q false = true := fun q hq h => by
        by_cases hqj : q = j
        · subst hqj; have := hL q hq; simp [this]
        · rw [getD_set_ne false (fun e => hqj e.symm)]; exact h
      have hks : k < ops.size := (Array.getElem?_eq_some_iff.1 hk).1
      have hes : e.on < ops.size := Nat.lt_trans (backB_spec hK hk e he hb) hks
      refine done _ hes ?_
      by_cases hkj : k = j
      · subst hkj
        obtain rfl : o = oj := Option.some.inj (hk.symm.trans hoj)
        have h1 := hall e he hb
        have := hL _ hes
        simp [this] at h1 ⊢; exact h1
      · rw [getD_set_ne false (fun e => hkj e.symm)] at hm
        exact hcl k o hk hm e he hb
    have go : ∀ v w' S', S' (L.setIfInBounds j true) w' → HoldV P cl ops T (l1 ++ l2) (a.put oj.dst v) S' → wpAny P .any ops Q fuel (L.setIfInBounds j true) (a.put oj.dst v) w' := fun v w' S' hS' hh =>
      ih (L.setIfInBounds j true) (a.put oj.dst v) w' S' hsz' hcl' hlen hS' (by rw [hleft]; exact hh)
    have hjL : j < L.size := hL j hjs
    unfold Go.wpOp
    simp only [hoj]
    rcases HoldV.pick hsel hoj hj l1 a S hap hS h with ⟨v, hu, hs, hh⟩ | ⟨_, hw, v, hc, hh⟩ | ⟨_, hw, F, hF, hc, hh⟩
    · rcases hu with ⟨hw, hu⟩ | ⟨hw, rfl⟩
      · simp only [hw, if_true, Oper.wp]
        refine .inl ?_
        rcases hu with hu | ⟨hu, rfl⟩
        · simp only [hu, Oper.upon]; exact go _ _ _ hs hh
        · simp only [hu, Oper.upon]; exact go _ _ _ hs hh
      · simp only [hw, Bool.false_eq_true, if_false]; exact go _ _ _ hs hh
    · simp only [hw, if_true, Oper.wp]
      refine .inl ?_
      rcases hc with ⟨u, w', hu, rfl, hs⟩ | ⟨w', hu, rfl, hs⟩ | ⟨f, args, hu, hc⟩
      · simp only [hu, Oper.upon]; exact go _ _ _ hs hh
      · simp only [hu, Oper.upon]; exact go _ _ _ hs hh
      · simp only [hu, Oper.upon]
        exact hc.mono fun e w'' ⟨u, he, hu, hs⟩ => by subst he; subst hu; exact go _ _ _ hs hh
    · simp only [hw, if_true, Oper.wp]
      refine .inl ?_
      rcases hc with ⟨v, w', hu, hs, hF'⟩ | ⟨w', hu, hs, hF'⟩ | ⟨f, args, hu, hc⟩
      · simp only [hu, Oper.upon]; exact go _ _ _ ⟨hs, fun _ => hF'⟩ (hh v)
      · simp only [hu, Oper.upon]; exact go _ _ _ ⟨hs, fun _ => hF'⟩ (hh undef)
      · simp only [hu, Oper.upon]
        exact hc.mono fun e w'' ⟨v, he, hs, hF'⟩ => by subst he; exact go _ _ _ ⟨hs, fun _ => hF'⟩ (hh v)
def holdVOk (cl : List Nat) (ops : Array Oper) : Bool := Region.noSelect ops && meetB .any ops && backB .any ops && chainV cl ops
/-- THE BEGINNING. -/
theorem any_holdV0 {l : List Oper} {a : Act} {w : World} (S : Array Bool → World → Prop) (hB : holdVOk cl l.toArray = true)
    (hS : S (Array.replicate l.length false) w.drew) (h : HoldV P cl l.toArray (fun a S => ∀ L w, (∀ i, i < l.length → L.getD i true = true ∧ L.getD i false = true) → S L w → Q .normal a w) (List.range l.length) a S) :
    wpAny P .any l.toArray Q l.toArray.size (Array.replicate l.toArray.size false) a w.drew := by
  unfold holdVOk at hB
  simp only [Bool.and_eq_true] at hB
  obtain ⟨⟨⟨h1, h2⟩, h3⟩, h4⟩ := hB
  have hl0 : leftOf l.toArray.size (Array.replicate l.toArray.size false) = List.range l.length := by
    unfold leftOf
    rw [List.filter_eq_self.2]
    · simp
    · intro x hx
      have : x < l.toArray.size := List.mem_range.1 hx
      simp at this
      simp [this]
  refine wpAny_of_holdV (ops := l.toArray) h1 h2 h3 h4 (T := fun a S => ∀ L w, (∀ i, i < l.length → L.getD i true = true ∧ L.getD i false = true) → S L w → Q .normal a w) (fun a S L w hsz hl hT hs => ?_) _ _ _ _ S (by simp) (fun j o ho hm => ?_) (by rw [hl0]; simp) (by simpa using hS) (by rw [hl0]; exact h)
  · refine hT L w (fun i hi => ?_) hs
    have h' : i < L.size := by rw [hsz]; simpa using hi
    by_cases hx : L.getD i true = false
    · have : i ∈ leftOf l.toArray.size L := leftOf_mem.2 ⟨by simpa using hi, hx⟩
      rw [hl] at this; cases this
    · simp [h'] at hx ⊢; exact hx
  · rw [Array.getD_eq_getD_getElem?, Array.getElem?_replicate] at hm
    split at hm <;> cases hm
end
/-! ### The condition by how many of the chain have come up -/
section
variable {P : Program} {ops : Array Oper} {Q : Exit → Act → World → Prop} {cl : List Nat}
/-- How many of the chain have come up. -/
def posV (cl : List Nat) (L : Array Bool) : Nat := cl.countP fun i => L.getD i false
theorem posV_far {L : Array Bool} {k : Nat} (hk : cl.contains k = false) : posV cl (L.setIfInBounds k true) = posV cl L := by
  unfold posV
  refine List.countP_congr fun i hi => ?_
  have : k ≠ i := fun e => by subst e; simp [hi] at hk
  rw [getD_set_ne false this]
theorem closed_set (hK : backB .any ops = true) {L : Array Bool} {j : Nat} (hsz : L.size = ops.size) (hcl : ClosedL ops L) (hj : j ∈ Region.ready .any ops L) : ClosedL ops (L.setIfInBounds j true) := fun k o hk hm e he hb => by
  obtain ⟨hun, oj, hoj, hall⟩ := mem_ready.1 hj
  have hL : ∀ k, k < ops.size → k < L.size := fun k hk => by rw [hsz]; exact hk
  have done : ∀ q, q < ops.size → L.getD q false = true → (L.setIfInBounds j true).getD q false = true := fun q hq h => by
    by_cases hqj : q = j
    · subst hqj; have := hL q hq; simp [this]
    · rw [getD_set_ne false (fun e => hqj e.symm)]; exact h
  have hks : k < ops.size := (Array.getElem?_eq_some_iff.1 hk).1
  have hes : e.on < ops.size := Nat.lt_trans (backB_spec hK hk e he hb) hks
  refine done _ hes ?_
  by_cases hkj : k = j
  · subst hkj
    obtain rfl : o = oj := Option.some.inj (hk.symm.trans hoj)
    have h1 := hall e he hb
    have := hL _ hes
    simp [this] at h1 ⊢; exact h1
  · rw [getD_set_ne false (fun e => hkj e.symm)] at hm
    exact hcl k o hk hm e he hb
/-- The chain's numbers rise, and are the region's own. -/
def riseV (cl : List Nat) (ops : Array Oper) : Prop := cl.Pairwise (· < ·) ∧ ∀ c ∈ cl, c < ops.size
theorem rise_head {c : Nat} {r : List Nat} (h : riseV (c :: r) ops) : riseV r ops := ⟨(List.pairwise_cons.1 h.1).2, fun d hd => h.2 d (by simp [hd])⟩
/-- Those that have come up are the chain's first ones. -/
theorem pos_done (hr : riseV cl ops) (hC : chainV cl ops = true) {L : Array Bool} (hsz : L.size = ops.size) (hcl : ClosedL ops L) {q i : Nat} (hq : cl[q]? = some i) : (L.getD i false = true ↔ q < posV cl L) := by
  have key : ∀ (l : List Nat), l.Pairwise (· < ·) → (∀ c ∈ l, c ∈ cl) → ∀ q i, l[q]? = some i → (L.getD i false = true ↔ q < l.countP fun i => L.getD i false) := by
    intro l
    induction l with
    | nil => intro _ _ q i h; simp at h
    | cons c r ih =>
      intro hp hm q i h
      have hp' := List.pairwise_cons.1 hp
      have back : ∀ d ∈ r, L.getD d false = true → L.getD c false = true := fun d hd hl => by
        have hcm : c ∈ cl := hm c (by simp)
        have hdm : d ∈ cl := hm d (by simp [hd])
        have hds := hr.2 d hdm
        exact anc_done hcl (chainV_spec hC (hp'.1 d hd) (Array.getElem?_eq_getElem hds) (by simpa using hcm) (by simpa using hdm)) hl
      cases hc : L.getD c false with
      | false =>
        have h0 : (r.countP fun i => L.getD i false) = 0 := List.countP_eq_zero.2 fun d hd hl => by rw [back d hd hl] at hc; cases hc
        rw [List.countP_cons_of_neg (by simp [hc]), h0]
        cases q with
        | zero => simp at h; subst h; simp [hc]
        | succ q =>
          simp at h
          have hd := List.mem_of_getElem? h
          constructor
          · intro hl; rw [back i hd hl] at hc; cases hc
          · intro hl; omega
      | true =>
        rw [List.countP_cons_of_pos (by simp [hc])]
        cases q with
        | zero => simp at h; subst h; simp [hc]
        | succ q =>
          simp at h
          rw [ih hp'.2 (fun d hd => hm d (by simp [hd])) q i h]
          omega
  exact key cl hr.1 (fun c hc => hc) q i hq
/-- The state: what holds where p of the chain have come up. -/
def stV (cl : List Nat) (ops : Array Oper) (C : Nat → World → Prop) (L : Array Bool) (w : World) : Prop := ClosedL ops L ∧ L.size = ops.size ∧ C (posV cl L) w
/-- More is known behind number q of the chain. -/
def updV (C : Nat → World → Prop) (q : Nat) (D : Nat → World → Prop) (p : Nat) (w : World) : Prop := C p w ∧ (q < p → D p w)
theorem getD_both {L : Array Bool} {i : Nat} (h : i < L.size) (b c : Bool) : L.getD i b = L.getD i c := by simp [h]
theorem plus_stV (hr : riseV cl ops) (hC : chainV cl ops = true) {C : Nat → World → Prop} {q i : Nat} (hq : cl[q]? = some i) (D : Nat → World → Prop) :
    plusV (stV cl ops C) i (fun L w => D (posV cl L) w) = stV cl ops (updV C q D) := by
  funext L w
  refine propext ⟨fun ⟨⟨h1, h2, h3⟩, h4⟩ => ⟨h1, h2, h3, fun hp => h4 ?_⟩, fun ⟨h1, h2, h3, h4⟩ => ⟨⟨h1, h2, h3⟩, fun he => h4 ?_⟩⟩
  · have hi : i < L.size := by rw [h2]; exact hr.2 i (List.mem_of_getElem? hq)
    rw [getD_both hi true false]
    exact (pos_done hr hC h2 h1 hq).2 hp
  · have hi : i < L.size := by rw [h2]; exact hr.2 i (List.mem_of_getElem? hq)
    rw [getD_both hi true false] at he
    exact (pos_done hr hC h2 h1 hq).1 he
theorem pos_ready (hr : riseV cl ops) (hC : chainV cl ops = true) (hK : backB .any ops = true) {L : Array Bool} (hsz : L.size = ops.size) (hcl : ClosedL ops L) {q i : Nat} (hq : cl[q]? = some i) (hi : i ∈ Region.ready .any ops L) : posV cl L = q ∧ posV cl (L.setIfInBounds i true) = q + 1 := by
  have his : i < L.size := by rw [hsz]; exact hr.2 i (List.mem_of_getElem? hq)
  have hoff : L.getD i false = false := by
    obtain ⟨hun, _⟩ := mem_ready.1 hi
    rw [getD_both his true false] at hun; exact hun
  have h1 : ¬ q < posV cl L := fun h => by rw [(pos_done hr hC hsz hcl hq).2 h] at hoff; cases hoff
  have hcl' := closed_set hK hsz hcl hi
  have hsz' : (L.setIfInBounds i true).size = ops.size := by simpa using hsz
  have h2 : q < posV cl (L.setIfInBounds i true) := (pos_done hr hC hsz' hcl' hq).1 (by simp [his])
  have h3 : posV cl (L.setIfInBounds i true) ≤ posV cl L + 1 := by
    have hm : i ∈ cl := List.mem_of_getElem? hq
    have hnd : cl.Nodup := hr.1.imp fun h => Nat.ne_of_lt h
    obtain ⟨l1, l2, e⟩ := List.append_of_mem hm
    unfold posV
    rw [e] at hnd ⊢
    have n1 := List.nodup_append.1 hnd
    have n2 := List.nodup_cons.1 n1.2.1
    rw [List.countP_append, List.countP_append, List.countP_cons, List.countP_cons]
    have c1 : (l1.countP fun k => (L.setIfInBounds i true).getD k false) = l1.countP fun k => L.getD k false := List.countP_congr fun k hk => by
      rw [getD_set_ne false (fun e => n1.2.2 k hk i (by simp) e.symm)]
    have c2 : (l2.countP fun k => (L.setIfInBounds i true).getD k false) = l2.countP fun k => L.getD k false := List.countP_congr fun k hk => by
      rw [getD_set_ne false (fun e => n2.1 (by rw [e]; exact hk))]
    rw [c1, c2, hoff]
    split <;> simp <;> omega
  omega
/-- The operations from number i on, in the text's order. -/
def HoldP (P : Program) (cl : List Nat) (ops : Array Oper) (T : Act → (Nat → World → Prop) → Prop) : Nat → List Oper → Act → (Nat → World → Prop) → Prop
  | _, [], a, C => T a C
  | i, o :: r, a, C =>
    (∃ v lo hi, cl.contains i = false ∧ (lo = 0 ∨ ∃ j, cl[lo - 1]? = some j ∧ (o.after.any (fun e => Region.binds .any e && e.on == j) = true ∨ ((masks ops.toList []).getD i 0).testBit j = true)) ∧ (cl.length ≤ hi ∨ ∃ j oj, cl[hi]? = some j ∧ ops[j]? = some oj ∧ oj.after.any (fun e => Region.binds .any e && e.on == i) = true) ∧ ((Region.wanted o (yielded ops a.tmps) = true ∧ ∀ p w, lo ≤ p → p ≤ hi → C p w → (execOp a.eval o).run P w = .ok (.value v) w ∨ ((execOp a.eval o).run P w = .ok .skip w ∧ v = undef)) ∨ (Region.wanted o (yielded ops a.tmps) = false ∧ v = undef)) ∧ HoldP P cl ops T (i + 1) r (a.put o.dst v) C) ∨
    (∃ q, cl[q]? = some i ∧ Region.wanted o (yielded ops a.tmps) = false ∧ (∀ w, C q w → C (q + 1) w) ∧ HoldP P cl ops T (i + 1) r (a.put o.dst undef) C) ∨
    (∃ q v, cl[q]? = some i ∧ Region.wanted o (yielded ops a.tmps) = true ∧ (∀ w, C q w → Does P o a w fun u w' => u = v ∧ C (q + 1) w') ∧ HoldP P cl ops T (i + 1) r (a.put o.dst v) C) ∨
    (∃ (q : Nat) (D : Value → Nat → World → Prop), cl[q]? = some i ∧ Region.wanted o (yielded ops a.tmps) = true ∧ (∀ w, C q w → Does P o a w fun u w' => C (q + 1) w' ∧ D u (q + 1) w') ∧ ∀ v, HoldP P cl ops T (i + 1) r (a.put o.dst v) (updV C q (D v)))
theorem HoldP.holdV (hr : riseV cl ops) (hC : chainV cl ops = true) (hK : backB .any ops = true) {T : Act → (Nat → World → Prop) → Prop} : ∀ (l : List Oper) (i : Nat) (a : Act) (C : Nat → World → Prop), (∀ j, l[j]? = ops[i + j]?) → HoldP P cl ops T i l a C →
    HoldV P cl ops (fun a S => ∃ C, S = stV cl ops C ∧ T a C) (List.range' i l.length) a (stV cl ops C)
  | [], i, a, C, _, h => ⟨C, rfl, h⟩
  | o :: r, i, a, C, hl, h => by
    have ho : ops[i]? = some o := by have := hl 0; simpa using this.symm
    have hl' : ∀ j, r[j]? = ops[i + 1 + j]? := fun j => by have := hl (j + 1); simp at this; rw [this]; congr 1; omega
    rw [show (o :: r).length = r.length + 1 from rfl, List.range'_succ]
    refine ⟨o, ho, ?_⟩
    rcases h with ⟨v, lo, hi, hci, hlo, hhi, hy, h⟩ | ⟨q, hq, hw, hs, h⟩ | ⟨q, v, hq, hw, hs, h⟩ | ⟨q, D, hq, hw, hs, h⟩
    · refine .inl ⟨v, ?_, HoldP.holdV hr hC hK r (i + 1) _ C hl' h⟩
      have keep : ∀ L w, i ∈ Region.ready .any ops L → stV cl ops C L w → stV cl ops C (L.setIfInBounds i true) w := fun L w hrd ⟨h1, h2, h3⟩ => ⟨closed_set hK h2 h1 hrd, by simpa using h2, by rw [posV_far hci]; exact h3⟩
      rcases hy with ⟨hw, hv⟩ | ⟨hw, hv⟩
      · refine .inl ⟨hw, fun L w hrd hS => ⟨hv (posV cl L) w ?_ ?_ hS.2.2, keep L w hrd hS⟩⟩
        · rcases hlo with rfl | ⟨j, hj, hb⟩
          · omega
          · cases lo with
            | zero => omega
            | succ lo =>
              rcases hb with hb | hb
              · exact (pos_done hr hC hS.2.1 hS.1 (by simpa using hj)).1 (ready_on ho hrd hb)
              · refine (pos_done hr hC hS.2.1 hS.1 (by simpa using hj)).1 (anc_ready hS.1 (masks_spec ops.toList [] 0 (fun j => by simp) rfl (fun j i hh => by simp at hh) i j hb) hrd (fun k hk => by rw [hS.2.1]; exact hk) (fun o' ho' e he hb' => ?_))
                exact Nat.lt_trans (backB_spec hK ho' e he hb') (Array.getElem?_eq_some_iff.1 ho).1
        · rcases hhi with hhi | ⟨j, oj, hj, hoj, hb⟩
          · exact Nat.le_trans List.countP_le_length hhi
          · refine Nat.le_of_not_lt fun hlt => ?_
            have hlj := (pos_done hr hC hS.2.1 hS.1 hj).2 hlt
            obtain ⟨hun, _⟩ := mem_ready.1 hrd
            obtain ⟨e, he, hb⟩ := Array.any_eq_true'.1 hb
            simp only [Bool.and_eq_true, beq_iff_eq] at hb
            have hon := hS.1 j oj hoj hlj e he hb.1
            rw [hb.2] at hon
            have his : i < L.size := by rw [hS.2.1]; exact (Array.getElem?_eq_some_iff.1 ho).1
            rw [getD_both his true false, hon] at hun
            cases hun
      · exact .inr ⟨hw, hv, keep⟩
    · refine .inl ⟨undef, .inr ⟨hw, rfl, fun L w hrd ⟨h1, h2, h3⟩ => ?_⟩, HoldP.holdV hr hC hK r (i + 1) _ C hl' h⟩
      obtain ⟨e1, e2⟩ := pos_ready hr hC hK h2 h1 hq hrd
      exact ⟨closed_set hK h2 h1 hrd, by simpa using h2, by rw [e2]; exact hs w (by rw [← e1]; exact h3)⟩
    · refine .inr (.inl ⟨v, ⟨hw, by simpa using List.mem_of_getElem? hq, fun L w hrd ⟨h1, h2, h3⟩ => ?_⟩, HoldP.holdV hr hC hK r (i + 1) _ C hl' h⟩)
      obtain ⟨e1, e2⟩ := pos_ready hr hC hK h2 h1 hq hrd
      have hst : ∀ w', C (q + 1) w' → stV cl ops C (L.setIfInBounds i true) w' := fun w' hc => ⟨closed_set hK h2 h1 hrd, by simpa using h2, by rw [e2]; exact hc⟩
      rcases hs w (by rw [← e1]; exact h3) with ⟨u, w', k1, k2, k3⟩ | ⟨w', k1, k2, k3⟩ | ⟨f, args, k1, k2⟩
      · exact .inl ⟨u, w', k1, k2, hst w' k3⟩
      · exact .inr (.inl ⟨w', k1, k2, hst w' k3⟩)
      · exact .inr (.inr ⟨f, args, k1, k2.mono fun e w' ⟨u, he, hu, hc⟩ => ⟨u, he, hu, hst w' hc⟩⟩)
    · refine .inr (.inr ⟨fun v L w => D v (posV cl L) w, fun v L w k hk hD => by show D v (posV cl (L.setIfInBounds k true)) w; rw [posV_far hk]; exact hD, ⟨hw, by simpa using List.mem_of_getElem? hq, fun L w hrd ⟨h1, h2, h3⟩ => ?_⟩, fun v => ?_⟩)
      · obtain ⟨e1, e2⟩ := pos_ready hr hC hK h2 h1 hq hrd
        have hst : ∀ u w', C (q + 1) w' → D u (q + 1) w' → stV cl ops C (L.setIfInBounds i true) w' ∧ D u (posV cl (L.setIfInBounds i true)) w' := fun u w' hc hd => ⟨⟨closed_set hK h2 h1 hrd, by simpa using h2, by rw [e2]; exact hc⟩, by rw [e2]; exact hd⟩
        rcases hs w (by rw [← e1]; exact h3) with ⟨u, w', k1, k2, k3⟩ | ⟨w', k1, k2, k3⟩ | ⟨f, args, k1, k2⟩
        · exact .inl ⟨u, w', k1, hst u w' k2 k3⟩
        · exact .inr (.inl ⟨w', k1, hst undef w' k2 k3⟩)
        · exact .inr (.inr ⟨f, args, k1, k2.mono fun e w' ⟨u, he, hc, hd⟩ => ⟨u, he, hst u w' hc hd⟩⟩)
      · rw [plus_stV hr hC hq (D v)]
        exact HoldP.holdV hr hC hK r (i + 1) _ _ hl' (h v)
def holdPOk (cl : List Nat) (ops : Array Oper) : Bool := holdVOk cl ops && decide (cl.Pairwise (· < ·)) && cl.all fun c => decide (c < ops.size)
/-- THE BEGINNING. cl: the chain's numbers; C p: what holds where p of them have come up. -/
theorem any_holdP {l : List Oper} {a : Act} {w : World} (cl : List Nat) (C : Nat → World → Prop) (hB : holdPOk cl l.toArray = true) (hS : C 0 w.drew)
    (h : HoldP P cl l.toArray (fun a C => ∀ w, C cl.length w → Q .normal a w) 0 l a C) : wpAny P .any l.toArray Q l.toArray.size (Array.replicate l.toArray.size false) a w.drew := by
  unfold holdPOk at hB
  simp only [Bool.and_eq_true, decide_eq_true_eq] at hB
  obtain ⟨⟨hV, hp⟩, ha⟩ := hB
  have hV' := hV
  unfold holdVOk at hV'
  simp only [Bool.and_eq_true] at hV'
  obtain ⟨⟨⟨h1, h2⟩, h3⟩, h4⟩ := hV'
  have hr : riseV cl l.toArray := ⟨hp, fun c hc => by simpa using List.all_eq_true.1 ha c hc⟩
  have h' := HoldP.holdV (ops := l.toArray) hr h4 h3 l 0 a C (fun j => by simp) h
  rw [← List.range_eq_range'] at h'
  refine any_holdV0 (cl := cl) (stV cl l.toArray C) hV ⟨fun j o ho hm' => ?_, by simp, ?_⟩ ?_
  · rw [Array.getD_eq_getD_getElem?, Array.getElem?_replicate] at hm'
    split at hm' <;> cases hm'
  · have : posV cl (Array.replicate l.length false) = 0 := by
      unfold posV
      refine List.countP_eq_zero.2 fun i hi => ?_
      rw [Array.getD_eq_getD_getElem?, Array.getElem?_replicate]
      split <;> simp
    rw [this]; exact hS
  · revert h'
    generalize List.range l.length = ns
    generalize stV cl l.toArray C = S0
    intro h'
    have mono : ∀ (ns : List Nat) (a : Act) (S' : Array Bool → World → Prop), HoldV P cl l.toArray (fun a S' => ∃ C, S' = stV cl l.toArray C ∧ ∀ w, C cl.length w → Q .normal a w) ns a S' →
        HoldV P cl l.toArray (fun a S => ∀ L w, (∀ i, i < l.length → L.getD i true = true ∧ L.getD i false = true) → S L w → Q .normal a w) ns a S' := by
      intro ns
      induction ns with
      | nil =>
        intro a S' h L w hall hs
        obtain ⟨C, rfl, h⟩ := h
        have : posV cl L = cl.length := by
          unfold posV
          rw [List.countP_eq_length]
          exact fun i hi => (hall i (by simpa using hr.2 i hi)).2
        exact h w (by rw [← this]; exact hs.2.2)
      | cons i ns ih =>
        intro a S' h
        obtain ⟨o, ho, h⟩ := h
        refine ⟨o, ho, ?_⟩
        rcases h with ⟨v, hy, h⟩ | ⟨v, hy, h⟩ | ⟨F, hF, hy, h⟩
        · exact .inl ⟨v, hy, ih _ _ h⟩
        · exact .inr (.inl ⟨v, hy, ih _ _ h⟩)
        · exact .inr (.inr ⟨F, hF, hy, fun v => ih _ _ (h v)⟩)
    exact mono _ _ _ h'
theorem wp_region_holdP {id : Nat} {l : List Oper} {a : Act} {w : World} (cl : List Nat) (C : Nat → World → Prop) (hm : P.follows .mixedOrders = true) (hB : holdPOk cl l.toArray = true) (hS : C 0 w.drew)
    (h : HoldP P cl l.toArray (fun a C => ∀ w, C cl.length w → Q .normal a w) 0 l a C) : (Code.region id l.toArray true).wp P Q a w :=
  wp_region_any hm (any_holdP cl C hB hS h)
section
variable {T : Act → (Nat → World → Prop) → Prop} {i : Nat} {o : Oper} {r : List Oper} {a : Act} {C : Nat → World → Prop} {v : Value}
theorem holdP_nil (h : T a C) : HoldP P cl ops T i [] a C := h
/-- What only reads. -/
theorem holdP_val (hc : cl.contains i = false) (hw : Region.wanted o (yielded ops a.tmps) = true) (hv : ∀ p w, C p w → (execOp a.eval o).run P w = .ok (.value v) w) (h : HoldP P cl ops T (i + 1) r (a.put o.dst v) C) : HoldP P cl ops T i (o :: r) a C :=
  .inl ⟨v, 0, cl.length, hc, .inl rfl, .inl (Nat.le_refl _), .inl ⟨hw, fun p w _ _ h => .inl (hv p w h)⟩, h⟩
/-- What only reads, and waits for number q of the chain. -/
theorem holdP_valB (q j : Nat) (hq : cl[q]? = some j) (hb : o.after.any (fun e => Region.binds .any e && e.on == j) = true) (hc : cl.contains i = false) (hw : Region.wanted o (yielded ops a.tmps) = true) (hv : ∀ p w, q < p → C p w → (execOp a.eval o).run P w = .ok (.value v) w) (h : HoldP P cl ops T (i + 1) r (a.put o.dst v) C) : HoldP P cl ops T i (o :: r) a C :=
  .inl ⟨v, q + 1, cl.length, hc, .inr ⟨j, by simpa using hq, .inl hb⟩, .inl (Nat.le_refl _), .inl ⟨hw, fun p w hp _ h => .inl (hv p w hp h)⟩, h⟩
/-- What only reads, and waits for number q of the chain by steps. -/
theorem holdP_valC (q j : Nat) (hq : cl[q]? = some j) (hb : ((masks ops.toList []).getD i 0).testBit j = true) (hc : cl.contains i = false) (hw : Region.wanted o (yielded ops a.tmps) = true) (hv : ∀ p w, q < p → C p w → (execOp a.eval o).run P w = .ok (.value v) w) (h : HoldP P cl ops T (i + 1) r (a.put o.dst v) C) : HoldP P cl ops T i (o :: r) a C :=
  .inl ⟨v, q + 1, cl.length, hc, .inr ⟨j, by simpa using hq, .inr hb⟩, .inl (Nat.le_refl _), .inl ⟨hw, fun p w hp _ h => .inl (hv p w hp h)⟩, h⟩
/-- What only reads, and number q of the chain waits for it. -/
theorem holdP_valA (q j : Nat) (oj : Oper) (hq : cl[q]? = some j) (hoj : ops[j]? = some oj) (hb : oj.after.any (fun e => Region.binds .any e && e.on == i) = true) (hc : cl.contains i = false) (hw : Region.wanted o (yielded ops a.tmps) = true) (hv : ∀ p w, p ≤ q → C p w → (execOp a.eval o).run P w = .ok (.value v) w) (h : HoldP P cl ops T (i + 1) r (a.put o.dst v) C) : HoldP P cl ops T i (o :: r) a C :=
  .inl ⟨v, 0, q, hc, .inl rfl, .inr ⟨j, oj, hq, hoj, hb⟩, .inl ⟨hw, fun p w _ hp h => .inl (hv p w hp h)⟩, h⟩
/-- What is not wanted, and is none of the chain. -/
theorem holdP_skip (hc : cl.contains i = false) (hw : Region.wanted o (yielded ops a.tmps) = false) (h : HoldP P cl ops T (i + 1) r (a.put o.dst undef) C) : HoldP P cl ops T i (o :: r) a C :=
  .inl ⟨undef, 0, cl.length, hc, .inl rfl, .inl (Nat.le_refl _), .inr ⟨hw, rfl⟩, h⟩
/-- One of the chain that is not wanted. -/
theorem holdP_off (q : Nat) (hq : cl[q]? = some i) (hw : Region.wanted o (yielded ops a.tmps) = false) (hs : ∀ w, C q w → C (q + 1) w) (h : HoldP P cl ops T (i + 1) r (a.put o.dst undef) C) : HoldP P cl ops T i (o :: r) a C :=
  .inr (.inl ⟨q, hq, hw, hs, h⟩)
/-- A call that yields one value. -/
theorem holdP_call {f : FuncId} {args : Array Value} (q : Nat) (hq : cl[q]? = some i) (hw : Region.wanted o (yielded ops a.tmps) = true) (hv : ∀ w, C q w → (execOp a.eval o).run P w = .ok (.enter f args) w)
    (hc : ∀ w, C q w → Calls P f args w fun e w' => e = .returned v ∧ C (q + 1) w') (h : HoldP P cl ops T (i + 1) r (a.put o.dst v) C) : HoldP P cl ops T i (o :: r) a C :=
  .inr (.inr (.inl ⟨q, v, hq, hw, fun w hC => .inr (.inr ⟨f, args, hv w hC, (hc w hC).mono fun e w' ⟨he, hC'⟩ => ⟨v, he, rfl, hC'⟩⟩), h⟩))
/-- A call whose result hangs on the world. -/
theorem holdP_some {f : FuncId} {args : Array Value} (q : Nat) (D : Value → Nat → World → Prop) (hq : cl[q]? = some i) (hw : Region.wanted o (yielded ops a.tmps) = true) (hv : ∀ w, C q w → (execOp a.eval o).run P w = .ok (.enter f args) w)
    (hc : ∀ w, C q w → Calls P f args w fun e w' => ∃ v, e = .returned v ∧ C (q + 1) w' ∧ D v (q + 1) w') (h : ∀ v, HoldP P cl ops T (i + 1) r (a.put o.dst v) (updV C q (D v))) : HoldP P cl ops T i (o :: r) a C :=
  .inr (.inr (.inr ⟨q, D, hq, hw, fun w hC => .inr (.inr ⟨f, args, hv w hC, hc w hC⟩), h⟩))
/-- What makes or turns memory and yields one value. -/
theorem holdP_turn (q : Nat) (hq : cl[q]? = some i) (hw : Region.wanted o (yielded ops a.tmps) = true) (hv : ∀ w, C q w → ∃ w', (execOp a.eval o).run P w = .ok (.value v) w' ∧ C (q + 1) w') (h : HoldP P cl ops T (i + 1) r (a.put o.dst v) C) : HoldP P cl ops T i (o :: r) a C :=
  .inr (.inr (.inl ⟨q, v, hq, hw, fun w hC => by obtain ⟨w', h1, h2⟩ := hv w hC; exact .inl ⟨v, w', h1, rfl, h2⟩, h⟩))
/-- What makes or turns memory, with nothing to yield (a store). -/
theorem holdP_store (q : Nat) (hq : cl[q]? = some i) (hw : Region.wanted o (yielded ops a.tmps) = true) (hv : ∀ w, C q w → ∃ w', (execOp a.eval o).run P w = .ok .skip w' ∧ C (q + 1) w') (h : HoldP P cl ops T (i + 1) r (a.put o.dst undef) C) : HoldP P cl ops T i (o :: r) a C :=
  .inr (.inr (.inl ⟨q, undef, hq, hw, fun w hC => by obtain ⟨w', h1, h2⟩ := hv w hC; exact .inr (.inl ⟨w', h1, rfl, h2⟩), h⟩))
/-- What makes memory and yields a value that hangs on the world (a slice written out, a box). -/
theorem holdP_make (q : Nat) (D : Value → Nat → World → Prop) (hq : cl[q]? = some i) (hw : Region.wanted o (yielded ops a.tmps) = true) (hv : ∀ w, C q w → ∃ v w', (execOp a.eval o).run P w = .ok (.value v) w' ∧ C (q + 1) w' ∧ D v (q + 1) w')
    (h : ∀ v, HoldP P cl ops T (i + 1) r (a.put o.dst v) (updV C q (D v))) : HoldP P cl ops T i (o :: r) a C :=
  .inr (.inr (.inr ⟨q, D, hq, hw, fun w hC => by obtain ⟨v, w', h1, h2, h3⟩ := hv w hC; exact .inl ⟨v, w', h1, h2, h3⟩, h⟩))
end
end
end Go.Proofs.YtgooepfhapaenaaGreat
/- Stores of whole structs in a region that draws its order (HoldV's chain). Conditions: as stated. -/
namespace Go.Proofs.YtgooepfhapaenaaGreat
open Go.ChangeShapes Go.WideShapes Go.ChangeAt Go.RowKit
set_option linter.unusedVariables false

theorem holdP_storeRow {P : Program} {ops : Array Oper} {cl : List Nat} {T : Act → (Nat → World → Prop) → Prop} {i : Nat} {o : Oper} {r : List Oper} {a : Act} {C : Nat → World → Prop} (q : Nat) (ty : TypeId) (x y : Operand) (ho : o.op = .store ty x y) (hq : cl[q]? = some i) (hw : Region.wanted o (yielded ops a.tmps) = true)
    (g : Nat) (cells : Array Value) (hx : a.eval x = .pointer (some ⟨g, 0, none⟩)) (hy : a.eval y = .agg cells) (hi : (P.info? ty).map (·.size) = some cells.size) (h1 : cells.all (·.oneCell') = true)
    (hs : ∀ w, C q w → ∃ t old, w.heap[g]? = some (.cells old t (0, 0)) ∧ old.size = cells.size ∧ C (q + 1) (w.setRow g cells))
    (h : HoldP P cl ops T (i + 1) r (a.put o.dst undef) C) : HoldP P cl ops T i (o :: r) a C :=
  holdP_store q hq hw (fun w hC => by
    obtain ⟨t, old, hg, hold, hC'⟩ := hs w hC
    refine ⟨w.setRow g cells, ?_, hC'⟩
    unfold execOp
    simp only [ho, hx, hy, Instr.storeAt, Instr.sureAddr, Sem.run_bind, Sem.run_pure, Result.andThen_ok, run_storeVar_row w g t ty old cells hg hi hold h1]) h
/-- A store of a struct that lies within a block. -/
theorem holdP_storeMid {P : Program} {ops : Array Oper} {cl : List Nat} {T : Act → (Nat → World → Prop) → Prop} {i : Nat} {o : Oper} {r : List Oper} {a : Act} {C : Nat → World → Prop} (q : Nat) (ty : TypeId) (x y : Operand) (ho : o.op = .store ty x y) (hq : cl[q]? = some i) (hw : Region.wanted o (yielded ops a.tmps) = true)
    (g k : Nat) (cells : Array Value) (hx : a.eval x = .pointer (some ⟨g, k, none⟩)) (hy : a.eval y = .agg cells) (hi : (P.info? ty).map (·.size) = some cells.size) (h1 : cells.all (·.oneCell') = true)
    (hs : ∀ w, C q w → w.there g k cells.size ∧ C (q + 1) (w.setCells g k cells.toList))
    (h : HoldP P cl ops T (i + 1) r (a.put o.dst undef) C) : HoldP P cl ops T i (o :: r) a C :=
  holdP_store q hq hw (fun w hC => by
    obtain ⟨ht, hC'⟩ := hs w hC
    refine ⟨w.setCells g k cells.toList, ?_, hC'⟩
    unfold execOp
    simp only [ho, hx, hy, Instr.storeAt, Instr.sureAddr, Sem.run_bind, Sem.run_pure, Result.andThen_ok, run_storeVar_mid w g k ty cells ht hi h1]) h
end Go.Proofs.YtgooepfhapaenaaGreat
/- A region that draws its order up to a number, taken by a condition of one's own: whatever the order, each of those operations keeps it; the rest by the ordinary walk. For allocs beside calls, whose places hang on the order. Conditions: as stated. -/
namespace Go.Proofs.YtgooepfhapaenaaGreat
open Go.RowKit
set_option linter.unusedVariables false

def updS (s : Nat → Value) (j : Nat) (v : Value) : Nat → Value := fun k => if k = j then v else s k
/-- The frame with what the operations have yielded laid in. -/
def putFrom (s : Nat → Value) : Nat → List (Option Tmp) → Act → Act
  | _, [], a => a
  | k, d :: r, a => putFrom s (k + 1) r (a.put d (s k))
theorem put_same2 (a : Act) (d : Option Tmp) (u v : Value) : (a.put d u).put d v = a.put d v := by
  cases d with
  | none => rfl
  | some t => simp [Act.put]
theorem put_swap (a : Act) (d e : Option Tmp) (u v : Value) (h : d ≠ e) : (a.put d u).put e v = (a.put e v).put d u := by
  cases d with
  | none => rfl
  | some t =>
    cases e with
    | none => rfl
    | some q =>
      have hne : t ≠ q := fun x => h (by rw [x])
      simp only [Act.put]
      congr 1
      exact Array.setIfInBounds_comm _ _ hne
theorem putFrom_out (s : Nat → Value) : ∀ (ds : List (Option Tmp)) (k : Nat) (a : Act) (d : Option Tmp) (v : Value), d ∉ ds → (putFrom s k ds a).put d v = putFrom s k ds (a.put d v)
  | [], _, _, _, _, _ => rfl
  | e :: r, k, a, d, v, h => by
    rw [putFrom, putFrom, putFrom_out s r (k + 1) _ d v (fun x => h (List.mem_cons_of_mem _ x)), put_swap _ e d _ _ (fun x => h (by rw [x]; exact List.mem_cons_self))]
theorem putFrom_upd (s : Nat → Value) (j : Nat) (v : Value) : ∀ (ds : List (Option Tmp)) (k : Nat) (a : Act), j < k → putFrom (updS s j v) k ds a = putFrom s k ds a
  | [], _, _, _ => rfl
  | e :: r, k, a, h => by
    rw [putFrom, putFrom, putFrom_upd s j v r (k + 1) _ (by omega)]
    rw [show updS s j v k = s k by unfold updS; rw [if_neg (by omega)]]
theorem putFrom_in (s : Nat → Value) : ∀ (ds : List (Option Tmp)) (k j : Nat) (a : Act) (d : Option Tmp) (v : Value), ds.Nodup → ds[j]? = some d → (putFrom s k ds a).put d v = putFrom (updS s (k + j) v) k ds a
  | e :: r, k, 0, a, d, v, hn, hj => by
    obtain rfl : e = d := by simpa using hj
    rw [putFrom, putFrom, putFrom_out s r (k + 1) _ e v (List.nodup_cons.1 hn).1, put_same2, putFrom_upd s (k + 0) v r (k + 1) _ (by omega)]
    rw [show updS s (k + 0) v k = v by unfold updS; rw [if_pos (by omega)]]
  | e :: r, k, j + 1, a, d, v, hn, hj => by
    rw [putFrom, putFrom, putFrom_in s r (k + 1) j _ d v (List.nodup_cons.1 hn).2 (by simpa using hj)]
    rw [show k + 1 + j = k + (j + 1) by omega, show updS s (k + (j + 1)) v k = s k by unfold updS; rw [if_neg (by omega)]]
theorem put_size (a : Act) (d : Option Tmp) (v : Value) : (a.put d v).tmps.size = a.tmps.size := by cases d <;> simp [Act.put]
theorem putFrom_size (s : Nat → Value) : ∀ (ds : List (Option Tmp)) (k : Nat) (a : Act), (putFrom s k ds a).tmps.size = a.tmps.size
  | [], _, _ => rfl
  | d :: r, k, a => by rw [putFrom, putFrom_size s r (k + 1), put_size]
theorem putFrom_else (s : Nat → Value) (t : Tmp) : ∀ (ds : List (Option Tmp)) (k : Nat) (a : Act), some t ∉ ds → (putFrom s k ds a).tmps[t]? = a.tmps[t]?
  | [], _, _, _ => rfl
  | d :: r, k, a, h => by
    rw [putFrom, putFrom_else s t r (k + 1) _ (fun x => h (List.mem_cons_of_mem _ x))]
    cases d with
    | none => rfl
    | some q =>
      have : q ≠ t := fun e => h (by rw [e]; exact List.mem_cons_self)
      simp [Act.put, Array.getElem?_setIfInBounds_ne this]
theorem putFrom_read (s : Nat → Value) : ∀ (ds : List (Option Tmp)) (k j : Nat) (a : Act) (t : Tmp), ds.Nodup → ds[j]? = some (some t) → t < a.tmps.size → (putFrom s k ds a).tmps[t]? = some (s (k + j))
  | e :: r, k, 0, a, t, hn, hj, ht => by
    obtain rfl : e = some t := by simpa using hj
    rw [putFrom, putFrom_else s t r (k + 1) _ (List.nodup_cons.1 hn).1]
    simp [Act.put, ht]
  | e :: r, k, j + 1, a, t, hn, hj, ht => by
    rw [putFrom, putFrom_read s r (k + 1) j _ t (List.nodup_cons.1 hn).2 (by simpa using hj) (by rw [put_size]; exact ht), show k + 1 + j = k + (j + 1) by omega]
theorem putFrom_self : ∀ (ds : List (Option Tmp)) (k : Nat) (a : Act) (s : Nat → Value), (∀ j t, ds[j]? = some (some t) → s (k + j) = a.tmps.getD t undef) → putFrom s k ds a = a
  | [], _, _, _, _ => rfl
  | d :: r, k, a, s, h => by
    have e : a.put d (s k) = a := by
      cases d with
      | none => rfl
      | some t =>
        have h0 := h 0 t (by simp)
        rw [Nat.add_zero] at h0
        rw [h0]
        show { a with tmps := a.tmps.setIfInBounds t (a.tmps.getD t undef) } = a
        have : a.tmps.setIfInBounds t (a.tmps.getD t undef) = a.tmps := by
          refine Array.ext (by simp) fun i h1 h2 => ?_
          by_cases hi : t = i
          · subst hi; simp [h2]
          · rw [Array.getElem_setIfInBounds_ne _ hi]
        rw [this]
    rw [putFrom, e]
    exact putFrom_self r (k + 1) a s fun j t hj => by
      have := h (j + 1) t (by simpa using hj)
      rwa [show k + (j + 1) = k + 1 + j by omega] at this
def slotsOf (ds : List (Option Tmp)) (a : Act) (k : Nat) : Value := match ds[k]? with
  | some (some t) => a.tmps.getD t undef
  | _ => undef
theorem putFrom_slots (ds : List (Option Tmp)) (a : Act) : putFrom (slotsOf ds a) 0 ds a = a := putFrom_self ds 0 a _ fun j t hj => by
  rw [Nat.zero_add]; unfold slotsOf; rw [hj]
section
variable {P : Program} {ops : Array Oper} {Q : Exit → Act → World → Prop}
theorem does_mono {o : Oper} {a : Act} {w : World} {K K' : Value → World → Prop} (h : Does P o a w K) (hk : ∀ v w', K v w' → K' v w') : Does P o a w K' := by
  rcases h with ⟨v, w', h1, h2⟩ | ⟨w', h1, h2⟩ | ⟨f, args, h1, h2⟩
  · exact .inl ⟨v, w', h1, hk _ _ h2⟩
  · exact .inr (.inl ⟨w', h1, hk _ _ h2⟩)
  · exact .inr (.inr ⟨f, args, h1, h2.mono fun e w'' ⟨v, he, h3⟩ => ⟨v, he, hk _ _ h3⟩⟩)
theorem wpAny_inv {n : Nat} (I : Array Bool → Act → World → Prop) (hK : backB .any ops = true) (hs : Region.sinkB .any ops n = true) (hch : Region.chainB .any ops n = true) (hn : n < ops.size)
    (hstep : ∀ L a w j o, HeadInv .any ops n L → j < n → j ∈ Region.ready .any ops L → ops[j]? = some o → I L a w → Region.wanted o (yielded ops a.tmps) = true ∧ Does P o a w fun v w' => I (L.setIfInBounds j true) (a.put o.dst v) w')
    (hend : ∀ L a w, HeadInv .any ops n L → leftOf n L = [] → I L a w → wpAny P .any ops Q (ops.size - n) L a w) :
    ∀ (fuel : Nat) (L : Array Bool) (a : Act) (w : World), HeadInv .any ops n L → (leftOf n L).length = fuel → I L a w → wpAny P .any ops Q (fuel + (ops.size - n)) L a w := by
  intro fuel
  induction fuel with
  | zero =>
    intro L a w inv hl hI
    rw [Nat.zero_add]
    exact hend L a w inv (List.eq_nil_of_length_eq_zero hl) hI
  | succ fuel ih =>
    intro L a w inv hl hI
    have hsz := inv.size
    obtain ⟨q, hq⟩ : ∃ q, q ∈ leftOf n L := by
      cases hlf : leftOf n L with
      | nil => rw [hlf] at hl; cases hl
      | cons q r => exact ⟨q, by simp⟩
    obtain ⟨hqn, hqu⟩ := leftOf_mem.1 hq
    rw [show fuel + 1 + (ops.size - n) = (fuel + (ops.size - n)) + 1 by omega]
    refine ⟨fun h0 => absurd h0 (ready_some hK L hsz (fun e => by
      have : q ∈ leftOf ops.size L := leftOf_mem.2 ⟨by omega, hqu⟩
      rw [e] at this; cases this)), fun j hj => ?_⟩
    obtain ⟨hun, oj, hoj, hall⟩ := mem_ready.1 hj
    have hjs : j < ops.size := (Array.getElem?_eq_some_iff.1 hoj).1
    have hjn : j < n := by
      rcases Nat.lt_or_ge j n with h' | h'
      · exact h'
      · exact absurd hj (tail_waits hs hch hn inv _ q rfl hqn hqu j h')
    have hmem : j ∈ leftOf n L := leftOf_mem.2 ⟨hjn, hun⟩
    have hjL : j < L.size := by rw [hsz]; exact hjs
    have hlen : (leftOf n (L.setIfInBounds j true)).length = fuel := by
      obtain ⟨l1, l2, hsp⟩ := List.append_of_mem hmem
      have hsrt : (leftOf n L).Pairwise (· < ·) := List.Pairwise.filter _ List.pairwise_lt_range
      rw [hsp] at hsrt hl
      have hj1 : j ∉ l1 := fun e => Nat.lt_irrefl _ ((List.pairwise_append.1 hsrt).2.2 j e j (by simp))
      have hj2 : j ∉ l2 := fun e => by
        have := (List.pairwise_append.1 hsrt).2.1
        exact Nat.lt_irrefl _ ((List.pairwise_cons.1 this).1 j e)
      have e1 : leftOf n (L.setIfInBounds j true) = (leftOf n L).filter (· ≠ j) := by
        unfold leftOf
        rw [List.filter_filter]
        refine List.filter_congr fun i hi => ?_
        by_cases hij : i = j
        · subst hij; simp [hjL]
        · rw [getD_set_ne true (fun e => hij e.symm)]; simp [hij]
      rw [e1, hsp, List.filter_append, List.filter_cons]
      simp only [ne_eq, not_true_eq_false, decide_false]
      have f1 : l1.filter (fun x => decide (¬ x = j)) = l1 := List.filter_eq_self.2 fun x hx => by simp; rintro rfl; exact hj1 hx
      have f2 : l2.filter (fun x => decide (¬ x = j)) = l2 := List.filter_eq_self.2 fun x hx => by simp; rintro rfl; exact hj2 hx
      rw [f1]
      simp only [Bool.false_eq_true, if_false]
      rw [f2]
      simp at hl ⊢; omega
    have go : ∀ v w', I (L.setIfInBounds j true) (a.put oj.dst v) w' → wpAny P .any ops Q (fuel + (ops.size - n)) (L.setIfInBounds j true) (a.put oj.dst v) w' := fun v w' h =>
      ih (L.setIfInBounds j true) (a.put oj.dst v) w' (inv.set hj hjn) hlen h
    obtain ⟨hw, hd⟩ := hstep L a w j oj inv hjn hj hoj hI
    unfold Go.wpOp
    simp only [hoj, hw, if_true, Oper.wp]
    refine .inl ?_
    rcases hd with ⟨v, w', hu, h⟩ | ⟨w', hu, h⟩ | ⟨f, args, hu, hc⟩
    · simp only [hu, Oper.upon]; exact go _ _ h
    · simp only [hu, Oper.upon]; exact go _ _ h
    · simp only [hu, Oper.upon]
      exact hc.mono fun e w'' ⟨v, he, h⟩ => by subst he; exact go _ _ h
def invOk (ops : Array Oper) (n : Nat) : Bool := backB .any ops && decide (n < ops.size) && Region.sinkB .any ops n && Region.chainB .any ops n && Region.seqB .any ops (ops.size - n) n (doneTo ops.size n)
/-- THE RULE. m: which have come up; s: what they have yielded. -/
theorem wp_region_inv {id : Nat} {l : List Oper} {a : Act} {w : World} (n : Nat) (s0 : Nat → Value) (J : (Nat → Bool) → (Nat → Value) → World → Prop) (ds : List (Option Tmp)) (hds : (l.take n).map (·.dst) = ds) (hnd : ds.Nodup) (hm : P.follows .mixedOrders = true) (hB : invOk l.toArray n = true)
    (hput : putFrom s0 0 ds a = a) (hS : J (fun _ => false) s0 w.drew)
    (hstep : ∀ j o, j < n → l[j]? = some o → ∀ m s w, m j = false → (∀ e ∈ o.after, Region.binds .any e = true → m e.on = true) → J m s w →
      Region.wanted o (yielded l.toArray (putFrom s 0 ds a).tmps) = true ∧ Does P o (putFrom s 0 ds a) w fun v w' => J (fun k => k == j || m k) (updS s j v) w')
    (h : ∀ m s w, (∀ k, k < n → m k = true) → J m s w → wpList P l.toArray Q (l.drop n) (putFrom s 0 ds a) w) : (Code.region id l.toArray true).wp P Q a w := by
  unfold invOk at hB
  simp only [Bool.and_eq_true, decide_eq_true_eq] at hB
  obtain ⟨⟨⟨⟨h3, h5⟩, h6⟩, h7⟩, h8⟩ := hB
  refine wp_region_any hm ?_
  have hl0 : leftOf n (Array.replicate l.toArray.size false) = List.range n := by
    unfold leftOf
    rw [List.filter_eq_self.2]
    intro x hx
    have : x < n := List.mem_range.1 hx
    have : x < l.length := by simp at h5; omega
    simp [this]
  have inv0 : HeadInv .any l.toArray n (Array.replicate l.toArray.size false) :=
    ⟨by simp, fun j oj _ hl => (by rw [getD_replicate_false] at hl; cases hl), fun t _ ht => getD_in (by simpa using ht) (getD_replicate_false _ _)⟩
  have H := wpAny_inv (P := P) (ops := l.toArray) (Q := Q) (n := n) (fun L b w => ∃ s, b = putFrom s 0 ds a ∧ J (fun k => L.getD k false) s w) h3 h6 h7 h5
    (fun L b w j o inv hjn hj hoj ⟨s, hb, hJ⟩ => by
      subst hb
      obtain ⟨hun, o', ho', hall⟩ := mem_ready.1 hj
      obtain rfl : o' = o := Option.some.inj (ho'.symm.trans hoj)
      have hjs : j < l.toArray.size := (Array.getElem?_eq_some_iff.1 hoj).1
      have hjL : j < L.size := by rw [inv.size]; exact hjs
      obtain ⟨hw, hd⟩ := hstep j o' hjn (by simpa using hoj) (fun k => L.getD k false) s w (by simp [hjL] at hun ⊢; exact hun) hall hJ
      refine ⟨hw, does_mono hd fun v w' hJ' => ⟨updS s j v, ?_, ?_⟩⟩
      · have hdj : ds[j]? = some o'.dst := by rw [← hds, List.getElem?_map, List.getElem?_take_of_lt hjn]; rw [show l[j]? = some o' by simpa using hoj]; rfl
        have := putFrom_in s ds 0 j a o'.dst v hnd hdj
        rw [Nat.zero_add] at this
        exact this
      · have e : (fun k => (L.setIfInBounds j true).getD k false) = fun k => k == j || L.getD k false := by
          funext k
          by_cases hkj : k = j
          · subst hkj; simp [hjL]
          · rw [getD_set_ne false (fun e => hkj e.symm)]; simp [hkj]
        rw [e]; exact hJ')
    (fun L b w inv hl ⟨s, hb, hJ⟩ => by
      subst hb
      have hw := h (fun k => L.getD k false) s w (fun i hi => by
        have h' : i < L.size := by rw [inv.size]; omega
        by_cases hx : L.getD i true = false
        · have : i ∈ leftOf n L := leftOf_mem.2 ⟨hi, hx⟩
          rw [hl] at this; cases this
        · simp [h'] at hx ⊢; exact hx) hJ
      have he := done_eq inv h5 hl
      rw [he]
      have hdl : (l.drop n).length = l.toArray.size - n := by simp
      have := wpAny_of_seq (md := .any) (Q' := Q) (l.drop n) n (doneTo l.toArray.size n) (putFrom s 0 ds a) w (fun j => by simp [List.getElem?_drop]) (by rw [hdl]; exact h8) hw
      rwa [hdl] at this) n (Array.replicate l.toArray.size false) a w.drew inv0 (by rw [hl0]; simp) ⟨s0, hput.symm, by
        have e : (fun k => (Array.replicate l.toArray.size false).getD k false) = fun _ => false := by
          funext k
          exact getD_replicate_false _ _
        rw [e]; exact hS⟩
  rwa [show n + (l.toArray.size - n) = l.toArray.size by omega] at H
end
end Go.Proofs.YtgooepfhapaenaaGreat
