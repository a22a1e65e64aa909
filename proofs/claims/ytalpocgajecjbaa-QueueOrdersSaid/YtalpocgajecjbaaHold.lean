/- A region that draws its order, taken in the text's order: each operation yields one value in every world that meets a condition, and leaves a world that meets it: calls that make memory, or turn it, among them (then the condition hangs on which of those have come up). Conditions: as stated. -/
import Derived.WalkKit
import Derived.ProofKit
import Derived.OrdersHeld
import Derived.Lib.Hide
namespace Go.Proofs.Ytalpocgajecjbaa
open Go.RowKit
set_option linter.unusedVariables false

section
variable {P : Program} {ops : Array Oper} {Q : Exit → Act → World → Prop} {md : Region.Mode} {S : Array Bool → World → Prop}
/-- In state a, whatever has come up (so that number i may come up now), in every world that meets S there: operation o leaves v in its temporary, and a world that meets S with i come up. -/
def StepsI (P : Program) (md : Region.Mode) (ops : Array Oper) (S : Array Bool → World → Prop) (i : Nat) (o : Oper) (v : Value) (a : Act) : Prop :=
  (Region.wanted o (yielded ops a.tmps) = true ∧ ∀ L w, i ∈ Region.ready md ops L → S L w →
    ((∃ w', (execOp a.eval o).run P w = .ok (.value v) w' ∧ S (L.setIfInBounds i true) w') ∨
     (∃ w', (execOp a.eval o).run P w = .ok .skip w' ∧ v = undef ∧ S (L.setIfInBounds i true) w') ∨
     (∃ f args w', (execOp a.eval o).run P w = .ok (.enter f args) w' ∧ Calls P f args w' fun e w'' => e = .returned v ∧ S (L.setIfInBounds i true) w''))) ∨
  (Region.wanted o (yielded ops a.tmps) = false ∧ v = undef ∧ ∀ L w, i ∈ Region.ready md ops L → S L w → S (L.setIfInBounds i true) w)
theorem StepsI.wpOp {i : Nat} {o : Oper} {v : Value} {a : Act} (hi : ops[i]? = some o) (hy : StepsI P md ops S i o v a)
    {K : Act → World → Prop} {L : Array Bool} {w : World} (hr : i ∈ Region.ready md ops L) (hS : S L w) (h : ∀ w', S (L.setIfInBounds i true) w' → K (a.put o.dst v) w') : wpOp P ops Q i K a w := by
  unfold Go.wpOp
  simp only [hi]
  rcases hy with ⟨hw, hv⟩ | ⟨hw, rfl, hs⟩
  · simp only [hw, if_true, Oper.wp]
    refine .inl ?_
    rcases hv L w hr hS with ⟨w', hr, hs⟩ | ⟨w', hr, rfl, hs⟩ | ⟨f, args, w', hr, hc⟩
    · simp only [hr, Oper.upon]; exact h w' hs
    · simp only [hr, Oper.upon]; exact h w' hs
    · simp only [hr, Oper.upon]
      exact hc.mono fun e w'' ⟨he, hs⟩ => by subst he; exact h w'' hs
  · simp only [hw, Bool.false_eq_true, if_false]; exact h w (hs L w hr hS)
theorem StepsI.of_same {i : Nat} {o : Oper} {v : Value} {a a' : Act} (hy : StepsI P md ops S i o v a) (he : execOp a'.eval o = execOp a.eval o)
    (hw : Region.wanted o (yielded ops a'.tmps) = Region.wanted o (yielded ops a.tmps)) : StepsI P md ops S i o v a' := by
  unfold StepsI at *
  rw [he, hw]
  exact hy
/-- The operations that are left, in the text's order. -/
def HoldL (P : Program) (md : Region.Mode) (ops : Array Oper) (S : Array Bool → World → Prop) (T : Act → Prop) : List Nat → Act → Prop
  | [], a => T a
  | i :: r, a => ∃ o v, ops[i]? = some o ∧ StepsI P md ops S i o v a ∧ HoldL P md ops S T r (a.put o.dst v)
theorem HoldL.pick {T : Act → Prop} (hsel : Region.noSelect ops = true) {j : Nat} {oj : Oper} (hj : ops[j]? = some oj) {l2 : List Nat} :
    ∀ (l1 : List Nat) (a : Act), (∀ i ∈ l1, ∀ oi, ops[i]? = some oi → oi.apart ops oj = true) → HoldL P md ops S T (l1 ++ j :: l2) a →
      ∃ v, StepsI P md ops S j oj v a ∧ HoldL P md ops S T (l1 ++ l2) (a.put oj.dst v)
  | [], a, _, h => by
    obtain ⟨o, v, ho, hy, h⟩ := h
    obtain rfl : o = oj := Option.some.inj (ho.symm.trans hj)
    exact ⟨v, hy, h⟩
  | i :: l1, a, hap, h => by
    obtain ⟨o, u, ho, hy, h⟩ := h
    obtain ⟨v, hyj, h2⟩ := HoldL.pick hsel hj l1 (a.put o.dst u) (fun k hk => hap k (by simp [hk])) h
    obtain ⟨h1, h2', h3⟩ := Oper.apart_spec (hap i (by simp) o ho)
    have hso := Region.noSelect_spec hsel i o
    have hsj := Region.noSelect_spec hsel j oj
    refine ⟨v, hyj.of_same (execOp_put oj (fun cs b => hsj cs b hj) a o.dst u h1).symm (wanted_put oj a o.dst u h1).symm, o, u, ho, hy.of_same (execOp_put o (fun cs b => hso cs b ho) a oj.dst v h3) (wanted_put o a oj.dst v h3), ?_⟩
    rw [Act.put_comm a v u (fun d hd hd2 => h2' d hd2 hd)]
    exact h2
/-- Those that have not come up, in the text's order. -/
def leftOf (n : Nat) (L : Array Bool) : List Nat := (List.range n).filter fun i => !L.getD i true
theorem leftOf_mem {n i : Nat} {L : Array Bool} : i ∈ leftOf n L ↔ i < n ∧ L.getD i true = false := by simp [leftOf]
/-- Each of two operations, the earlier first: the later one waits for it, or they are apart. -/
def meetB (md : Region.Mode) (ops : Array Oper) : Bool :=
  (List.range ops.size).all fun j => (List.range j).all fun i => match ops[i]?, ops[j]? with
    | some oi, some oj => oj.after.any (fun e => Region.binds md e && e.on == i) || oi.apart ops oj
    | _, _ => true
theorem meetB_spec (h : meetB md ops = true) {i j : Nat} {oi oj : Oper} (hij : i < j) (hi : ops[i]? = some oi) (hj : ops[j]? = some oj)
    (hn : ∀ e ∈ oj.after, Region.binds md e = true → e.on ≠ i) : oi.apart ops oj = true := by
  unfold meetB at h
  rw [List.all_eq_true] at h
  have hjs : j < ops.size := (Array.getElem?_eq_some_iff.1 hj).1
  have h1 := h j (List.mem_range.2 hjs)
  rw [List.all_eq_true] at h1
  have h2 := h1 i (List.mem_range.2 hij)
  rw [hi, hj] at h2
  simp only [Bool.or_eq_true] at h2
  rcases h2 with h2 | h2
  · obtain ⟨e, he, hb⟩ := Array.any_eq_true'.1 h2
    simp only [Bool.and_eq_true, beq_iff_eq] at hb
    exact absurd hb.2 (hn e he hb.1)
  · exact h2
theorem wpAny_of_holdL (hsel : Region.noSelect ops = true) (hB : meetB md ops = true) {T : Act → Prop} (hend : ∀ a L w, L.size = ops.size → leftOf ops.size L = [] → T a → S L w → Q .normal a w)
    (hrdy : ∀ L, L.size = ops.size → leftOf ops.size L ≠ [] → Region.ready md ops L ≠ []) :
    ∀ (fuel : Nat) (L : Array Bool) (a : Act) (w : World), L.size = ops.size → (leftOf ops.size L).length = fuel → S L w → HoldL P md ops S T (leftOf ops.size L) a → wpAny P md ops Q fuel L a w := by
  intro fuel
  induction fuel with
  | zero =>
    intro L a w hsz hl hS h
    have h0 : leftOf ops.size L = [] := List.eq_nil_of_length_eq_zero hl
    rw [h0] at h
    have hr : Region.ready md ops L = [] := by
      rw [List.eq_nil_iff_forall_not_mem]
      intro i hi
      obtain ⟨hun, oi, hoi, _⟩ := mem_ready.1 hi
      have : i ∈ leftOf ops.size L := leftOf_mem.2 ⟨(Array.getElem?_eq_some_iff.1 hoi).1, hun⟩
      rw [h0] at this; cases this
    exact ⟨hr, hend a L w hsz h0 h hS⟩
  | succ fuel ih =>
    intro L a w hsz hl hS h
    refine ⟨fun h0 => absurd h0 (hrdy L hsz (fun e => by rw [e] at hl; cases hl)), fun j hj => ?_⟩
    obtain ⟨hun, oj, hoj, hall⟩ := mem_ready.1 hj
    have hjs : j < ops.size := (Array.getElem?_eq_some_iff.1 hoj).1
    have hmem : j ∈ leftOf ops.size L := leftOf_mem.2 ⟨hjs, hun⟩
    obtain ⟨l1, l2, hsp⟩ := List.append_of_mem hmem
    have hsrt : (leftOf ops.size L).Pairwise (· < ·) := List.Pairwise.filter _ List.pairwise_lt_range
    rw [hsp] at h hsrt
    have hlt : ∀ i ∈ l1, i < j := fun i hi => (List.pairwise_append.1 hsrt).2.2 i hi j (by simp)
    have hj1 : j ∉ l1 := fun e => Nat.lt_irrefl _ (hlt j e)
    have hj2 : j ∉ l2 := fun e => by
      have := (List.pairwise_append.1 hsrt).2.1
      exact Nat.lt_irrefl _ ((List.pairwise_cons.1 this).1 j e)
    have hap : ∀ i ∈ l1, ∀ oi, ops[i]? = some oi → oi.apart ops oj = true := fun i hi oi hoi => by
      refine meetB_spec hB (hlt i hi) hoi hoj fun e he hb heq => ?_
      have h1 := hall e he hb
      have h2 : i ∈ leftOf ops.size L := by rw [hsp]; simp [hi]
      have h3 := (leftOf_mem.1 h2).2
      rw [heq] at h1
      have hil : i < L.size := by rw [hsz]; exact (Array.getElem?_eq_some_iff.1 hoi).1
      simp [hil] at h1 h3
      rw [h3] at h1; cases h1
    obtain ⟨v, hy, h2⟩ := HoldL.pick hsel hoj l1 a hap h
    refine hy.wpOp hoj hj hS fun w' hs => ?_
    have hleft : leftOf ops.size (L.setIfInBounds j true) = l1 ++ l2 := by
      have e1 : leftOf ops.size (L.setIfInBounds j true) = (leftOf ops.size L).filter (· ≠ j) := by
        unfold leftOf
        rw [List.filter_filter]
        refine List.filter_congr fun i hi => ?_
        by_cases hij : i = j
        · subst hij
          have : i < L.size := by rw [hsz]; exact hjs
          simp [this]
        · rw [getD_set_ne true (fun e => hij e.symm)]; simp [hij]
      rw [e1, hsp, List.filter_append, List.filter_cons]
      simp only [ne_eq, not_true_eq_false, decide_false]
      have f1 : l1.filter (fun x => decide (¬ x = j)) = l1 := List.filter_eq_self.2 fun x hx => by simp; rintro rfl; exact hj1 hx
      have f2 : l2.filter (fun x => decide (¬ x = j)) = l2 := List.filter_eq_self.2 fun x hx => by simp; rintro rfl; exact hj2 hx
      rw [f1]
      simp only [Bool.false_eq_true, if_false]
      rw [f2]
    refine ih (L.setIfInBounds j true) (a.put oj.dst v) w' (by simpa using hsz) ?_ hs (by rw [hleft]; exact h2)
    rw [hleft]
    rw [hsp] at hl
    simp at hl ⊢; omega
/-- Nobody waits for a later one. -/
def backB (md : Region.Mode) (ops : Array Oper) : Bool :=
  (List.range ops.size).all fun i => match ops[i]? with
    | some o => o.after.all fun e => !Region.binds md e || decide (e.on < i)
    | none => true
theorem ready_some (hB : backB md ops = true) (L : Array Bool) (hsz : L.size = ops.size) (h : leftOf ops.size L ≠ []) : Region.ready md ops L ≠ [] := by
  intro hr
  have hsrt : (leftOf ops.size L).Pairwise (· < ·) := List.Pairwise.filter _ List.pairwise_lt_range
  match hl : leftOf ops.size L, h with
  | i :: r, _ =>
    rw [hl] at hsrt
    have hmem : i ∈ leftOf ops.size L := by rw [hl]; simp
    obtain ⟨hi, hun⟩ := leftOf_mem.1 hmem
    have hoi := Array.getElem?_eq_getElem hi
    have : i ∈ Region.ready md ops L := mem_ready.2 ⟨hun, ops[i], hoi, fun e he hb => by
      unfold backB at hB
      rw [List.all_eq_true] at hB
      have h1 := hB i (List.mem_range.2 hi)
      rw [hoi] at h1
      have h2 := Array.all_eq_true'.1 h1 e he
      rw [hb] at h2
      have h3 : e.on < i := by simpa using h2
      by_cases hx : L.getD e.on true = false
      · have h4 : e.on ∈ leftOf ops.size L := leftOf_mem.2 ⟨by omega, hx⟩
        rw [hl] at h4
        rcases List.mem_cons.1 h4 with h4 | h4
        · omega
        · have := (List.pairwise_cons.1 hsrt).1 _ h4; omega
      · have : e.on < L.size := by rw [hsz]; omega
        simp [this] at hx ⊢; exact hx⟩
    rw [hr] at this; cases this
def holdOk (ops : Array Oper) : Bool := Region.noSelect ops && meetB .any ops && backB .any ops
/-- THE BEGINNING. -/
theorem wp_region_holdI {id : Nat} {l : List Oper} {a : Act} {w : World} (S : Array Bool → World → Prop) (hm : P.follows .mixedOrders = true) (hB : holdOk l.toArray = true)
    (hS : S (Array.replicate l.length false) w.drew) (h : HoldL P .any l.toArray S (fun a => ∀ L w, (∀ i, i < l.length → L.getD i false = true) → S L w → Q .normal a w) (List.range l.length) a) :
    (Code.region id l.toArray true).wp P Q a w := by
  unfold holdOk at hB
  simp only [Bool.and_eq_true] at hB
  obtain ⟨⟨h1, h2⟩, h3⟩ := hB
  refine wp_region_any hm ?_
  have hl0 : leftOf l.toArray.size (Array.replicate l.toArray.size false) = List.range l.length := by
    unfold leftOf
    rw [List.filter_eq_self.2]
    · simp
    · intro x hx
      have : x < l.toArray.size := List.mem_range.1 hx
      simp at this
      simp [this]
  refine wpAny_of_holdL (md := .any) (ops := l.toArray) (S := S) h1 h2 (T := fun a => ∀ L w, (∀ i, i < l.length → L.getD i false = true) → S L w → Q .normal a w) (fun a L w hsz hl hT hs => ?_) (fun L hsz hne => ready_some h3 L hsz hne) _ _ _ _ (by simp) (by rw [hl0]; simp) (by simpa using hS) (by rw [hl0]; exact h)
  refine hT L w (fun i hi => ?_) hs
  by_cases hx : L.getD i true = false
  · have : i ∈ leftOf l.toArray.size L := leftOf_mem.2 ⟨by simpa using hi, hx⟩
    rw [hl] at this; cases this
  · have h' : i < L.size := by rw [hsz]; simpa using hi
    simp [h'] at hx ⊢; exact hx
end
/-! ### The condition by the marks of the operations that turn memory -/
section
variable {P : Program} {ops : Array Oper} {Q : Exit → Act → World → Prop} {ps : List Nat} {C : List Bool → World → Prop}
def marks (ps : List Nat) (L : Array Bool) : List Bool := ps.map fun p => L.getD p false
theorem marks_far {i : Nat} {L : Array Bool} (h : ps.contains i = false) : marks ps (L.setIfInBounds i true) = marks ps L := by
  unfold marks
  refine List.map_congr_left fun p hp => ?_
  refine getD_set_ne false fun e => ?_
  subst e
  simp at h; exact h hp
theorem marks_at {i k : Nat} {L : Array Bool} (hk : ps[k]? = some i) (hnd : ps.Nodup) (hi : i < L.size) : marks ps (L.setIfInBounds i true) = (marks ps L).set k true := by
  refine List.ext_getElem? fun j => ?_
  unfold marks
  rw [List.getElem?_set, List.getElem?_map, List.length_map]
  by_cases hj : k = j
  · subst hj
    have hkl : k < ps.length := by
      rcases Nat.lt_or_ge k ps.length with h | h
      · exact h
      · rw [List.getElem?_eq_none h] at hk; cases hk
    rw [if_pos rfl, if_pos hkl, hk]
    simp [hi]
  · rw [if_neg hj]
    rw [List.getElem?_map]
    cases hp : ps[j]? with
    | none => rfl
    | some p =>
      have : i ≠ p := fun e => by
        subst e
        have h1 := List.pairwise_iff_getElem.1 hnd
        obtain ⟨l1, e1⟩ := List.getElem?_eq_some_iff.1 hk
        obtain ⟨l2, e2⟩ := List.getElem?_eq_some_iff.1 hp
        rcases Nat.lt_or_gt_of_ne hj with h | h
        · exact h1 k j l1 l2 h (e1.trans e2.symm)
        · exact h1 j k l2 l1 h (e2.trans e1.symm)
      simp only [Option.map_some]
      rw [getD_set_ne false this]
/-- The operations from number k on, in the text's order. -/
def HoldC (P : Program) (ops : Array Oper) (ps : List Nat) (C : List Bool → World → Prop) (T : Act → Prop) : Nat → List Oper → Act → Prop
  | _, [], a => T a
  | k, o :: r, a => ∃ v, StepsI P .any ops (fun L w => L.size = ops.size ∧ C (marks ps L) w) k o v a ∧ HoldC P ops ps C T (k + 1) r (a.put o.dst v)
theorem HoldC.holdL {T T' : Act → Prop} (hT : ∀ a, T a → T' a) : ∀ (l : List Oper) (k : Nat) (a : Act), (∀ j, l[j]? = ops[k + j]?) → HoldC P ops ps C T k l a →
    HoldL P .any ops (fun L w => L.size = ops.size ∧ C (marks ps L) w) T' (List.range' k l.length) a
  | [], k, a, _, h => hT a h
  | o :: r, k, a, hl, h => by
    obtain ⟨v, hy, h⟩ := h
    exact ⟨o, v, by have := hl 0; simpa using this.symm, hy, HoldC.holdL hT r (k + 1) _ (fun j => by have := hl (j + 1); simp at this; rw [this]; congr 1; omega) h⟩
theorem wp_region_holdC {id : Nat} {l : List Oper} {a : Act} {w : World} (ps : List Nat) (C : List Bool → World → Prop) (hm : P.follows .mixedOrders = true) (hB : holdOk l.toArray = true)
    (hps : (ps.all fun p => decide (p < l.length)) = true) (hS : C (ps.map fun _ => false) w.drew) (h : HoldC P l.toArray ps C (fun a => ∀ w, C (ps.map fun _ => true) w → Q .normal a w) 0 l a) :
    (Code.region id l.toArray true).wp P Q a w := by
  have h' := HoldC.holdL (T' := fun a => ∀ L w, (∀ i, i < l.length → L.getD i false = true) → (L.size = l.toArray.size ∧ C (marks ps L) w) → Q .normal a w) (fun a hT L w hall hs => by
    have : marks ps L = ps.map fun _ => true := by
      unfold marks
      refine List.map_congr_left fun p hp => ?_
      have := List.all_eq_true.1 hps p hp
      exact hall p (by simpa using this)
    exact hT w (by rw [← this]; exact hs.2)) l 0 a (fun j => by simp) h
  rw [← List.range_eq_range'] at h'
  refine wp_region_holdI (fun L w => L.size = l.toArray.size ∧ C (marks ps L) w) hm hB ⟨by simp, ?_⟩ h'
  have : marks ps (Array.replicate l.length false) = ps.map fun _ => false := by
    unfold marks
    refine List.map_congr_left fun p _ => ?_
    rw [Array.getD_eq_getD_getElem?, Array.getElem?_replicate]
    split <;> rfl
  rw [this]; exact hS
theorem holdC_nil {T : Act → Prop} {k : Nat} {a : Act} (h : T a) : HoldC P ops ps C T k [] a := h
theorem ready_size {i : Nat} {L : Array Bool} (h : i ∈ Region.ready .any ops L) : i < L.size := by
  obtain ⟨hun, _⟩ := mem_ready.1 h
  rcases Nat.lt_or_ge i L.size with h' | h'
  · exact h'
  · simp [Array.getElem?_eq_none h'] at hun
theorem ready_off {i : Nat} {L : Array Bool} (h : i ∈ Region.ready .any ops L) : L.getD i false = false := by
  have hs := ready_size h
  obtain ⟨hun, _⟩ := mem_ready.1 h
  simp [hs] at hun ⊢; exact hun
theorem ready_on {i j : Nat} {o : Oper} {L : Array Bool} (hi : ops[i]? = some o) (h : i ∈ Region.ready .any ops L) (hw : o.after.any (fun e => Region.binds .any e && e.on == j) = true) : L.getD j false = true := by
  obtain ⟨_, o', ho', hall⟩ := mem_ready.1 h
  obtain rfl : o' = o := Option.some.inj (ho'.symm.trans hi)
  obtain ⟨e, he, hb⟩ := Array.any_eq_true'.1 hw
  simp only [Bool.and_eq_true, beq_iff_eq] at hb
  have := hall e he hb.1
  rw [hb.2] at this
  exact this
theorem holdC_val {T : Act → Prop} {i : Nat} {o : Oper} {r : List Oper} {a : Act} {v : Value} (hp : ps.contains i = false) (hw : Region.wanted o (yielded ops a.tmps) = true)
    (hv : ∀ m w, C m w → (execOp a.eval o).run P w = .ok (.value v) w) (h : HoldC P ops ps C T (i + 1) r (a.put o.dst v)) : HoldC P ops ps C T i (o :: r) a :=
  ⟨v, .inl ⟨hw, fun L w hr hS => .inl ⟨w, hv _ w hS.2, by simpa using hS.1, by rw [marks_far hp]; exact hS.2⟩⟩, h⟩
theorem holdC_skip {T : Act → Prop} {i : Nat} {o : Oper} {r : List Oper} {a : Act} (hp : ps.contains i = false) (hw : Region.wanted o (yielded ops a.tmps) = false)
    (h : HoldC P ops ps C T (i + 1) r (a.put o.dst undef)) : HoldC P ops ps C T i (o :: r) a :=
  ⟨undef, .inr ⟨hw, rfl, fun L w hr hS => ⟨by simpa using hS.1, by rw [marks_far hp]; exact hS.2⟩⟩, h⟩
theorem holdC_call {T : Act → Prop} {i : Nat} {o : Oper} {r : List Oper} {a : Act} {v : Value} {f : FuncId} {args : Array Value} (hp : ps.contains i = false) (hw : Region.wanted o (yielded ops a.tmps) = true)
    (hv : ∀ m w, C m w → (execOp a.eval o).run P w = .ok (.enter f args) w) (hc : ∀ m w, C m w → Calls P f args w fun e w' => e = .returned v ∧ C m w') (h : HoldC P ops ps C T (i + 1) r (a.put o.dst v)) : HoldC P ops ps C T i (o :: r) a :=
  ⟨v, .inl ⟨hw, fun L w hr hS => .inr (.inr ⟨f, args, w, hv _ w hS.2, (hc _ w hS.2).mono fun e w' ⟨he, hC⟩ => ⟨he, by simpa using hS.1, by rw [marks_far hp]; exact hC⟩⟩)⟩, h⟩
/-- A call that turns memory: the k-th of the marked ones; those of 'pre' have come up ahead of it. -/
theorem holdC_write {T : Act → Prop} {i : Nat} {o : Oper} {r : List Oper} {a : Act} {v : Value} {f : FuncId} {args : Array Value} (k : Nat) (pre : List Nat) (hi : ops[i]? = some o) (hk : ps[k]? = some i) (hnd : ps.Nodup) (hw : Region.wanted o (yielded ops a.tmps) = true)
    (hpre : (pre.all fun q => match ps[q]? with | some j => o.after.any (fun e => Region.binds .any e && e.on == j) | none => false) = true)
    (hv : ∀ m w, C m w → (execOp a.eval o).run P w = .ok (.enter f args) w)
    (hc : ∀ m w, m[k]? = some false → (∀ q ∈ pre, m[q]? = some true) → C m w → Calls P f args w fun e w' => e = .returned v ∧ C (m.set k true) w') (h : HoldC P ops ps C T (i + 1) r (a.put o.dst v)) : HoldC P ops ps C T i (o :: r) a :=
  ⟨v, .inl ⟨hw, fun L w hr hS => .inr (.inr ⟨f, args, w, hv _ w hS.2, (hc _ w (by
      unfold marks; rw [List.getElem?_map, hk]; simp only [Option.map_some]; rw [ready_off hr]) (fun q hq => by
      have h1 := List.all_eq_true.1 hpre q hq
      unfold marks
      rw [List.getElem?_map]
      cases hj : ps[q]? with
      | none => rw [hj] at h1; cases h1
      | some j =>
        rw [hj] at h1
        simp only [Option.map_some]
        rw [ready_on hi hr h1]) hS.2).mono fun e w' ⟨he, hC⟩ => ⟨he, by simpa using hS.1, by rw [marks_at hk hnd (ready_size hr)]; exact hC⟩⟩)⟩, h⟩
/-- One that is not wanted. -/
theorem holdC_off {T : Act → Prop} {i : Nat} {o : Oper} {r : List Oper} {a : Act} (k : Nat) (hk : ps[k]? = some i) (hnd : ps.Nodup) (hw : Region.wanted o (yielded ops a.tmps) = false)
    (hs : ∀ m w, m[k]? = some false → C m w → C (m.set k true) w) (h : HoldC P ops ps C T (i + 1) r (a.put o.dst undef)) : HoldC P ops ps C T i (o :: r) a :=
  ⟨undef, .inr ⟨hw, rfl, fun L w hr hS => ⟨by simpa using hS.1, by rw [marks_at hk hnd (ready_size hr)]; exact hs _ w (by unfold marks; rw [List.getElem?_map, hk]; simp only [Option.map_some]; rw [ready_off hr]) hS.2⟩⟩, h⟩
end
theorem set32 {α : Type} (a0 a1 a2 a3 a4 a5 a6 a7 a8 a9 a10 a11 a12 a13 a14 a15 a16 a17 a18 a19 a20 a21 a22 a23 a24 a25 a26 a27 a28 a29 a30 a31 : α) (l : List α) (n : Nat) (v : α) : (a0 :: a1 :: a2 :: a3 :: a4 :: a5 :: a6 :: a7 :: a8 :: a9 :: a10 :: a11 :: a12 :: a13 :: a14 :: a15 :: a16 :: a17 :: a18 :: a19 :: a20 :: a21 :: a22 :: a23 :: a24 :: a25 :: a26 :: a27 :: a28 :: a29 :: a30 :: a31 :: l).set (n + 32) v = a0 :: a1 :: a2 :: a3 :: a4 :: a5 :: a6 :: a7 :: a8 :: a9 :: a10 :: a11 :: a12 :: a13 :: a14 :: a15 :: a16 :: a17 :: a18 :: a19 :: a20 :: a21 :: a22 :: a23 :: a24 :: a25 :: a26 :: a27 :: a28 :: a29 :: a30 :: a31 :: l.set n v := rfl
/-- The frame behind a name. -/
theorem hold_env {P : Program} {ops : Array Oper} {ps : List Nat} {C : List Bool → World → Prop} {T : Act → Prop} {i : Nat} {l : List Oper} {a : Act} (h : ∀ A, A = a → HoldC P ops ps C T i l A) : HoldC P ops ps C T i l a := h a rfl
/-! ### Where nothing is turned -/
section
variable {P : Program} {ops : Array Oper} {Q : Exit → Act → World → Prop} {S : World → Prop} {T : Act → Prop}
abbrev wpHold (P : Program) (ops : Array Oper) (S : World → Prop) (T : Act → Prop) : Nat → List Oper → Act → Prop := HoldC P ops [] (fun _ w => S w) T
theorem wp_region_hold {id : Nat} {l : List Oper} {a : Act} {w : World} (S : World → Prop) (hm : P.follows .mixedOrders = true) (hB : holdOk l.toArray = true)
    (hS : S w.drew) (h : wpHold P l.toArray S (fun a => ∀ w, S w → Q .normal a w) 0 l a) : (Code.region id l.toArray true).wp P Q a w :=
  wp_region_holdC [] (fun _ w => S w) hm hB rfl hS h
theorem hold_nil {k : Nat} {a : Act} (h : T a) : wpHold P ops S T k [] a := h
/-- What only reads. -/
theorem hold_val {i : Nat} {o : Oper} {r : List Oper} {a : Act} {v : Value} (hw : Region.wanted o (yielded ops a.tmps) = true) (hv : ∀ w, S w → (execOp a.eval o).run P w = .ok (.value v) w) (h : wpHold P ops S T (i + 1) r (a.put o.dst v)) : wpHold P ops S T i (o :: r) a :=
  holdC_val rfl hw (fun _ w => hv w) h
/-- What is not wanted. -/
theorem hold_skip {i : Nat} {o : Oper} {r : List Oper} {a : Act} (hw : Region.wanted o (yielded ops a.tmps) = false) (h : wpHold P ops S T (i + 1) r (a.put o.dst undef)) : wpHold P ops S T i (o :: r) a :=
  holdC_skip rfl hw h
/-- A call. -/
theorem hold_call {i : Nat} {o : Oper} {r : List Oper} {a : Act} {v : Value} {f : FuncId} {args : Array Value} (hw : Region.wanted o (yielded ops a.tmps) = true) (hv : ∀ w, S w → (execOp a.eval o).run P w = .ok (.enter f args) w)
    (hc : ∀ w, S w → Calls P f args w fun e w' => e = .returned v ∧ S w') (h : wpHold P ops S T (i + 1) r (a.put o.dst v)) : wpHold P ops S T i (o :: r) a :=
  holdC_call rfl hw (fun _ w => hv w) (fun _ w => hc w) h
/-- A call that makes memory. -/
theorem made_call {B : Nat} {a w : World} (hS : Below B a w) {f : FuncId} {args : Array Value} {v : Value} (hB : B ≤ a.heap.size) (h : Calls P f args w fun e w' => e = .returned v ∧ Below w.heap.size w w') : Calls P f args w fun e w' => e = .returned v ∧ Below B a w' :=
  h.mono fun e w' ⟨he, hb⟩ => ⟨he, hS.trans (hb.mono (Nat.le_trans hB hS.size))⟩
end
end Go.Proofs.Ytalpocgajecjbaa
