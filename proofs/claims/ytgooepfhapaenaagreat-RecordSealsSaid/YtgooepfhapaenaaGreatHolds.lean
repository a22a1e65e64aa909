/- Regions that draw their order, taken in the text's order. Conditions: as stated. -/
import Derived.WalkKit
import Derived.ProofKit
import Derived.OrdersHeld
import Derived.Lib.Hide
import Derived.Sort.Grow
import Derived.Deep.Draws
import Derived.Test.YtgooepfhapaenaaGreatKit
import Derived.Laws.Tables
import Derived.StillTail
/- A region that draws its order, taken in the text's order: each operation yields one value in every world that meets a condition, and leaves a world that meets it: calls that make memory, or turn it, among them (then the condition hangs on which of those have come up). Conditions: as stated. -/
namespace Go.Proofs.YtgooepfhapaenaaGreat
open Go.RowKit
set_option linter.unusedVariables false

section
variable {P : Program} {ops : Array Oper} {Q : Exit → Act → World → Prop} {md : Region.Mode} {S : Array Bool → World → Prop}
/-- In state a, whatever has come up (so that number i may come up now), in every world that meets S there: operation o leaves v in its temporary, and a world that meets S with i come up. -/
def StepsI (P : Program) (md : Region.Mode) (ops : Array Oper) (S : Array Bool → World → Prop) (i : Nat) (o : Oper) (v : Value) (a : Act) : Prop :=
  (Region.wanted o (yielded ops a.tmps) = true ∧ ∀ L w, i ∈ Region.ready md ops L → S L w →
    ((∃ w', (execOp a.eval o).run P w = .ok (.value v) w' ∧ S (L.setIfInBounds i true) w') ∨
     (∃ w', (execOp a.eval o).run P w = .ok .skip w' ∧ v = undef ∧ S (L.setIfInBounds i true) w') ∨
     (∃ f args w', (execOp a.eval o).run P w = .ok (.enter f args) w' ∧ Calls P f args w' fun e w'' => e = .returned v ∧ S (L.setIfInBounds i true) w''))) ∨
  (Region.wanted o (yielded ops a.tmps) = false ∧ v = undef ∧ ∀ L w, i ∈ Region.ready md ops L → S L w → S (L.setIfInBounds i true) w)
theorem StepsI.wpOp {i : Nat} {o : Oper} {v : Value} {a : Act} (hi : ops[i]? = some o) (hy : StepsI P md ops S i o v a)
    {K : Act → World → Prop} {L : Array Bool} {w : World} (hr : i ∈ Region.ready md ops L) (hS : S L w) (h : ∀ w', S (L.setIfInBounds i true) w' → K (a.put o.dst v) w') : wpOp P ops Q i K a w := by
  unfold Go.wpOp
  simp only [hi]
  rcases hy with ⟨hw, hv⟩ | ⟨hw, rfl, hs⟩
  · simp only [hw, if_true, Oper.wp]
    refine .inl ?_
    rcases hv L w hr hS with ⟨w', hr, hs⟩ | ⟨w', hr, rfl, hs⟩ | ⟨f, args, w', hr, hc⟩
    · simp only [hr, Oper.upon]; exact h w' hs
    · simp only [hr, Oper.upon]; exact h w' hs
    · simp only [hr, Oper.upon]
      exact hc.mono fun e w'' ⟨he, hs⟩ => by subst he; exact h w'' hs
  · simp only [hw, Bool.false_eq_true, if_false]; exact h w (hs L w hr hS)
theorem StepsI.of_same {i : Nat} {o : Oper} {v : Value} {a a' : Act} (hy : StepsI P md ops S i o v a) (he : execOp a'.eval o = execOp a.eval o)
    (hw : Region.wanted o (yielded ops a'.tmps) = Region.wanted o (yielded ops a.tmps)) : StepsI P md ops S i o v a' := by
  unfold StepsI at *
  rw [he, hw]
  exact hy
/-- The operations that are left, in the text's order. -/
def HoldL (P : Program) (md : Region.Mode) (ops : Array Oper) (S : Array Bool → World → Prop) (T : Act → Prop) : List Nat → Act → Prop
  | [], a => T a
  | i :: r, a => ∃ o v, ops[i]? = some o ∧ StepsI P md ops S i o v a ∧ HoldL P md ops S T r (a.put o.dst v)
theorem HoldL.pick {T : Act → Prop} (hsel : Region.noSelect ops = true) {j : Nat} {oj : Oper} (hj : ops[j]? = some oj) {l2 : List Nat} :
    ∀ (l1 : List Nat) (a : Act), (∀ i ∈ l1, ∀ oi, ops[i]? = some oi → oi.apart ops oj = true) → HoldL P md ops S T (l1 ++ j :: l2) a →
      ∃ v, StepsI P md ops S j oj v a ∧ HoldL P md ops S T (l1 ++ l2) (a.put oj.dst v)
  | [], a, _, h => by
    obtain ⟨o, v, ho, hy, h⟩ := h
    obtain rfl : o = oj := Option.some.inj (ho.symm.trans hj)
    exact ⟨v, hy, h⟩
  | i :: l1, a, hap, h => by
    obtain ⟨o, u, ho, hy, h⟩ := h
    obtain ⟨v, hyj, h2⟩ := HoldL.pick hsel hj l1 (a.put o.dst u) (fun k hk => hap k (by simp [hk])) h
    obtain ⟨h1, h2', h3⟩ := Oper.apart_spec (hap i (by simp) o ho)
    have hso := Region.noSelect_spec hsel i o
    have hsj := Region.noSelect_spec hsel j oj
    refine ⟨v, hyj.of_same (execOp_put oj (fun cs b => hsj cs b hj) a o.dst u h1).symm (wanted_put oj a o.dst u h1).symm, o, u, ho, hy.of_same (execOp_put o (fun cs b => hso cs b ho) a oj.dst v h3) (wanted_put o a oj.dst v h3), ?_⟩
    rw [Act.put_comm a v u (fun d hd hd2 => h2' d hd2 hd)]
    exact h2
/-- Those that have not come up, in the text's order. -/
def leftOf (n : Nat) (L : Array Bool) : List Nat := (List.range n).filter fun i => !L.getD i true
theorem leftOf_mem {n i : Nat} {L : Array Bool} : i ∈ leftOf n L ↔ i < n ∧ L.getD i true = false := by simp [leftOf]
/-- Each of two operations, the earlier first: the later one waits for it, or they are apart. -/
def meetB (md : Region.Mode) (ops : Array Oper) : Bool :=
  (List.range ops.size).all fun j => (List.range j).all fun i => match ops[i]?, ops[j]? with
    | some oi, some oj => oj.after.any (fun e => Region.binds md e && e.on == i) || oi.apart ops oj
    | _, _ => true
theorem meetB_spec (h : meetB md ops = true) {i j : Nat} {oi oj : Oper} (hij : i < j) (hi : ops[i]? = some oi) (hj : ops[j]? = some oj)
    (hn : ∀ e ∈ oj.after, Region.binds md e = true → e.on ≠ i) : oi.apart ops oj = true := by
  unfold meetB at h
  rw [List.all_eq_true] at h
  have hjs : j < ops.size := (Array.getElem?_eq_some_iff.1 hj).1
  have h1 := h j (List.mem_range.2 hjs)
  rw [List.all_eq_true] at h1
  have h2 := h1 i (List.mem_range.2 hij)
  rw [hi, hj] at h2
  simp only [Bool.or_eq_true] at h2
  rcases h2 with h2 | h2
  · obtain ⟨e, he, hb⟩ := Array.any_eq_true'.1 h2
    simp only [Bool.and_eq_true, beq_iff_eq] at hb
    exact absurd hb.2 (hn e he hb.1)
  · exact h2
theorem wpAny_of_holdL (hsel : Region.noSelect ops = true) (hB : meetB md ops = true) {T : Act → Prop} (hend : ∀ a L w, L.size = ops.size → leftOf ops.size L = [] → T a → S L w → Q .normal a w)
    (hrdy : ∀ L, L.size = ops.size → leftOf ops.size L ≠ [] → Region.ready md ops L ≠ []) :
    ∀ (fuel : Nat) (L : Array Bool) (a : Act) (w : World), L.size = ops.size → (leftOf ops.size L).length = fuel → S L w → HoldL P md ops S T (leftOf ops.size L) a → wpAny P md ops Q fuel L a w := by
  intro fuel
  induction fuel with
  | zero =>
    intro L a w hsz hl hS h
    have h0 : leftOf ops.size L = [] := List.eq_nil_of_length_eq_zero hl
    rw [h0] at h
    have hr : Region.ready md ops L = [] := by
      rw [List.eq_nil_iff_forall_not_mem]
      intro i hi
      obtain ⟨hun, oi, hoi, _⟩ := mem_ready.1 hi
      have : i ∈ leftOf ops.size L := leftOf_mem.2 ⟨(Array.getElem?_eq_some_iff.1 hoi).1, hun⟩
      rw [h0] at this; cases this
    exact ⟨hr, hend a L w hsz h0 h hS⟩
  | succ fuel ih =>
    intro L a w hsz hl hS h
    refine ⟨fun h0 => absurd h0 (hrdy L hsz (fun e => by rw [e] at hl; cases hl)), fun j hj => ?_⟩
    obtain ⟨hun, oj, hoj, hall⟩ := mem_ready.1 hj
    have hjs : j < ops.size := (Array.getElem?_eq_some_iff.1 hoj).1
    have hmem : j ∈ leftOf ops.size L := leftOf_mem.2 ⟨hjs, hun⟩
    obtain ⟨l1, l2, hsp⟩ := List.append_of_mem hmem
    have hsrt : (leftOf ops.size L).Pairwise (· < ·) := List.Pairwise.filter _ List.pairwise_lt_range
    rw [hsp] at h hsrt
    have hlt : ∀ i ∈ l1, i < j := fun i hi => (List.pairwise_append.1 hsrt).2.2 i hi j (by simp)
    have hj1 : j ∉ l1 := fun e => Nat.lt_irrefl _ (hlt j e)
    have hj2 : j ∉ l2 := fun e => by
      have := (List.pairwise_append.1 hsrt).2.1
      exact Nat.lt_irrefl _ ((List.pairwise_cons.1 this).1 j e)
    have hap : ∀ i ∈ l1, ∀ oi, ops[i]? = some oi → oi.apart ops oj = true := fun i hi oi hoi => by
      refine meetB_spec hB (hlt i hi) hoi hoj fun e he hb heq => ?_
      have h1 := hall e he hb
      have h2 : i ∈ leftOf ops.size L := by rw [hsp]; simp [hi]
      have h3 := (leftOf_mem.1 h2).2
      rw [heq] at h1
      have hil : i < L.size := by rw [hsz]; exact (Array.getElem?_eq_some_iff.1 hoi).1
      simp [hil] at h1 h3
      rw [h3] at h1; cases h1
    obtain ⟨v, hy, h2⟩ := HoldL.pick hsel hoj l1 a hap h
    refine hy.wpOp hoj hj hS fun w' hs => ?_
    have hleft : leftOf ops.size (L.setIfInBounds j true) = l1 ++ l2 := by
      have e1 : leftOf ops.size (L.setIfInBounds j true) = (leftOf ops.size L).filter (· ≠ j) := by
        unfold leftOf
        rw [List.filter_filter]
        refine List.filter_congr fun i hi => ?_
        by_cases hij : i = j
        · subst hij
          have : i < L.size := by rw [hsz]; exact hjs
          simp [this]
        · rw [getD_set_ne true (fun e => hij e.symm)]; simp [hij]
      rw [e1, hsp, List.filter_append, List.filter_cons]
      simp only [ne_eq, not_true_eq_false, decide_false]
      have f1 : l1.filter (fun x => decide (¬ x = j)) = l1 := List.filter_eq_self.2 fun x hx => by simp; rintro rfl; exact hj1 hx
      have f2 : l2.filter (fun x => decide (¬ x = j)) = l2 := List.filter_eq_self.2 fun x hx => by simp; rintro rfl; exact hj2 hx
      rw [f1]
      simp only [Bool.false_eq_true, if_false]
      rw [f2]
    refine ih (L.setIfInBounds j true) (a.put oj.dst v) w' (by simpa using hsz) ?_ hs (by rw [hleft]; exact h2)
    rw [hleft]
    rw [hsp] at hl
    simp at hl ⊢; omega
/-- Nobody waits for a later one. -/
def backB (md : Region.Mode) (ops : Array Oper) : Bool :=
  (List.range ops.size).all fun i => match ops[i]? with
    | some o => o.after.all fun e => !Region.binds md e || decide (e.on < i)
    | none => true
theorem ready_some (hB : backB md ops = true) (L : Array Bool) (hsz : L.size = ops.size) (h : leftOf ops.size L ≠ []) : Region.ready md ops L ≠ [] := by
  intro hr
  have hsrt : (leftOf ops.size L).Pairwise (· < ·) := List.Pairwise.filter _ List.pairwise_lt_range
  match hl : leftOf ops.size L, h with
  | i :: r, _ =>
    rw [hl] at hsrt
    have hmem : i ∈ leftOf ops.size L := by rw [hl]; simp
    obtain ⟨hi, hun⟩ := leftOf_mem.1 hmem
    have hoi := Array.getElem?_eq_getElem hi
    have : i ∈ Region.ready md ops L := mem_ready.2 ⟨hun, ops[i], hoi, fun e he hb => by
      unfold backB at hB
      rw [List.all_eq_true] at hB
      have h1 := hB i (List.mem_range.2 hi)
      rw [hoi] at h1
      have h2 := Array.all_eq_true'.1 h1 e he
      rw [hb] at h2
      have h3 : e.on < i := by simpa using h2
      by_cases hx : L.getD e.on true = false
      · have h4 : e.on ∈ leftOf ops.size L := leftOf_mem.2 ⟨by omega, hx⟩
        rw [hl] at h4
        rcases List.mem_cons.1 h4 with h4 | h4
        · omega
        · have := (List.pairwise_cons.1 hsrt).1 _ h4; omega
      · have : e.on < L.size := by rw [hsz]; omega
        simp [this] at hx ⊢; exact hx⟩
    rw [hr] at this; cases this
def holdOk (ops : Array Oper) : Bool := Region.noSelect ops && meetB .any ops && backB .any ops
/-- THE BEGINNING. -/
theorem wp_region_holdI {id : Nat} {l : List Oper} {a : Act} {w : World} (S : Array Bool → World → Prop) (hm : P.follows .mixedOrders = true) (hB : holdOk l.toArray = true)
    (hS : S (Array.replicate l.length false) w.drew) (h : HoldL P .any l.toArray S (fun a => ∀ L w, (∀ i, i < l.length → L.getD i false = true) → S L w → Q .normal a w) (List.range l.length) a) :
    (Code.region id l.toArray true).wp P Q a w := by
  unfold holdOk at hB
  simp only [Bool.and_eq_true] at hB
  obtain ⟨⟨h1, h2⟩, h3⟩ := hB
  refine wp_region_any hm ?_
  have hl0 : leftOf l.toArray.size (Array.replicate l.toArray.size false) = List.range l.length := by
    unfold leftOf
    rw [List.filter_eq_self.2]
    · simp
    · intro x hx
      have : x < l.toArray.size := List.mem_range.1 hx
      simp at this
      simp [this]
  refine wpAny_of_holdL (md := .any) (ops := l.toArray) (S := S) h1 h2 (T := fun a => ∀ L w, (∀ i, i < l.length → L.getD i false = true) → S L w → Q .normal a w) (fun a L w hsz hl hT hs => ?_) (fun L hsz hne => ready_some h3 L hsz hne) _ _ _ _ (by simp) (by rw [hl0]; simp) (by simpa using hS) (by rw [hl0]; exact h)
  refine hT L w (fun i hi => ?_) hs
  by_cases hx : L.getD i true = false
  · have : i ∈ leftOf l.toArray.size L := leftOf_mem.2 ⟨by simpa using hi, hx⟩
    rw [hl] at this; cases this
  · have h' : i < L.size := by rw [hsz]; simpa using hi
    simp [h'] at hx ⊢; exact hx
end
/-! ### The condition by the marks of the operations that turn memory -/
section
variable {P : Program} {ops : Array Oper} {Q : Exit → Act → World → Prop} {ps : List Nat} {C : List Bool → World → Prop}
def marks (ps : List Nat) (L : Array Bool) : List Bool := ps.map fun p => L.getD p false
theorem marks_far {i : Nat} {L : Array Bool} (h : ps.contains i = false) : marks ps (L.setIfInBounds i true) = marks ps L := by
  unfold marks
  refine List.map_congr_left fun p hp => ?_
  refine getD_set_ne false fun e => ?_
  subst e
  simp at h; exact h hp
theorem marks_at {i k : Nat} {L : Array Bool} (hk : ps[k]? = some i) (hnd : ps.Nodup) (hi : i < L.size) : marks ps (L.setIfInBounds i true) = (marks ps L).set k true := by
  refine List.ext_getElem? fun j => ?_
  unfold marks
  rw [List.getElem?_set, List.getElem?_map, List.length_map]
  by_cases hj : k = j
  · subst hj
    have hkl : k < ps.length := by
      rcases Nat.lt_or_ge k ps.length with h | h
      · exact h
      · rw [List.getElem?_eq_none h] at hk; cases hk
    rw [if_pos rfl, if_pos hkl, hk]
    simp [hi]
  · rw [if_neg hj]
    rw [List.getElem?_map]
    cases hp : ps[j]? with
    | none => rfl
    | some p =>
      have : i ≠ p := fun e => by
        subst e
        have h1 := List.pairwise_iff_getElem.1 hnd
        obtain ⟨l1, e1⟩ := List.getElem?_eq_some_iff.1 hk
        obtain ⟨l2, e2⟩ := List.getElem?_eq_some_iff.1 hp
        rcases Nat.lt_or_gt_of_ne hj with h | h
        · exact h1 k j l1 l2 h (e1.trans e2.symm)
        · exact h1 j k l2 l1 h (e2.trans e1.symm)
      simp only [Option.map_some]
      rw [getD_set_ne false this]
/-- The operations from number k on, in the text's order. -/
def HoldC (P : Program) (ops : Array Oper) (ps : List Nat) (C : List Bool → World → Prop) (T : Act → Prop) : Nat → List Oper → Act → Prop
  | _, [], a => T a
  | k, o :: r, a => ∃ v, StepsI P .any ops (fun L w => L.size = ops.size ∧ C (marks ps L) w) k o v a ∧ HoldC P ops ps C T (k + 1) r (a.put o.dst v)
theorem HoldC.holdL {T T' : Act → Prop} (hT : ∀ a, T a → T' a) : ∀ (l : List Oper) (k : Nat) (a : Act), (∀ j, l[j]? = ops[k + j]?) → HoldC P ops ps C T k l a →
    HoldL P .any ops (fun L w => L.size = ops.size ∧ C (marks ps L) w) T' (List.range' k l.length) a
  | [], k, a, _, h => hT a h
  | o :: r, k, a, hl, h => by
    obtain ⟨v, hy, h⟩ := h
    exact ⟨o, v, by have := hl 0; simpa using this.symm, hy, HoldC.holdL hT r (k + 1) _ (fun j => by have := hl (j + 1); simp at this; rw [this]; congr 1; omega) h⟩
theorem wp_region_holdC {id : Nat} {l : List Oper} {a : Act} {w : World} (ps : List Nat) (C : List Bool → World → Prop) (hm : P.follows .mixedOrders = true) (hB : holdOk l.toArray = true)
    (hps : (ps.all fun p => decide (p < l.length)) = true) (hS : C (ps.map fun _ => false) w.drew) (h : HoldC P l.toArray ps C (fun a => ∀ w, C (ps.map fun _ => true) w → Q .normal a w) 0 l a) :
    (Code.region id l.toArray true).wp P Q a w := by
  have h' := HoldC.holdL (T' := fun a => ∀ L w, (∀ i, i < l.length → L.getD i false = true) → (L.size = l.toArray.size ∧ C (marks ps L) w) → Q .normal a w) (fun a hT L w hall hs => by
    have : marks ps L = ps.map fun _ => true := by
      unfold marks
      refine List.map_congr_left fun p hp => ?_
      have := List.all_eq_true.1 hps p hp
      exact hall p (by simpa using this)
    exact hT w (by rw [← this]; exact hs.2)) l 0 a (fun j => by simp) h
  rw [← List.range_eq_range'] at h'
  refine wp_region_holdI (fun L w => L.size = l.toArray.size ∧ C (marks ps L) w) hm hB ⟨by simp, ?_⟩ h'
  have : marks ps (Array.replicate l.length false) = ps.map fun _ => false := by
    unfold marks
    refine List.map_congr_left fun p _ => ?_
    rw [Array.getD_eq_getD_getElem?, Array.getElem?_replicate]
    split <;> rfl
  rw [this]; exact hS
theorem holdC_nil {T : Act → Prop} {k : Nat} {a : Act} (h : T a) : HoldC P ops ps C T k [] a := h
theorem ready_size {i : Nat} {L : Array Bool} (h : i ∈ Region.ready .any ops L) : i < L.size := by
  obtain ⟨hun, _⟩ := mem_ready.1 h
  rcases Nat.lt_or_ge i L.size with h' | h'
  · exact h'
  · simp [Array.getElem?_eq_none h'] at hun
theorem ready_off {i : Nat} {L : Array Bool} (h : i ∈ Region.ready .any ops L) : L.getD i false = false := by
  have hs := ready_size h
  obtain ⟨hun, _⟩ := mem_ready.1 h
  simp [hs] at hun ⊢; exact hun
theorem ready_on {i j : Nat} {o : Oper} {L : Array Bool} (hi : ops[i]? = some o) (h : i ∈ Region.ready .any ops L) (hw : o.after.any (fun e => Region.binds .any e && e.on == j) = true) : L.getD j false = true := by
  obtain ⟨_, o', ho', hall⟩ := mem_ready.1 h
  obtain rfl : o' = o := Option.some.inj (ho'.symm.trans hi)
  obtain ⟨e, he, hb⟩ := Array.any_eq_true'.1 hw
  simp only [Bool.and_eq_true, beq_iff_eq] at hb
  have := hall e he hb.1
  rw [hb.2] at this
  exact this
theorem holdC_val {T : Act → Prop} {i : Nat} {o : Oper} {r : List Oper} {a : Act} {v : Value} (hp : ps.contains i = false) (hw : Region.wanted o (yielded ops a.tmps) = true)
    (hv : ∀ m w, C m w → (execOp a.eval o).run P w = .ok (.value v) w) (h : HoldC P ops ps C T (i + 1) r (a.put o.dst v)) : HoldC P ops ps C T i (o :: r) a :=
  ⟨v, .inl ⟨hw, fun L w hr hS => .inl ⟨w, hv _ w hS.2, by simpa using hS.1, by rw [marks_far hp]; exact hS.2⟩⟩, h⟩
theorem holdC_skip {T : Act → Prop} {i : Nat} {o : Oper} {r : List Oper} {a : Act} (hp : ps.contains i = false) (hw : Region.wanted o (yielded ops a.tmps) = false)
    (h : HoldC P ops ps C T (i + 1) r (a.put o.dst undef)) : HoldC P ops ps C T i (o :: r) a :=
  ⟨undef, .inr ⟨hw, rfl, fun L w hr hS => ⟨by simpa using hS.1, by rw [marks_far hp]; exact hS.2⟩⟩, h⟩
theorem holdC_call {T : Act → Prop} {i : Nat} {o : Oper} {r : List Oper} {a : Act} {v : Value} {f : FuncId} {args : Array Value} (hp : ps.contains i = false) (hw : Region.wanted o (yielded ops a.tmps) = true)
    (hv : ∀ m w, C m w → (execOp a.eval o).run P w = .ok (.enter f args) w) (hc : ∀ m w, C m w → Calls P f args w fun e w' => e = .returned v ∧ C m w') (h : HoldC P ops ps C T (i + 1) r (a.put o.dst v)) : HoldC P ops ps C T i (o :: r) a :=
  ⟨v, .inl ⟨hw, fun L w hr hS => .inr (.inr ⟨f, args, w, hv _ w hS.2, (hc _ w hS.2).mono fun e w' ⟨he, hC⟩ => ⟨he, by simpa using hS.1, by rw [marks_far hp]; exact hC⟩⟩)⟩, h⟩
/-- A call that turns memory: the k-th of the marked ones; those of 'pre' have come up ahead of it. -/
theorem holdC_write {T : Act → Prop} {i : Nat} {o : Oper} {r : List Oper} {a : Act} {v : Value} {f : FuncId} {args : Array Value} (k : Nat) (pre : List Nat) (hi : ops[i]? = some o) (hk : ps[k]? = some i) (hnd : ps.Nodup) (hw : Region.wanted o (yielded ops a.tmps) = true)
    (hpre : (pre.all fun q => match ps[q]? with | some j => o.after.any (fun e => Region.binds .any e && e.on == j) | none => false) = true)
    (hv : ∀ m w, C m w → (execOp a.eval o).run P w = .ok (.enter f args) w)
    (hc : ∀ m w, m[k]? = some false → (∀ q ∈ pre, m[q]? = some true) → C m w → Calls P f args w fun e w' => e = .returned v ∧ C (m.set k true) w') (h : HoldC P ops ps C T (i + 1) r (a.put o.dst v)) : HoldC P ops ps C T i (o :: r) a :=
  ⟨v, .inl ⟨hw, fun L w hr hS => .inr (.inr ⟨f, args, w, hv _ w hS.2, (hc _ w (by
      unfold marks; rw [List.getElem?_map, hk]; simp only [Option.map_some]; rw [ready_off hr]) (fun q hq => by
      have h1 := List.all_eq_true.1 hpre q hq
      unfold marks
      rw [List.getElem?_map]
      cases hj : ps[q]? with
      | none => rw [hj] at h1; cases h1
      | some j =>
        rw [hj] at h1
        simp only [Option.map_some]
        rw [ready_on hi hr h1]) hS.2).mono fun e w' ⟨he, hC⟩ => ⟨he, by simpa using hS.1, by rw [marks_at hk hnd (ready_size hr)]; exact hC⟩⟩)⟩, h⟩
/-- One that is not wanted. -/
theorem holdC_off {T : Act → Prop} {i : Nat} {o : Oper} {r : List Oper} {a : Act} (k : Nat) (hk : ps[k]? = some i) (hnd : ps.Nodup) (hw : Region.wanted o (yielded ops a.tmps) = false)
    (hs : ∀ m w, m[k]? = some false → C m w → C (m.set k true) w) (h : HoldC P ops ps C T (i + 1) r (a.put o.dst undef)) : HoldC P ops ps C T i (o :: r) a :=
  ⟨undef, .inr ⟨hw, rfl, fun L w hr hS => ⟨by simpa using hS.1, by rw [marks_at hk hnd (ready_size hr)]; exact hs _ w (by unfold marks; rw [List.getElem?_map, hk]; simp only [Option.map_some]; rw [ready_off hr]) hS.2⟩⟩, h⟩
end
theorem set32 {α : Type} (a0 a1 a2 a3 a4 a5 a6 a7 a8 a9 a10 a11 a12 a13 a14 a15 a16 a17 a18 a19 a20 a21 a22 a23 a24 a25 a26 a27 a28 a29 a30 a31 : α) (l : List α) (n : Nat) (v : α) : (a0 :: a1 :: a2 :: a3 :: a4 :: a5 :: a6 :: a7 :: a8 :: a9 :: a10 :: a11 :: a12 :: a13 :: a14 :: a15 :: a16 :: a17 :: a18 :: a19 :: a20 :: a21 :: a22 :: a23 :: a24 :: a25 :: a26 :: a27 :: a28 :: a29 :: a30 :: a31 :: l).set (n + 32) v = a0 :: a1 :: a2 :: a3 :: a4 :: a5 :: a6 :: a7 :: a8 :: a9 :: a10 :: a11 :: a12 :: a13 :: a14 :: a15 :: a16 :: a17 :: a18 :: a19 :: a20 :: a21 :: a22 :: a23 :: a24 :: a25 :: a26 :: a27 :: a28 :: a29 :: a30 :: a31 :: l.set n v := rfl
/-- The frame behind a name. -/
theorem hold_env {P : Program} {ops : Array Oper} {ps : List Nat} {C : List Bool → World → Prop} {T : Act → Prop} {i : Nat} {l : List Oper} {a : Act} (h : ∀ A, A = a → HoldC P ops ps C T i l A) : HoldC P ops ps C T i l a := h a rfl
/-! ### Where nothing is turned -/
section
variable {P : Program} {ops : Array Oper} {Q : Exit → Act → World → Prop} {S : World → Prop} {T : Act → Prop}
abbrev wpHold (P : Program) (ops : Array Oper) (S : World → Prop) (T : Act → Prop) : Nat → List Oper → Act → Prop := HoldC P ops [] (fun _ w => S w) T
theorem wp_region_hold {id : Nat} {l : List Oper} {a : Act} {w : World} (S : World → Prop) (hm : P.follows .mixedOrders = true) (hB : holdOk l.toArray = true)
    (hS : S w.drew) (h : wpHold P l.toArray S (fun a => ∀ w, S w → Q .normal a w) 0 l a) : (Code.region id l.toArray true).wp P Q a w :=
  wp_region_holdC [] (fun _ w => S w) hm hB rfl hS h
theorem hold_nil {k : Nat} {a : Act} (h : T a) : wpHold P ops S T k [] a := h
/-- What only reads. -/
theorem hold_val {i : Nat} {o : Oper} {r : List Oper} {a : Act} {v : Value} (hw : Region.wanted o (yielded ops a.tmps) = true) (hv : ∀ w, S w → (execOp a.eval o).run P w = .ok (.value v) w) (h : wpHold P ops S T (i + 1) r (a.put o.dst v)) : wpHold P ops S T i (o :: r) a :=
  holdC_val rfl hw (fun _ w => hv w) h
/-- What is not wanted. -/
theorem hold_skip {i : Nat} {o : Oper} {r : List Oper} {a : Act} (hw : Region.wanted o (yielded ops a.tmps) = false) (h : wpHold P ops S T (i + 1) r (a.put o.dst undef)) : wpHold P ops S T i (o :: r) a :=
  holdC_skip rfl hw h
/-- A call. -/
theorem hold_call {i : Nat} {o : Oper} {r : List Oper} {a : Act} {v : Value} {f : FuncId} {args : Array Value} (hw : Region.wanted o (yielded ops a.tmps) = true) (hv : ∀ w, S w → (execOp a.eval o).run P w = .ok (.enter f args) w)
    (hc : ∀ w, S w → Calls P f args w fun e w' => e = .returned v ∧ S w') (h : wpHold P ops S T (i + 1) r (a.put o.dst v)) : wpHold P ops S T i (o :: r) a :=
  holdC_call rfl hw (fun _ w => hv w) (fun _ w => hc w) h
/-- A call that makes memory. -/
theorem made_call {B : Nat} {a w : World} (hS : Below B a w) {f : FuncId} {args : Array Value} {v : Value} (hB : B ≤ a.heap.size) (h : Calls P f args w fun e w' => e = .returned v ∧ Below w.heap.size w w') : Calls P f args w fun e w' => e = .returned v ∧ Below B a w' :=
  h.mono fun e w' ⟨he, hb⟩ => ⟨he, hS.trans (hb.mono (Nat.le_trans hB hS.size))⟩
end
end Go.Proofs.YtgooepfhapaenaaGreat
/- A region in the text's order: an operation that makes memory among the marked ones; a call that waits for marked ones. Conditions: as stated. -/
namespace Go.Proofs.YtgooepfhapaenaaGreat
open Go.RowKit Go.ChangeShapes Go.WideShapes Go.ChangeAt
open Go.Sort (grow)
set_option linter.unusedVariables false

section
variable {P : Program} {ops : Array Oper} {ps : List Nat} {C : List Bool → World → Prop}
theorem marks_pre {i : Nat} {o : Oper} {L : Array Bool} {pre : List Nat} (hi : ops[i]? = some o)
    (hpre : (pre.all fun q => match ps[q]? with | some j => o.after.any (fun e => Region.binds .any e && e.on == j) | none => false) = true) (hr : i ∈ Region.ready .any ops L) : ∀ q ∈ pre, (marks ps L)[q]? = some true := fun q hq => by
  have h1 := List.all_eq_true.1 hpre q hq
  unfold marks
  rw [List.getElem?_map]
  cases hj : ps[q]? with
  | none => rw [hj] at h1; cases h1
  | some j =>
    rw [hj] at h1
    simp only [Option.map_some]
    rw [ready_on hi hr h1]
/-- An operation that makes or turns memory and yields a value, the k-th of the marked ones. -/
theorem holdC_make {T : Act → Prop} {i : Nat} {o : Oper} {r : List Oper} {a : Act} {v : Value} (k : Nat) (pre : List Nat) (hi : ops[i]? = some o) (hk : ps[k]? = some i) (hnd : ps.Nodup) (hw : Region.wanted o (yielded ops a.tmps) = true)
    (hpre : (pre.all fun q => match ps[q]? with | some j => o.after.any (fun e => Region.binds .any e && e.on == j) | none => false) = true)
    (hv : ∀ m w, m[k]? = some false → (∀ q ∈ pre, m[q]? = some true) → C m w → ∃ w', (execOp a.eval o).run P w = .ok (.value v) w' ∧ C (m.set k true) w') (h : HoldC P ops ps C T (i + 1) r (a.put o.dst v)) : HoldC P ops ps C T i (o :: r) a :=
  ⟨v, .inl ⟨hw, fun L w hr hS => .inl (by
    obtain ⟨w', hrun, hC⟩ := hv _ w (by unfold marks; rw [List.getElem?_map, hk]; simp only [Option.map_some]; rw [ready_off hr]) (marks_pre hi hpre hr) hS.2
    exact ⟨w', hrun, by simpa using hS.1, by rw [marks_at hk hnd (ready_size hr)]; exact hC⟩)⟩, h⟩
/-- The same, with nothing to yield. -/
theorem holdC_turn {T : Act → Prop} {i : Nat} {o : Oper} {r : List Oper} {a : Act} (k : Nat) (pre : List Nat) (hi : ops[i]? = some o) (hk : ps[k]? = some i) (hnd : ps.Nodup) (hw : Region.wanted o (yielded ops a.tmps) = true)
    (hpre : (pre.all fun q => match ps[q]? with | some j => o.after.any (fun e => Region.binds .any e && e.on == j) | none => false) = true)
    (hv : ∀ m w, m[k]? = some false → (∀ q ∈ pre, m[q]? = some true) → C m w → ∃ w', (execOp a.eval o).run P w = .ok .skip w' ∧ C (m.set k true) w') (h : HoldC P ops ps C T (i + 1) r (a.put o.dst undef)) : HoldC P ops ps C T i (o :: r) a :=
  ⟨undef, .inl ⟨hw, fun L w hr hS => .inr (.inl (by
    obtain ⟨w', hrun, hC⟩ := hv _ w (by unfold marks; rw [List.getElem?_map, hk]; simp only [Option.map_some]; rw [ready_off hr]) (marks_pre hi hpre hr) hS.2
    exact ⟨w', hrun, rfl, by simpa using hS.1, by rw [marks_at hk hnd (ready_size hr)]; exact hC⟩))⟩, h⟩
/-- A read that waits for marked ones. -/
theorem holdC_valP {T : Act → Prop} {i : Nat} {o : Oper} {r : List Oper} {a : Act} {v : Value} (pre : List Nat) (hi : ops[i]? = some o) (hp : ps.contains i = false) (hw : Region.wanted o (yielded ops a.tmps) = true)
    (hpre : (pre.all fun q => match ps[q]? with | some j => o.after.any (fun e => Region.binds .any e && e.on == j) | none => false) = true)
    (hv : ∀ m w, (∀ q ∈ pre, m[q]? = some true) → C m w → (execOp a.eval o).run P w = .ok (.value v) w) (h : HoldC P ops ps C T (i + 1) r (a.put o.dst v)) : HoldC P ops ps C T i (o :: r) a :=
  ⟨v, .inl ⟨hw, fun L w hr hS => .inl ⟨w, hv _ w (marks_pre hi hpre hr) hS.2, by simpa using hS.1, by rw [marks_far hp]; exact hS.2⟩⟩, h⟩
/-- A call that waits for marked ones. -/
theorem holdC_callP {T : Act → Prop} {i : Nat} {o : Oper} {r : List Oper} {a : Act} {v : Value} {f : FuncId} {args : Array Value} (pre : List Nat) (hi : ops[i]? = some o) (hp : ps.contains i = false) (hw : Region.wanted o (yielded ops a.tmps) = true)
    (hpre : (pre.all fun q => match ps[q]? with | some j => o.after.any (fun e => Region.binds .any e && e.on == j) | none => false) = true)
    (hv : ∀ m w, C m w → (execOp a.eval o).run P w = .ok (.enter f args) w)
    (hc : ∀ m w, (∀ q ∈ pre, m[q]? = some true) → C m w → Calls P f args w fun e w' => e = .returned v ∧ C m w') (h : HoldC P ops ps C T (i + 1) r (a.put o.dst v)) : HoldC P ops ps C T i (o :: r) a :=
  ⟨v, .inl ⟨hw, fun L w hr hS => .inr (.inr ⟨f, args, w, hv _ w hS.2, (hc _ w (marks_pre hi hpre hr) hS.2).mono fun e w' ⟨he, hC⟩ => ⟨he, by simpa using hS.1, by rw [marks_far hp]; exact hC⟩⟩)⟩, h⟩
end
/-- One mark: the world ahead of it and behind it. -/
def oneC (w1 w2 : World) (m : List Bool) (w : World) : Prop := if m[0]? = some true then w = w2 else w = w1
theorem oneC_start (w1 w2 : World) : oneC w1 w2 ([0].map fun _ => false) w1 := by simp [oneC]
theorem oneC_off {w1 w2 w : World} {m : List Bool} (h : m[0]? = some false) (hC : oneC w1 w2 m w) : w = w1 := by
  unfold oneC at hC; rw [if_neg (by rw [h]; simp)] at hC; exact hC
theorem oneC_on {w1 w2 w : World} {m : List Bool} (h : m[0]? = some true) (hC : oneC w1 w2 m w) : w = w2 := by
  unfold oneC at hC; rw [if_pos h] at hC; exact hC
theorem oneC_set {w1 w2 : World} {m : List Bool} (h : m[0]? = some false) : oneC w1 w2 (m.set 0 true) w2 := by
  have : 0 < m.length := by
    rcases Nat.lt_or_ge 0 m.length with h' | h'
    · exact h'
    · rw [List.getElem?_eq_none h'] at h; cases h
  unfold oneC; rw [if_pos (by simp [this])]
theorem oneC_any {w1 w2 w : World} {m : List Bool} (hC : oneC w1 w2 m w) : w = w1 ∨ w = w2 := by
  unfold oneC at hC; split at hC
  · exact .inr hC
  · exact .inl hC
theorem blk_pair (w : World) (o1 o2 : Obj) : ((w.alloc o1).alloc o2).heap[w.heap.size]? = some o1 ∧ ((w.alloc o1).alloc o2).heap[w.heap.size + 1]? = some o2 :=
  ⟨blk_old _ (blk_new w _), by have := blk_new (w.alloc o1) o2; rwa [show (w.alloc o1).heap.size = w.heap.size + 1 by simp] at this⟩
/-- What only grew. -/
theorem grow_below (w : World) (q : Nat) (os : Array Obj)   : Below w.heap.size w (grow (w.drewN q) os) :=
  ⟨rfl, rfl, rfl, by simp [grow], fun k hk => by
    show (w.heap ++ os)[k]? = _
    rw [Array.getElem?_append_left hk]⟩
end Go.Proofs.YtgooepfhapaenaaGreat
/- A region in the text's order, with a store of a whole row among its operations. Conditions: as stated. -/
namespace Go.Proofs.YtgooepfhapaenaaGreat
open Go.RowKit
set_option linter.unusedVariables false

theorem rowSet_heap (w : World) (g : Nat) (cs : Array Value) (t : TypeId) (old : Array Value) (h : w.heap[g]? = some (.cells old t (0, 0))) : (w.setRow g cs).heap[g]? = some (.cells cs t (0, 0)) := by
  simp [World.setRow, Array.getElem?_modify, h]
theorem rowSet_far (w : World) (g k : Nat) (cs : Array Value) (h : k ≠ g) : (w.setRow g cs).heap[k]? = w.heap[k]? := by
  simp only [World.setRow, Array.getElem?_modify]; rw [if_neg (fun e => h e.symm)]
theorem rowSet_below {w w' : World} {B g : Nat} (cs : Array Value) (h : Below B w w') (hB : B ≤ g) : Below B w (w'.setRow g cs) :=
  h.trans ⟨rfl, rfl, rfl, by simp [World.setRow], fun k hk => rowSet_far _ _ _ _ (by omega)⟩
section
variable {P : Program} {ops : Array Oper} {ps : List Nat} {C : List Bool → World → Prop}
/-- A store of a whole row, the k-th of the marked ones. -/
theorem holdC_store {T : Act → Prop} {i : Nat} {o : Oper} {r : List Oper} {a : Act} (k : Nat) (ty : TypeId) (x y : Operand) (ho : o.op = .store ty x y) (hk : ps[k]? = some i) (hnd : ps.Nodup) (hw : Region.wanted o (yielded ops a.tmps) = true)
    (g : Nat) (cells : Array Value) (hx : a.eval x = .pointer (some ⟨g, 0, none⟩)) (hy : a.eval y = .agg cells) (hi : (P.info? ty).map (·.size) = some cells.size) (h1 : cells.all (·.oneCell') = true)
    (hs : ∀ m w, m[k]? = some false → C m w → ∃ t old, w.heap[g]? = some (.cells old t (0, 0)) ∧ old.size = cells.size ∧ C (m.set k true) (w.setRow g cells))
    (h : HoldC P ops ps C T (i + 1) r (a.put o.dst undef)) : HoldC P ops ps C T i (o :: r) a :=
  ⟨undef, .inl ⟨hw, fun L w hr hS => .inr (.inl (by
    obtain ⟨t, old, hg, hold, hC⟩ := hs _ w (by unfold marks; rw [List.getElem?_map, hk]; simp only [Option.map_some]; rw [ready_off hr]) hS.2
    refine ⟨w.setRow g cells, ?_, rfl, by simpa using hS.1, by rw [marks_at hk hnd (ready_size hr)]; exact hC⟩
    unfold execOp
    simp only [ho, hx, hy, Instr.storeAt, Instr.sureAddr, Sem.run_bind, Sem.run_pure, Result.andThen_ok, run_storeVar_row w g t ty old cells hg hi hold h1]))⟩, h⟩
end
end Go.Proofs.YtgooepfhapaenaaGreat
/- A region that draws its order and holds calls of Go functions whose results hang on the world (new slices): taken in the text's order. The calls come up in the text's order (chained); reads go anywhere. Conditions: as stated. -/
namespace Go.Proofs.YtgooepfhapaenaaGreat
open Go.RowKit
set_option linter.unusedVariables false

/-- A call of a Go function. -/
def isFn (o : Oper) : Bool := match o.op with
  | .call c => match c.callee with
    | .value _ => true
    | _ => false
  | _ => false
section
variable {P : Program} {ops : Array Oper} {Q : Exit → Act → World → Prop}
/-- What only reads, or is not wanted. -/
def StepsR (P : Program) (ops : Array Oper) (S : Array Bool → World → Prop) (i : Nat) (o : Oper) (v : Value) (a : Act) : Prop :=
  (Region.wanted o (yielded ops a.tmps) = true ∧ ∀ L w, i ∈ Region.ready .any ops L → S L w → ((execOp a.eval o).run P w = .ok (.value v) w ∨ ((execOp a.eval o).run P w = .ok .skip w ∧ v = undef)) ∧ S (L.setIfInBounds i true) w) ∨
  (Region.wanted o (yielded ops a.tmps) = false ∧ v = undef ∧ ∀ L w, i ∈ Region.ready .any ops L → S L w → S (L.setIfInBounds i true) w)
/-- A call that yields one value. -/
def StepsC (P : Program) (ops : Array Oper) (S : Array Bool → World → Prop) (i : Nat) (o : Oper) (v : Value) (a : Act) : Prop :=
  Region.wanted o (yielded ops a.tmps) = true ∧ isFn o = true ∧ ∀ L w, i ∈ Region.ready .any ops L → S L w → ∃ f args, (execOp a.eval o).run P w = .ok (.enter f args) w ∧ Calls P f args w fun e w' => e = .returned v ∧ S (L.setIfInBounds i true) w'
/-- A call that yields any value of which something is known. -/
def StepsE (P : Program) (ops : Array Oper) (S : Array Bool → World → Prop) (i : Nat) (o : Oper) (F : Value → World → Prop) (a : Act) : Prop :=
  Region.wanted o (yielded ops a.tmps) = true ∧ isFn o = true ∧ ∀ L w, i ∈ Region.ready .any ops L → S L w → ∃ f args, (execOp a.eval o).run P w = .ok (.enter f args) w ∧ Calls P f args w fun e w' => ∃ v, e = .returned v ∧ S (L.setIfInBounds i true) w' ∧ F v w'
def plusS (S : Array Bool → World → Prop) (i : Nat) (F : World → Prop) (L : Array Bool) (w : World) : Prop := S L w ∧ (L.getD i true = true → F w)
theorem StepsR.of_same {S : Array Bool → World → Prop} {i : Nat} {o : Oper} {v : Value} {a a' : Act} (hy : StepsR P ops S i o v a) (he : execOp a'.eval o = execOp a.eval o)
    (hw : Region.wanted o (yielded ops a'.tmps) = Region.wanted o (yielded ops a.tmps)) : StepsR P ops S i o v a' := by
  unfold StepsR at *; rw [he, hw]; exact hy
theorem StepsC.of_same {S : Array Bool → World → Prop} {i : Nat} {o : Oper} {v : Value} {a a' : Act} (hy : StepsC P ops S i o v a) (he : execOp a'.eval o = execOp a.eval o)
    (hw : Region.wanted o (yielded ops a'.tmps) = Region.wanted o (yielded ops a.tmps)) : StepsC P ops S i o v a' := by
  unfold StepsC at *; rw [he, hw]; exact hy
theorem StepsE.of_same {S : Array Bool → World → Prop} {i : Nat} {o : Oper} {F : Value → World → Prop} {a a' : Act} (hy : StepsE P ops S i o F a) (he : execOp a'.eval o = execOp a.eval o)
    (hw : Region.wanted o (yielded ops a'.tmps) = Region.wanted o (yielded ops a.tmps)) : StepsE P ops S i o F a' := by
  unfold StepsE at *; rw [he, hw]; exact hy
theorem StepsR.more {S : Array Bool → World → Prop} {i j : Nat} {o : Oper} {v : Value} {a : Act} {F : World → Prop} (hy : StepsR P ops S i o v a) (hij : i ≠ j) : StepsR P ops (plusS S j F) i o v a := by
  rcases hy with ⟨hw, h⟩ | ⟨hw, hv, h⟩
  · refine .inl ⟨hw, fun L w hr hS => ⟨(h L w hr hS.1).1, (h L w hr hS.1).2, ?_⟩⟩
    rw [getD_set_ne true hij]; exact hS.2
  · refine .inr ⟨hw, hv, fun L w hr hS => ⟨h L w hr hS.1, ?_⟩⟩
    rw [getD_set_ne true hij]; exact hS.2
/-- The operations that are left, in the text's order. -/
def HoldX (P : Program) (ops : Array Oper) (T : Act → (Array Bool → World → Prop) → Prop) : List Nat → Act → (Array Bool → World → Prop) → Prop
  | [], a, S => T a S
  | i :: r, a, S => ∃ o, ops[i]? = some o ∧ ((∃ v, StepsR P ops S i o v a ∧ HoldX P ops T r (a.put o.dst v) S) ∨ (∃ v, StepsC P ops S i o v a ∧ HoldX P ops T r (a.put o.dst v) S) ∨
      (∃ F : Value → World → Prop, StepsE P ops S i o F a ∧ ∀ v, HoldX P ops T r (a.put o.dst v) (plusS S i (F v))))
/-- What becomes of number j, taken now. -/
abbrev OutX (P : Program) (ops : Array Oper) (T : Act → (Array Bool → World → Prop) → Prop) (L : Array Bool) (w : World) (j : Nat) (o : Oper) (l : List Nat) (a : Act) (S : Array Bool → World → Prop) : Prop :=
  (∃ v, ((Region.wanted o (yielded ops a.tmps) = true ∧ ((execOp a.eval o).run P w = .ok (.value v) w ∨ ((execOp a.eval o).run P w = .ok .skip w ∧ v = undef))) ∨ (Region.wanted o (yielded ops a.tmps) = false ∧ v = undef)) ∧ S (L.setIfInBounds j true) w ∧ HoldX P ops T l (a.put o.dst v) S) ∨
  (isFn o = true ∧ Region.wanted o (yielded ops a.tmps) = true ∧ ∃ v f args, (execOp a.eval o).run P w = .ok (.enter f args) w ∧ (Calls P f args w fun e w' => e = .returned v ∧ S (L.setIfInBounds j true) w') ∧ HoldX P ops T l (a.put o.dst v) S) ∨
  (isFn o = true ∧ Region.wanted o (yielded ops a.tmps) = true ∧ ∃ (F : Value → World → Prop) (f : FuncId) (args : Array Value), (execOp a.eval o).run P w = .ok (.enter f args) w ∧ (Calls P f args w fun e w' => ∃ v, e = .returned v ∧ S (L.setIfInBounds j true) w' ∧ F v w') ∧ ∀ v, HoldX P ops T l (a.put o.dst v) (plusS S j (F v)))
theorem HoldX.pick {T : Act → (Array Bool → World → Prop) → Prop} (hsel : Region.noSelect ops = true) {L : Array Bool} {w : World} {j : Nat} {oj : Oper} (hj : ops[j]? = some oj) (hr : j ∈ Region.ready .any ops L) {l2 : List Nat} :
    ∀ (l1 : List Nat) (a : Act) (S : Array Bool → World → Prop), (∀ i ∈ l1, i ≠ j ∧ L.getD i true = false ∧ ∀ oi, ops[i]? = some oi → oi.apart ops oj = true ∧ (isFn oi = true → isFn oj = false)) → S L w → HoldX P ops T (l1 ++ j :: l2) a S →
      OutX P ops T L w j oj (l1 ++ l2) a S
  | [], a, S, _, hS, h => by
    obtain ⟨o, ho, h⟩ := h
    obtain rfl : o = oj := Option.some.inj (ho.symm.trans hj)
    rcases h with ⟨v, hy, h⟩ | ⟨v, ⟨hw, hf, hy⟩, h⟩ | ⟨F, ⟨hw, hf, hy⟩, h⟩
    · rcases hy with ⟨hw, hy⟩ | ⟨hw, hv, hy⟩
      · exact .inl ⟨v, .inl ⟨hw, (hy L w hr hS).1⟩, (hy L w hr hS).2, h⟩
      · exact .inl ⟨v, .inr ⟨hw, hv⟩, hy L w hr hS, h⟩
    · obtain ⟨f, args, h1, h2⟩ := hy L w hr hS
      exact .inr (.inl ⟨hf, hw, v, f, args, h1, h2, h⟩)
    · obtain ⟨f, args, h1, h2⟩ := hy L w hr hS
      exact .inr (.inr ⟨hf, hw, F, f, args, h1, h2, h⟩)
  | i :: l1, a, S, hap, hS, h => by
    obtain ⟨o, ho, h⟩ := h
    obtain ⟨hne, hun, hio⟩ := hap i (by simp)
    obtain ⟨hapt, hfn⟩ := hio o ho
    obtain ⟨h1, h2', h3⟩ := Oper.apart_spec hapt
    have hso := Region.noSelect_spec hsel i o
    have hsj := Region.noSelect_spec hsel j oj
    have hap' : ∀ k ∈ l1, k ≠ j ∧ L.getD k true = false ∧ ∀ oi, ops[k]? = some oi → oi.apart ops oj = true ∧ (isFn oi = true → isFn oj = false) := fun k hk => hap k (by simp [hk])
    have ej : ∀ v, execOp (a.put o.dst v).eval oj = execOp a.eval oj := fun v => execOp_put oj (fun cs b => hsj cs b hj) a o.dst v h1
    have wj : ∀ v, Region.wanted oj (yielded ops (a.put o.dst v).tmps) = Region.wanted oj (yielded ops a.tmps) := fun v => wanted_put oj a o.dst v h1
    have ei : ∀ u, execOp (a.put oj.dst u).eval o = execOp a.eval o := fun u => execOp_put o (fun cs b => hso cs b ho) a oj.dst u h3
    have wi : ∀ u, Region.wanted o (yielded ops (a.put oj.dst u).tmps) = Region.wanted o (yielded ops a.tmps) := fun u => wanted_put o a oj.dst u h3
    have cm : ∀ v u, (a.put o.dst v).put oj.dst u = (a.put oj.dst u).put o.dst v := fun v u => Act.put_comm a v u (fun d hd hd2 => h2' d hd hd2)
    rcases h with ⟨v, hy, h⟩ | ⟨v, hy, h⟩ | ⟨F, hy, h⟩
    · have ih := HoldX.pick hsel hj hr l1 (a.put o.dst v) S hap' hS h
      unfold OutX at ih
      rw [ej, wj] at ih
      rcases ih with ⟨u, hu, hs, hh⟩ | ⟨hf, hw, u, f, args, hu, hc, hh⟩ | ⟨hf, hw, G, f, args, hu, hc, hh⟩
      · exact .inl ⟨u, hu, hs, o, ho, .inl ⟨v, hy.of_same (ei u) (wi u), by rw [← cm]; exact hh⟩⟩
      · exact .inr (.inl ⟨hf, hw, u, f, args, hu, hc, o, ho, .inl ⟨v, hy.of_same (ei u) (wi u), by rw [← cm]; exact hh⟩⟩)
      · exact .inr (.inr ⟨hf, hw, G, f, args, hu, hc, fun u => ⟨o, ho, .inl ⟨v, (hy.of_same (ei u) (wi u)).more hne, by rw [← cm]; exact hh u⟩⟩⟩)
    · have ih := HoldX.pick hsel hj hr l1 (a.put o.dst v) S hap' hS h
      have hfj := hfn hy.2.1
      unfold OutX at ih
      rw [ej, wj] at ih
      rcases ih with ⟨u, hu, hs, hh⟩ | ⟨hf, _⟩ | ⟨hf, _⟩
      · exact .inl ⟨u, hu, hs, o, ho, .inr (.inl ⟨v, hy.of_same (ei u) (wi u), by rw [← cm]; exact hh⟩)⟩
      · rw [hfj] at hf; cases hf
      · rw [hfj] at hf; cases hf
    · have hfj := hfn hy.2.1
      have ih := fun v => HoldX.pick hsel hj hr l1 (a.put o.dst v) (plusS S i (F v)) hap' ⟨hS, fun e => by rw [hun] at e; cases e⟩ (h v)
      have key : ∀ v, ∃ u, ((Region.wanted oj (yielded ops a.tmps) = true ∧ ((execOp a.eval oj).run P w = .ok (.value u) w ∨ ((execOp a.eval oj).run P w = .ok .skip w ∧ u = undef))) ∨ (Region.wanted oj (yielded ops a.tmps) = false ∧ u = undef)) ∧ S (L.setIfInBounds j true) w ∧ HoldX P ops T (l1 ++ l2) ((a.put oj.dst u).put o.dst v) (plusS S i (F v)) := fun v => by
        have ihv := ih v
        unfold OutX at ihv
        rw [ej, wj] at ihv
        rcases ihv with ⟨u, hu, hs, hh⟩ | ⟨hf, _⟩ | ⟨hf, _⟩
        · exact ⟨u, hu, hs.1, by rw [← cm]; exact hh⟩
        · rw [hfj] at hf; cases hf
        · rw [hfj] at hf; cases hf
      obtain ⟨u, hu, hs, _⟩ := key undef
      refine .inl ⟨u, hu, hs, o, ho, .inr (.inr ⟨F, hy.of_same (ei u) (wi u), fun v => ?_⟩)⟩
      obtain ⟨u', hu', _, hh⟩ := key v
      have : u' = u := by
        rcases hu with ⟨hw, hu⟩ | ⟨hw, hu⟩ <;> rcases hu' with ⟨hw', hu'⟩ | ⟨hw', hu'⟩
        · rcases hu with hu | ⟨hu, e⟩ <;> rcases hu' with hu' | ⟨hu', e'⟩
          · rw [hu] at hu'; cases hu'; rfl
          · rw [hu] at hu'; cases hu'
          · rw [hu] at hu'; cases hu'
          · rw [e, e']
        · rw [hw] at hw'; cases hw'
        · rw [hw] at hw'; cases hw'
        · rw [hu, hu']
      rw [← this]; exact hh
/-- Whatever has come up, what it waits for has. -/
def ClosedL (ops : Array Oper) (L : Array Bool) : Prop := ∀ j o, ops[j]? = some o → L.getD j false = true → ∀ e ∈ o.after, Region.binds .any e = true → L.getD e.on false = true
/-- Number j waits for number i, by steps. -/
inductive Anc (ops : Array Oper) : Nat → Nat → Prop where
  | one {j : Nat} {o : Oper} {e : Edge} (hj : ops[j]? = some o) (he : e ∈ o.after) (hb : Region.binds .any e = true) : Anc ops e.on j
  | step {i j : Nat} {o : Oper} {e : Edge} (hj : ops[j]? = some o) (he : e ∈ o.after) (hb : Region.binds .any e = true) (h : Anc ops i e.on) : Anc ops i j
theorem anc_done {i j : Nat} {L : Array Bool} (hc : ClosedL ops L) (h : Anc ops i j) : L.getD j false = true → L.getD i false = true := by
  induction h with
  | one hj he hb => exact fun hl => hc _ _ hj hl _ he hb
  | step hj he hb _ ih => exact fun hl => ih (hc _ _ hj hl _ he hb)
theorem anc_ready {i j : Nat} {L : Array Bool} (hc : ClosedL ops L) (h : Anc ops i j) (hr : j ∈ Region.ready .any ops L) (hsz : ∀ k, k < ops.size → k < L.size) (hbk : ∀ o, ops[j]? = some o → ∀ e ∈ o.after, Region.binds .any e = true → e.on < ops.size) : L.getD i false = true := by
  obtain ⟨hun, o, ho, hall⟩ := mem_ready.1 hr
  have key : ∀ e ∈ o.after, Region.binds .any e = true → L.getD e.on false = true := fun e he hb => by
    have h1 := hall e he hb
    have hlt := hsz _ (hbk o ho e he hb)
    simp [hlt] at h1 ⊢; exact h1
  cases h with
  | one hj he hb => obtain rfl : _ = o := Option.some.inj (hj.symm.trans ho); exact key _ he hb
  | step hj he hb h2 => obtain rfl : _ = o := Option.some.inj (hj.symm.trans ho); exact anc_done hc h2 (key _ he hb)
/-- All that a number waits for, as bits. -/
def edgeMask (ms : List Nat) : List Edge → Nat
  | [] => 0
  | e :: r => if Region.binds .any e then (edgeMask ms r ||| 2 ^ e.on) ||| ms.getD e.on 0 else edgeMask ms r
def masks : List Oper → List Nat → List Nat
  | [], ms => ms
  | o :: r, ms => masks r (ms ++ [edgeMask ms o.after.toList])
theorem edgeMask_spec (ms : List Nat) (i : Nat) : ∀ l : List Edge, (edgeMask ms l).testBit i = true → ∃ e ∈ l, Region.binds .any e = true ∧ (e.on = i ∨ (ms.getD e.on 0).testBit i = true)
  | [], h => by simp [edgeMask] at h
  | e :: r, h => by
    unfold edgeMask at h
    split at h
    · rename_i hb
      rw [Nat.testBit_or, Nat.testBit_or, Bool.or_eq_true, Bool.or_eq_true] at h
      rcases h with (h | h) | h
      · obtain ⟨e', he', h'⟩ := edgeMask_spec ms i r h
        exact ⟨e', by simp [he'], h'⟩
      · rw [Nat.testBit_two_pow] at h
        exact ⟨e, by simp, hb, .inl (by simpa using h)⟩
      · exact ⟨e, by simp, hb, .inr h⟩
    · obtain ⟨e', he', h'⟩ := edgeMask_spec ms i r h
      exact ⟨e', by simp [he'], h'⟩
theorem masks_spec : ∀ (l : List Oper) (ms : List Nat) (k : Nat), (∀ j, l[j]? = ops[k + j]?) → ms.length = k → (∀ j i, (ms.getD j 0).testBit i = true → Anc ops i j) → ∀ j i, ((masks l ms).getD j 0).testBit i = true → Anc ops i j
  | [], ms, k, _, _, h => h
  | o :: r, ms, k, hl, hk, h => by
    have ho : ops[k]? = some o := by have := hl 0; simpa using this.symm
    refine masks_spec r _ (k + 1) (fun j => by have := hl (j + 1); simp at this; rw [this]; congr 1; omega) (by simp [hk]) (fun j i hj => ?_)
    rw [List.getD_eq_getElem?_getD] at hj
    by_cases hjk : j < ms.length
    · rw [List.getElem?_append_left hjk, ← List.getD_eq_getElem?_getD] at hj
      exact h j i hj
    · rw [List.getElem?_append_right (by omega)] at hj
      by_cases hj0 : j = ms.length
      · subst hj0
        simp at hj
        obtain ⟨e, he, hb, h1⟩ := edgeMask_spec ms i _ hj
        rw [hk]
        rcases h1 with rfl | h1
        · exact .one ho (by simpa using he) hb
        · exact .step ho (by simpa using he) hb (h _ _ h1)
      · have : j - ms.length ≠ 0 := by omega
        obtain ⟨n, hn⟩ := Nat.exists_eq_succ_of_ne_zero this
        rw [hn] at hj; simp at hj
/-- Calls of Go functions come up in the text's order. -/
def chainB (ops : Array Oper) : Bool :=
  let ms := masks ops.toList []
  (List.range ops.size).all fun j => (List.range j).all fun i => match ops[i]?, ops[j]? with
    | some oi, some oj => !isFn oi || !isFn oj || (ms.getD j 0).testBit i
    | _, _ => true
theorem chainB_spec (h : chainB ops = true) {i j : Nat} {oi oj : Oper} (hij : i < j) (hi : ops[i]? = some oi) (hj : ops[j]? = some oj) (h1 : isFn oi = true) (h2 : isFn oj = true) : Anc ops i j := by
  unfold chainB at h
  simp only at h
  rw [List.all_eq_true] at h
  have h3 := h j (List.mem_range.2 (Array.getElem?_eq_some_iff.1 hj).1)
  rw [List.all_eq_true] at h3
  have h4 := h3 i (List.mem_range.2 hij)
  rw [hi, hj] at h4
  refine masks_spec ops.toList [] 0 (fun j => by simp) rfl (fun j i hh => by simp at hh) j i ?_
  simpa [h1, h2] using h4
theorem backB_spec (h : backB .any ops = true) {j : Nat} {o : Oper} (hj : ops[j]? = some o) : ∀ e ∈ o.after, Region.binds .any e = true → e.on < j := by
  unfold backB at h
  rw [List.all_eq_true] at h
  have h1 := h j (List.mem_range.2 (Array.getElem?_eq_some_iff.1 hj).1)
  rw [hj] at h1
  intro e he hb
  have h2 := Array.all_eq_true'.1 h1 e he
  rw [hb] at h2
  simpa using h2
theorem wpAny_of_holdX (hsel : Region.noSelect ops = true) (hB : meetB .any ops = true) (hK : backB .any ops = true) (hC : chainB ops = true) {T : Act → (Array Bool → World → Prop) → Prop}
    (hend : ∀ a S L w, L.size = ops.size → leftOf ops.size L = [] → T a S → S L w → Q .normal a w) :
    ∀ (fuel : Nat) (L : Array Bool) (a : Act) (w : World) (S : Array Bool → World → Prop), L.size = ops.size → ClosedL ops L → (leftOf ops.size L).length = fuel → S L w → HoldX P ops T (leftOf ops.size L) a S → wpAny P .any ops Q fuel L a w := by
  intro fuel
  induction fuel with
  | zero =>
    intro L a w S hsz hcl hl hS h
    have h0 : leftOf ops.size L = [] := List.eq_nil_of_length_eq_zero hl
    rw [h0] at h
    have hr : Region.ready .any ops L = [] := by
      rw [List.eq_nil_iff_forall_not_mem]
      intro i hi
      obtain ⟨hun, oi, hoi, _⟩ := mem_ready.1 hi
      have : i ∈ leftOf ops.size L := leftOf_mem.2 ⟨(Array.getElem?_eq_some_iff.1 hoi).1, hun⟩
      rw [h0] at this; cases this
    exact ⟨hr, hend a S L w hsz h0 h hS⟩
  | succ fuel ih =>
    intro L a w S hsz hcl hl hS h
    refine ⟨fun h0 => absurd h0 (ready_some hK L hsz (fun e => by rw [e] at hl; cases hl)), fun j hj => ?_⟩
    obtain ⟨hun, oj, hoj, hall⟩ := mem_ready.1 hj
    have hjs : j < ops.size := (Array.getElem?_eq_some_iff.1 hoj).1
    have hmem : j ∈ leftOf ops.size L := leftOf_mem.2 ⟨hjs, hun⟩
    obtain ⟨l1, l2, hsp⟩ := List.append_of_mem hmem
    have hsrt : (leftOf ops.size L).Pairwise (· < ·) := List.Pairwise.filter _ List.pairwise_lt_range
    rw [hsp] at h hsrt
    have hlt : ∀ i ∈ l1, i < j := fun i hi => (List.pairwise_append.1 hsrt).2.2 i hi j (by simp)
    have hj1 : j ∉ l1 := fun e => Nat.lt_irrefl _ (hlt j e)
    have hj2 : j ∉ l2 := fun e => by
      have := (List.pairwise_append.1 hsrt).2.1
      exact Nat.lt_irrefl _ ((List.pairwise_cons.1 this).1 j e)
    have hL : ∀ k, k < ops.size → k < L.size := fun k hk => by rw [hsz]; exact hk
    have hun1 : ∀ i ∈ l1, L.getD i true = false := fun i hi => (leftOf_mem.1 (show i ∈ leftOf ops.size L by rw [hsp]; simp [hi])).2
    have hap1 : ∀ i ∈ l1, ∀ oi, ops[i]? = some oi → oi.apart ops oj = true := fun i hi oi hoi => by
      refine meetB_spec hB (hlt i hi) hoi hoj fun e he hb heq => ?_
      have h1 := hall e he hb
      have h3 := hun1 i hi
      rw [heq] at h1
      have hil : i < L.size := by rw [hsz]; exact (Array.getElem?_eq_some_iff.1 hoi).1
      simp [hil] at h1 h3
      rw [h3] at h1; cases h1
    have hap2 : ∀ i ∈ l1, ∀ oi, ops[i]? = some oi → isFn oi = true → isFn oj = false := fun i hi oi hoi hfi => by
      cases hfj : isFn oj with
      | false => rfl
      | true =>
        have h1 := anc_ready hcl (chainB_spec hC (hlt i hi) hoi hoj hfi hfj) hj hL (fun o ho e he hb => Nat.lt_trans (backB_spec hK ho e he hb) hjs)
        have h3 := hun1 i hi
        have hil : i < L.size := by rw [hsz]; exact (Array.getElem?_eq_some_iff.1 hoi).1
        simp [hil] at h1 h3
        rw [h3] at h1; cases h1
    have hap : ∀ i ∈ l1, i ≠ j ∧ L.getD i true = false ∧ ∀ oi, ops[i]? = some oi → oi.apart ops oj = true ∧ (isFn oi = true → isFn oj = false) := fun i hi => ⟨Nat.ne_of_lt (hlt i hi), hun1 i hi, fun oi hoi => ⟨hap1 i hi oi hoi, hap2 i hi oi hoi⟩⟩
    have hleft : leftOf ops.size (L.setIfInBounds j true) = l1 ++ l2 := by
      have e1 : leftOf ops.size (L.setIfInBounds j true) = (leftOf ops.size L).filter (· ≠ j) := by
        unfold leftOf
        rw [List.filter_filter]
        refine List.filter_congr fun i hi => ?_
        by_cases hij : i = j
        · subst hij
          have : i < L.size := by rw [hsz]; exact hjs
          simp [this]
        · rw [getD_set_ne true (fun e => hij e.symm)]; simp [hij]
      rw [e1, hsp, List.filter_append, List.filter_cons]
      simp only [ne_eq, not_true_eq_false, decide_false]
      have f1 : l1.filter (fun x => decide (¬ x = j)) = l1 := List.filter_eq_self.2 fun x hx => by simp; rintro rfl; exact hj1 hx
      have f2 : l2.filter (fun x => decide (¬ x = j)) = l2 := List.filter_eq_self.2 fun x hx => by simp; rintro rfl; exact hj2 hx
      rw [f1]
      simp only [Bool.false_eq_true, if_false]
      rw [f2]
    have hsz' : (L.setIfInBounds j true).size = ops.size := by simpa using hsz
    have hlen : (leftOf ops.size (L.setIfInBounds j true)).length = fuel := by
      rw [hleft]; rw [hsp] at hl; simp at hl ⊢; omega
    have hcl' : ClosedL ops (L.setIfInBounds j true) := fun k o hk hm e he hb => by
      have done : ∀ q, q < ops.size → L.getD q false = true → (L.setIfInBounds j true).getD q false = true := fun q hq h => by
        by_cases hqj : q = j
        · subst hqj; have := hL q hq; simp [this]
        · rw [getD_set_ne false (fun e => hqj e.symm)]; exact h
      have hks : k < ops.size := (Array.getElem?_eq_some_iff.1 hk).1
      have hes : e.on < ops.size := Nat.lt_trans (backB_spec hK hk e he hb) hks
      refine done _ hes ?_
      by_cases hkj : k = j
      · subst hkj
        obtain rfl : o = oj := Option.some.inj (hk.symm.trans hoj)
        have h1 := hall e he hb
        have := hL _ hes
        simp [this] at h1 ⊢; exact h1
      · rw [getD_set_ne false (fun e => hkj e.symm)] at hm
        exact hcl k o hk hm e he hb
    have go : ∀ v w' S', S' (L.setIfInBounds j true) w' → HoldX P ops T (l1 ++ l2) (a.put oj.dst v) S' → wpAny P .any ops Q fuel (L.setIfInBounds j true) (a.put oj.dst v) w' := fun v w' S' hS' hh =>
      ih (L.setIfInBounds j true) (a.put oj.dst v) w' S' hsz' hcl' hlen hS' (by rw [hleft]; exact hh)
    have hjL : j < L.size := hL j hjs
    unfold Go.wpOp
    simp only [hoj]
    rcases HoldX.pick hsel hoj hj l1 a S hap hS h with ⟨v, hu, hs, hh⟩ | ⟨_, hw, v, f, args, hu, hc, hh⟩ | ⟨_, hw, F, f, args, hu, hc, hh⟩
    · rcases hu with ⟨hw, hu⟩ | ⟨hw, rfl⟩
      · simp only [hw, if_true, Oper.wp]
        refine .inl ?_
        rcases hu with hu | ⟨hu, rfl⟩
        · simp only [hu, Oper.upon]; exact go _ _ _ hs hh
        · simp only [hu, Oper.upon]; exact go _ _ _ hs hh
      · simp only [hw, Bool.false_eq_true, if_false]; exact go _ _ _ hs hh
    · simp only [hw, if_true, Oper.wp]
      refine .inl ?_
      simp only [hu, Oper.upon]
      exact hc.mono fun e w'' ⟨he, hs⟩ => by subst he; exact go _ _ _ hs hh
    · simp only [hw, if_true, Oper.wp]
      refine .inl ?_
      simp only [hu, Oper.upon]
      exact hc.mono fun e w'' ⟨v, he, hs, hF⟩ => by subst he; exact go _ _ _ ⟨hs, fun _ => hF⟩ (hh v)
def holdXOk (ops : Array Oper) : Bool := Region.noSelect ops && meetB .any ops && backB .any ops && chainB ops
/-- THE BEGINNING. -/
theorem wp_region_holdX0 {id : Nat} {l : List Oper} {a : Act} {w : World} (S : Array Bool → World → Prop) (hm : P.follows .mixedOrders = true) (hB : holdXOk l.toArray = true)
    (hS : S (Array.replicate l.length false) w.drew) (h : HoldX P l.toArray (fun a S => ∀ L w, (∀ i, i < l.length → L.getD i true = true ∧ L.getD i false = true) → S L w → Q .normal a w) (List.range l.length) a S) :
    (Code.region id l.toArray true).wp P Q a w := by
  unfold holdXOk at hB
  simp only [Bool.and_eq_true] at hB
  obtain ⟨⟨⟨h1, h2⟩, h3⟩, h4⟩ := hB
  refine wp_region_any hm ?_
  have hl0 : leftOf l.toArray.size (Array.replicate l.toArray.size false) = List.range l.length := by
    unfold leftOf
    rw [List.filter_eq_self.2]
    · simp
    · intro x hx
      have : x < l.toArray.size := List.mem_range.1 hx
      simp at this
      simp [this]
  refine wpAny_of_holdX (ops := l.toArray) h1 h2 h3 h4 (T := fun a S => ∀ L w, (∀ i, i < l.length → L.getD i true = true ∧ L.getD i false = true) → S L w → Q .normal a w) (fun a S L w hsz hl hT hs => ?_) _ _ _ _ S (by simp) (fun j o ho hm => ?_) (by rw [hl0]; simp) (by simpa using hS) (by rw [hl0]; exact h)
  · refine hT L w (fun i hi => ?_) hs
    have h' : i < L.size := by rw [hsz]; simpa using hi
    by_cases hx : L.getD i true = false
    · have : i ∈ leftOf l.toArray.size L := leftOf_mem.2 ⟨by simpa using hi, hx⟩
      rw [hl] at this; cases this
    · simp [h'] at hx ⊢; exact hx
  · rw [Array.getD_eq_getD_getElem?, Array.getElem?_replicate] at hm
    split at hm <;> cases hm
end
/-! ### The same, with a condition that calls keep -/
section
variable {P : Program} {ops : Array Oper} {Q : Exit → Act → World → Prop} {S : World → Prop}
/-- What is known of results that hang on the world: the call's number, the fact. -/
abbrev Env := List (Nat × (World → Prop))
def envS (n : Nat) (S : World → Prop) (E : Env) : Array Bool → World → Prop := E.foldr (fun p S' => plusS S' p.1 p.2) (fun L w => L.size = n ∧ S w)
/-- It stays where only memory is made. -/
def Kept (F : World → Prop) : Prop := ∀ w w', F w → Below w.heap.size w w' → F w'
def KeptE (S : World → Prop) (E : Env) : Prop := Kept S ∧ ∀ p ∈ E, Kept p.2
theorem env_base {n : Nat} {L : Array Bool} {w : World} : ∀ {E : Env}, envS n S E L w → L.size = n ∧ S w
  | [], h => h
  | _ :: E, h => env_base (E := E) h.1
theorem env_get {n : Nat} {L : Array Bool} {w : World} {p : Nat × (World → Prop)} : ∀ {E : Env}, p ∈ E → envS n S E L w → L.getD p.1 true = true → p.2 w
  | q :: E, hp, h, hl => by
    rcases List.mem_cons.1 hp with rfl | hp
    · exact h.2 hl
    · exact env_get hp h.1 hl
theorem env_step {n i : Nat} {L : Array Bool} {w w' : World} (hb : Below w.heap.size w w') : ∀ {E : Env}, KeptE S E → (E.all fun p => p.1 != i) = true → envS n S E L w → envS n S E (L.setIfInBounds i true) w'
  | [], hK, _, h => ⟨by simpa using h.1, hK.1 _ _ h.2 hb⟩
  | q :: E, hK, hE, h => by
    simp only [List.all_cons, Bool.and_eq_true, bne_iff_ne, ne_eq] at hE
    refine ⟨env_step hb ⟨hK.1, fun p hp => hK.2 p (by simp [hp])⟩ hE.2 h.1, fun hl => hK.2 q (by simp) _ _ (h.2 ?_) hb⟩
    rw [getD_set_ne true (fun e => hE.1 e.symm)] at hl
    exact hl
/-- The operations from number i on, in the text's order. -/
def HoldY (P : Program) (ops : Array Oper) (S : World → Prop) (T : Act → Env → Prop) : Nat → List Oper → Act → Env → Prop
  | _, [], a, E => T a E
  | i, o :: r, a, E => (∃ v, StepsR P ops (envS ops.size S E) i o v a ∧ HoldY P ops S T (i + 1) r (a.put o.dst v) E) ∨ (∃ v, StepsC P ops (envS ops.size S E) i o v a ∧ HoldY P ops S T (i + 1) r (a.put o.dst v) E) ∨
      (∃ F : Value → World → Prop, StepsE P ops (envS ops.size S E) i o F a ∧ ∀ v, HoldY P ops S T (i + 1) r (a.put o.dst v) ((i, F v) :: E))
theorem HoldY.holdX {T : Act → Env → Prop} : ∀ (l : List Oper) (i : Nat) (a : Act) (E : Env), (∀ j, l[j]? = ops[i + j]?) → HoldY P ops S T i l a E →
    HoldX P ops (fun a S' => ∃ E, S' = envS ops.size S E ∧ T a E) (List.range' i l.length) a (envS ops.size S E)
  | [], i, a, E, _, h => ⟨E, rfl, h⟩
  | o :: r, i, a, E, hl, h => by
    have ho : ops[i]? = some o := by have := hl 0; simpa using this.symm
    have hr : ∀ j, r[j]? = ops[i + 1 + j]? := fun j => by have := hl (j + 1); simp at this; rw [this]; congr 1; omega
    refine ⟨o, ho, ?_⟩
    rcases h with ⟨v, hy, h⟩ | ⟨v, hy, h⟩ | ⟨F, hy, h⟩
    · exact .inl ⟨v, hy, HoldY.holdX r (i + 1) _ E hr h⟩
    · exact .inr (.inl ⟨v, hy, HoldY.holdX r (i + 1) _ E hr h⟩)
    · exact .inr (.inr ⟨F, hy, fun v => HoldY.holdX r (i + 1) _ ((i, F v) :: E) hr (h v)⟩)
/-- THE BEGINNING. -/
theorem wp_region_holdY {id : Nat} {l : List Oper} {a : Act} {w : World} (S : World → Prop) (hm : P.follows .mixedOrders = true) (hB : holdXOk l.toArray = true) (hK : Kept S) (hS : S w.drew)
    (h : KeptE S [] → HoldY P l.toArray S (fun a E => ∀ w, S w → (∀ p ∈ E, p.1 < l.length → p.2 w) → Q .normal a w) 0 l a []) : (Code.region id l.toArray true).wp P Q a w := by
  have h' := HoldY.holdX (ops := l.toArray) l 0 a [] (fun j => by simp) (h ⟨hK, fun p hp => by cases hp⟩)
  rw [← List.range_eq_range'] at h'
  refine wp_region_holdX0 (envS l.toArray.size S []) hm hB ⟨by simp, hS⟩ ?_
  revert h'
  generalize List.range l.length = ns
  generalize envS l.toArray.size S [] = S0
  intro h'
  have mono : ∀ (ns : List Nat) (a : Act) (S' : Array Bool → World → Prop), HoldX P l.toArray (fun a S' => ∃ E, S' = envS l.toArray.size S E ∧ ∀ w, S w → (∀ p ∈ E, p.1 < l.length → p.2 w) → Q .normal a w) ns a S' →
      HoldX P l.toArray (fun a S => ∀ L w, (∀ i, i < l.length → L.getD i true = true ∧ L.getD i false = true) → S L w → Q .normal a w) ns a S' := by
    intro ns
    induction ns with
    | nil =>
      intro a S' h L w hall hs
      obtain ⟨E, rfl, h⟩ := h
      exact h w (env_base hs).2 (fun p hp hl => env_get hp hs (hall _ hl).1)
    | cons i ns ih =>
      intro a S' h
      obtain ⟨o, ho, h⟩ := h
      refine ⟨o, ho, ?_⟩
      rcases h with ⟨v, hy, h⟩ | ⟨v, hy, h⟩ | ⟨F, hy, h⟩
      · exact .inl ⟨v, hy, ih _ _ h⟩
      · exact .inr (.inl ⟨v, hy, ih _ _ h⟩)
      · exact .inr (.inr ⟨F, hy, fun v => ih _ _ (h v)⟩)
  exact mono _ _ _ h'
section
variable {T : Act → Env → Prop} {i : Nat} {o : Oper} {r : List Oper} {a : Act} {E : Env} {v : Value}
theorem holdY_nil {k : Nat} (h : T a E) : HoldY P ops S T k [] a E := h
theorem holdY_val (hK : KeptE S E) (hE : (E.all fun p => p.1 != i) = true) (hw : Region.wanted o (yielded ops a.tmps) = true) (hv : ∀ w, S w → (execOp a.eval o).run P w = .ok (.value v) w) (h : HoldY P ops S T (i + 1) r (a.put o.dst v) E) : HoldY P ops S T i (o :: r) a E :=
  .inl ⟨v, .inl ⟨hw, fun L w _ hs => ⟨.inl (hv w (env_base hs).2), env_step (Below.refl _ _) hK hE hs⟩⟩, h⟩
theorem holdY_skip (hK : KeptE S E) (hE : (E.all fun p => p.1 != i) = true) (hw : Region.wanted o (yielded ops a.tmps) = false) (h : HoldY P ops S T (i + 1) r (a.put o.dst undef) E) : HoldY P ops S T i (o :: r) a E :=
  .inl ⟨undef, .inr ⟨hw, rfl, fun L w _ hs => env_step (Below.refl _ _) hK hE hs⟩, h⟩
theorem ready_env {n k : Nat} {F : World → Prop} {L : Array Bool} {w : World} (hi : ops[i]? = some o) (hk : (k, F) ∈ E) (hb : o.after.any (fun e => Region.binds .any e && e.on == k) = true) (hr : i ∈ Region.ready .any ops L) (hs : envS n S E L w) : F w := by
  refine env_get hk hs ?_
  have h1 := ready_on hi hr hb
  by_cases hx : k < L.size
  · simp [hx] at h1 ⊢; exact h1
  · simp [Nat.le_of_not_lt hx]
/-- What only reads, with the fact of a result that it waits for. -/
theorem holdY_valE (k : Nat) (F : World → Prop) (hi : ops[i]? = some o) (hk : (k, F) ∈ E) (hb : o.after.any (fun e => Region.binds .any e && e.on == k) = true) (hK : KeptE S E) (hE : (E.all fun p => p.1 != i) = true) (hw : Region.wanted o (yielded ops a.tmps) = true)
    (hv : ∀ w, S w → F w → (execOp a.eval o).run P w = .ok (.value v) w) (h : HoldY P ops S T (i + 1) r (a.put o.dst v) E) : HoldY P ops S T i (o :: r) a E :=
  .inl ⟨v, .inl ⟨hw, fun L w hr hs => ⟨.inl (hv w (env_base hs).2 (ready_env hi hk hb hr hs)), env_step (Below.refl _ _) hK hE hs⟩⟩, h⟩
theorem holdY_call {f : FuncId} {args : Array Value} (hf : isFn o = true) (hK : KeptE S E) (hE : (E.all fun p => p.1 != i) = true) (hw : Region.wanted o (yielded ops a.tmps) = true) (hv : ∀ w, S w → (execOp a.eval o).run P w = .ok (.enter f args) w)
    (hc : ∀ w, S w → Calls P f args w fun e w' => e = .returned v ∧ Below w.heap.size w w') (h : HoldY P ops S T (i + 1) r (a.put o.dst v) E) : HoldY P ops S T i (o :: r) a E :=
  .inr (.inl ⟨v, ⟨hw, hf, fun L w _ hs => ⟨f, args, hv w (env_base hs).2, (hc w (env_base hs).2).mono fun e w' ⟨he, hb⟩ => ⟨he, env_step hb hK hE hs⟩⟩⟩, h⟩)
/-- A call of two results that hang on the world. -/
theorem holdY_call2 {f : FuncId} {args : Array Value} (k1 k2 : Nat) (F1 F2 : World → Prop) (hi : ops[i]? = some o) (hk1 : (k1, F1) ∈ E) (hk2 : (k2, F2) ∈ E) (hb1 : o.after.any (fun e => Region.binds .any e && e.on == k1) = true) (hb2 : o.after.any (fun e => Region.binds .any e && e.on == k2) = true)
    (hf : isFn o = true) (hK : KeptE S E) (hE : (E.all fun p => p.1 != i) = true) (hw : Region.wanted o (yielded ops a.tmps) = true) (hv : ∀ w, S w → (execOp a.eval o).run P w = .ok (.enter f args) w)
    (hc : ∀ w, S w → F1 w → F2 w → Calls P f args w fun e w' => e = .returned v ∧ Below w.heap.size w w') (h : HoldY P ops S T (i + 1) r (a.put o.dst v) E) : HoldY P ops S T i (o :: r) a E :=
  .inr (.inl ⟨v, ⟨hw, hf, fun L w hr hs => ⟨f, args, hv w (env_base hs).2, (hc w (env_base hs).2 (ready_env hi hk1 hb1 hr hs) (ready_env hi hk2 hb2 hr hs)).mono fun e w' ⟨he, hb⟩ => ⟨he, env_step hb hK hE hs⟩⟩⟩, h⟩)
/-- A call whose result hangs on the world. -/
theorem holdY_some {f : FuncId} {args : Array Value} (F : Value → World → Prop) (hF : ∀ v, Kept (F v)) (hf : isFn o = true) (hK : KeptE S E) (hE : (E.all fun p => p.1 != i) = true) (hw : Region.wanted o (yielded ops a.tmps) = true) (hv : ∀ w, S w → (execOp a.eval o).run P w = .ok (.enter f args) w)
    (hc : ∀ w, S w → Calls P f args w fun e w' => ∃ v, e = .returned v ∧ F v w' ∧ Below w.heap.size w w') (h : ∀ v, KeptE S ((i, F v) :: E) → HoldY P ops S T (i + 1) r (a.put o.dst v) ((i, F v) :: E)) : HoldY P ops S T i (o :: r) a E :=
  .inr (.inr ⟨F, ⟨hw, hf, fun L w _ hs => ⟨f, args, hv w (env_base hs).2, (hc w (env_base hs).2).mono fun e w' ⟨v, he, hF, hb⟩ => ⟨v, he, env_step hb hK hE hs, hF⟩⟩⟩, fun v => h v ⟨hK.1, fun p hp => by
    rcases List.mem_cons.1 hp with rfl | hp
    · exact hF v
    · exact hK.2 p hp⟩⟩)
end
/-- The frame behind a name. -/
theorem holdY_env {T : Act → Env → Prop} {i : Nat} {l : List Oper} {a : Act} {E : Env} (h : ∀ A, A = a → HoldY P ops S T i l A E) : HoldY P ops S T i l a E := h a rfl
end
end Go.Proofs.YtgooepfhapaenaaGreat
/- A region that draws its order and holds calls whose results hang on the world and slices written out (which may be made ahead of an earlier call): taken in the text's order. Conditions: as stated. -/
namespace Go.Proofs.YtgooepfhapaenaaGreat
open Go.RowKit
set_option linter.unusedVariables false

/-- A slice written out. -/
def isMk (o : Oper) : Bool := match o.op with
  | .buildSlice _ _ _ => true
  | _ => false
section
variable {P : Program} {ops : Array Oper} {Q : Exit → Act → World → Prop} {G : Nat → Value → World → Prop}
/-- What only reads, or is not wanted. -/
def StR (P : Program) (ops : Array Oper) (S : Array Bool → World → Prop) (i : Nat) (o : Oper) (v : Value) (a : Act) : Prop :=
  (Region.wanted o (yielded ops a.tmps) = true ∧ isMk o = false ∧ ∀ L w, i ∈ Region.ready .any ops L → S L w → ((execOp a.eval o).run P w = .ok (.value v) w ∨ ((execOp a.eval o).run P w = .ok .skip w ∧ v = undef)) ∧ S (L.setIfInBounds i true) w) ∨
  (Region.wanted o (yielded ops a.tmps) = false ∧ v = undef ∧ ∀ L w, i ∈ Region.ready .any ops L → S L w → S (L.setIfInBounds i true) w)
/-- A call that yields one value. -/
def StC (P : Program) (ops : Array Oper) (S : Array Bool → World → Prop) (i : Nat) (o : Oper) (v : Value) (a : Act) : Prop :=
  Region.wanted o (yielded ops a.tmps) = true ∧ isFn o = true ∧ ∀ L w, i ∈ Region.ready .any ops L → S L w → ∃ f args, (execOp a.eval o).run P w = .ok (.enter f args) w ∧ Calls P f args w fun e w' => e = .returned v ∧ Below w.heap.size w w' ∧ S (L.setIfInBounds i true) w'
/-- A call that yields any value of which something is known. -/
def StE (P : Program) (ops : Array Oper) (S : Array Bool → World → Prop) (i : Nat) (o : Oper) (F : Value → World → Prop) (a : Act) : Prop :=
  Region.wanted o (yielded ops a.tmps) = true ∧ isFn o = true ∧ ∀ L w, i ∈ Region.ready .any ops L → S L w → ∃ f args, (execOp a.eval o).run P w = .ok (.enter f args) w ∧ Calls P f args w fun e w' => ∃ v, e = .returned v ∧ Below w.heap.size w w' ∧ S (L.setIfInBounds i true) w' ∧ F v w'
/-- A slice that is made. -/
def StM (P : Program) (ops : Array Oper) (S : Array Bool → World → Prop) (i : Nat) (o : Oper) (F : Value → World → Prop) (a : Act) : Prop :=
  Region.wanted o (yielded ops a.tmps) = true ∧ isMk o = true ∧ ∀ L w, i ∈ Region.ready .any ops L → S L w → ∃ v w', (execOp a.eval o).run P w = .ok (.value v) w' ∧ Below w.heap.size w w' ∧ S (L.setIfInBounds i true) w' ∧ F v w'
theorem mk_fn {o : Oper} (h : isMk o = true) : isFn o = false := by
  unfold isMk at h
  unfold isFn
  split at h
  · rename_i he; rw [he]
  · cases h
theorem plusS_swap (S : Array Bool → World → Prop) (i j : Nat) (F F' : World → Prop) : plusS (plusS S i F) j F' = plusS (plusS S j F') i F := by
  funext L w
  exact propext ⟨fun h => ⟨⟨h.1.1, h.2⟩, h.1.2⟩, fun h => ⟨⟨h.1.1, h.2⟩, h.1.2⟩⟩
section
variable {S : Array Bool → World → Prop} {i j : Nat} {o : Oper} {v : Value} {a a' : Act} {F : Value → World → Prop} {F' : World → Prop}
theorem StR.of_same (hy : StR P ops S i o v a) (he : execOp a'.eval o = execOp a.eval o) (hw : Region.wanted o (yielded ops a'.tmps) = Region.wanted o (yielded ops a.tmps)) : StR P ops S i o v a' := by
  unfold StR at *; rw [he, hw]; exact hy
theorem StC.of_same (hy : StC P ops S i o v a) (he : execOp a'.eval o = execOp a.eval o) (hw : Region.wanted o (yielded ops a'.tmps) = Region.wanted o (yielded ops a.tmps)) : StC P ops S i o v a' := by
  unfold StC at *; rw [he, hw]; exact hy
theorem StE.of_same (hy : StE P ops S i o F a) (he : execOp a'.eval o = execOp a.eval o) (hw : Region.wanted o (yielded ops a'.tmps) = Region.wanted o (yielded ops a.tmps)) : StE P ops S i o F a' := by
  unfold StE at *; rw [he, hw]; exact hy
theorem StM.of_same (hy : StM P ops S i o F a) (he : execOp a'.eval o = execOp a.eval o) (hw : Region.wanted o (yielded ops a'.tmps) = Region.wanted o (yielded ops a.tmps)) : StM P ops S i o F a' := by
  unfold StM at *; rw [he, hw]; exact hy
theorem StR.more (hy : StR P ops S i o v a) (hij : i ≠ j) : StR P ops (plusS S j F') i o v a := by
  rcases hy with ⟨hw, hm, h⟩ | ⟨hw, hv, h⟩
  · refine .inl ⟨hw, hm, fun L w hr hS => ⟨(h L w hr hS.1).1, (h L w hr hS.1).2, ?_⟩⟩
    rw [getD_set_ne true hij]; exact hS.2
  · refine .inr ⟨hw, hv, fun L w hr hS => ⟨h L w hr hS.1, ?_⟩⟩
    rw [getD_set_ne true hij]; exact hS.2
theorem plus_step (hK : Kept F') (hij : i ≠ j) {L : Array Bool} {w w' : World} (hS : L.getD j true = true → F' w) (hb : Below w.heap.size w w') : (L.setIfInBounds i true).getD j true = true → F' w' := by
  rw [getD_set_ne true hij]; exact fun h => hK _ _ (hS h) hb
theorem StC.more (hy : StC P ops S i o v a) (hK : Kept F') (hij : i ≠ j) : StC P ops (plusS S j F') i o v a := by
  refine ⟨hy.1, hy.2.1, fun L w hr hS => ?_⟩
  obtain ⟨f, args, h1, h2⟩ := hy.2.2 L w hr hS.1
  exact ⟨f, args, h1, h2.mono fun e w' ⟨he, hb, hs⟩ => ⟨he, hb, hs, plus_step hK hij hS.2 hb⟩⟩
theorem StE.more (hy : StE P ops S i o F a) (hK : Kept F') (hij : i ≠ j) : StE P ops (plusS S j F') i o F a := by
  refine ⟨hy.1, hy.2.1, fun L w hr hS => ?_⟩
  obtain ⟨f, args, h1, h2⟩ := hy.2.2 L w hr hS.1
  exact ⟨f, args, h1, h2.mono fun e w' ⟨v, he, hb, hs, hF⟩ => ⟨v, he, hb, ⟨hs, plus_step hK hij hS.2 hb⟩, hF⟩⟩
theorem StM.more (hy : StM P ops S i o F a) (hK : Kept F') (hij : i ≠ j) : StM P ops (plusS S j F') i o F a := by
  refine ⟨hy.1, hy.2.1, fun L w hr hS => ?_⟩
  obtain ⟨v, w', h1, hb, hs, hF⟩ := hy.2.2 L w hr hS.1
  exact ⟨v, w', h1, hb, ⟨hs, plus_step hK hij hS.2 hb⟩, hF⟩
end
/-- The operations that are left, in the text's order. -/
def HoldZ (P : Program) (ops : Array Oper) (G : Nat → Value → World → Prop) (T : Act → (Array Bool → World → Prop) → Prop) : List Nat → Act → (Array Bool → World → Prop) → Prop
  | [], a, S => T a S
  | i :: r, a, S => ∃ o, ops[i]? = some o ∧ ((∃ v, StR P ops S i o v a ∧ HoldZ P ops G T r (a.put o.dst v) S) ∨ (∃ v, StC P ops S i o v a ∧ HoldZ P ops G T r (a.put o.dst v) S) ∨
      (∃ F : Value → World → Prop, StE P ops S i o F a ∧ ∀ v, HoldZ P ops G T r (a.put o.dst v) (plusS S i (F v))) ∨ (StM P ops S i o (G i) a ∧ ∀ v, HoldZ P ops G T r (a.put o.dst v) (plusS S i (G i v))))
/-- What becomes of number j, no call, taken now. -/
def OutN (P : Program) (ops : Array Oper) (G : Nat → Value → World → Prop) (T : Act → (Array Bool → World → Prop) → Prop) (L : Array Bool) (w : World) (j : Nat) (o : Oper) (l : List Nat) (a : Act) (S : Array Bool → World → Prop) : Prop :=
  (∃ v, ((Region.wanted o (yielded ops a.tmps) = true ∧ isMk o = false ∧ ((execOp a.eval o).run P w = .ok (.value v) w ∨ ((execOp a.eval o).run P w = .ok .skip w ∧ v = undef))) ∨ (Region.wanted o (yielded ops a.tmps) = false ∧ v = undef)) ∧ S (L.setIfInBounds j true) w ∧ HoldZ P ops G T l (a.put o.dst v) S) ∨
  (Region.wanted o (yielded ops a.tmps) = true ∧ isMk o = true ∧ ∃ v w', (execOp a.eval o).run P w = .ok (.value v) w' ∧ Below w.heap.size w w' ∧ S (L.setIfInBounds j true) w' ∧ G j v w' ∧ HoldZ P ops G T l (a.put o.dst v) (plusS S j (G j v)))
theorem HoldZ.pickN {T : Act → (Array Bool → World → Prop) → Prop} (hsel : Region.noSelect ops = true) (hG : ∀ j v, Kept (G j v)) {L : Array Bool} {w : World} {j : Nat} {oj : Oper} (hj : ops[j]? = some oj) (hnf : isFn oj = false) (hr : j ∈ Region.ready .any ops L) {l2 : List Nat} :
    ∀ (l1 : List Nat) (a : Act) (S : Array Bool → World → Prop), (∀ i ∈ l1, i ≠ j ∧ L.getD i true = false ∧ ∀ oi, ops[i]? = some oi → oi.apart ops oj = true) → S L w → HoldZ P ops G T (l1 ++ j :: l2) a S →
      OutN P ops G T L w j oj (l1 ++ l2) a S
  | [], a, S, _, hS, h => by
    obtain ⟨o, ho, h⟩ := h
    obtain rfl : o = oj := Option.some.inj (ho.symm.trans hj)
    rcases h with ⟨v, hy, h⟩ | ⟨v, ⟨_, hf, _⟩, _⟩ | ⟨F, ⟨_, hf, _⟩, _⟩ | ⟨⟨hw, hm, hy⟩, h⟩
    · rcases hy with ⟨hw, hm, hy⟩ | ⟨hw, hv, hy⟩
      · exact .inl ⟨v, .inl ⟨hw, hm, (hy L w hr hS).1⟩, (hy L w hr hS).2, h⟩
      · exact .inl ⟨v, .inr ⟨hw, hv⟩, hy L w hr hS, h⟩
    · rw [hnf] at hf; cases hf
    · rw [hnf] at hf; cases hf
    · obtain ⟨v, w', h1, hb, hs, hg⟩ := hy L w hr hS
      exact .inr ⟨hw, hm, v, w', h1, hb, hs, hg, h v⟩
  | i :: l1, a, S, hap, hS, h => by
    obtain ⟨o, ho, h⟩ := h
    obtain ⟨hne, hun, hio⟩ := hap i (by simp)
    have hapt := hio o ho
    obtain ⟨h1, h2', h3⟩ := Oper.apart_spec hapt
    have hso := Region.noSelect_spec hsel i o
    have hsj := Region.noSelect_spec hsel j oj
    have hap' : ∀ k ∈ l1, k ≠ j ∧ L.getD k true = false ∧ ∀ oi, ops[k]? = some oi → oi.apart ops oj = true := fun k hk => hap k (by simp [hk])
    have ej : ∀ v, execOp (a.put o.dst v).eval oj = execOp a.eval oj := fun v => execOp_put oj (fun cs b => hsj cs b hj) a o.dst v h1
    have wj : ∀ v, Region.wanted oj (yielded ops (a.put o.dst v).tmps) = Region.wanted oj (yielded ops a.tmps) := fun v => wanted_put oj a o.dst v h1
    have ei : ∀ u, execOp (a.put oj.dst u).eval o = execOp a.eval o := fun u => execOp_put o (fun cs b => hso cs b ho) a oj.dst u h3
    have wi : ∀ u, Region.wanted o (yielded ops (a.put oj.dst u).tmps) = Region.wanted o (yielded ops a.tmps) := fun u => wanted_put o a oj.dst u h3
    have cm : ∀ v u, (a.put o.dst v).put oj.dst u = (a.put oj.dst u).put o.dst v := fun v u => Act.put_comm a v u (fun d hd hd2 => h2' d hd hd2)
    -- one value: the same for reads and for calls
    have one : ∀ v, OutN P ops G T L w j oj (l1 ++ l2) (a.put o.dst v) S → (∀ u, StR P ops S i o v (a.put oj.dst u) ∨ StC P ops S i o v (a.put oj.dst u)) → (∀ u, StR P ops (plusS S j (G j u)) i o v (a.put oj.dst u) ∨ StC P ops (plusS S j (G j u)) i o v (a.put oj.dst u)) → OutN P ops G T L w j oj (i :: l1 ++ l2) a S := fun v ih hA hB => by
      unfold OutN at ih
      rw [ej, wj] at ih
      rcases ih with ⟨u, hu, hs, hh⟩ | ⟨hw, hm, u, w', hu, hb, hs, hg, hh⟩
      · refine .inl ⟨u, hu, hs, o, ho, ?_⟩
        rw [cm] at hh
        rcases hA u with h | h
        · exact .inl ⟨v, h, hh⟩
        · exact .inr (.inl ⟨v, h, hh⟩)
      · refine .inr ⟨hw, hm, u, w', hu, hb, hs, hg, o, ho, ?_⟩
        rw [cm] at hh
        rcases hB u with h | h
        · exact .inl ⟨v, h, hh⟩
        · exact .inr (.inl ⟨v, h, hh⟩)
    -- any value
    have any : ∀ (F : Value → World → Prop), (∀ v, OutN P ops G T L w j oj (l1 ++ l2) (a.put o.dst v) (plusS S i (F v))) →
        (∃ u, ((Region.wanted oj (yielded ops a.tmps) = true ∧ isMk oj = false ∧ ((execOp a.eval oj).run P w = .ok (.value u) w ∨ ((execOp a.eval oj).run P w = .ok .skip w ∧ u = undef))) ∨ (Region.wanted oj (yielded ops a.tmps) = false ∧ u = undef)) ∧ S (L.setIfInBounds j true) w ∧ ∀ v, HoldZ P ops G T (l1 ++ l2) ((a.put oj.dst u).put o.dst v) (plusS S i (F v))) ∨
        (Region.wanted oj (yielded ops a.tmps) = true ∧ isMk oj = true ∧ ∃ u w', (execOp a.eval oj).run P w = .ok (.value u) w' ∧ Below w.heap.size w w' ∧ S (L.setIfInBounds j true) w' ∧ G j u w' ∧ ∀ v, HoldZ P ops G T (l1 ++ l2) ((a.put oj.dst u).put o.dst v) (plusS (plusS S j (G j u)) i (F v))) := fun F ih => by
      have key : ∀ v, (∃ u, ((Region.wanted oj (yielded ops a.tmps) = true ∧ isMk oj = false ∧ ((execOp a.eval oj).run P w = .ok (.value u) w ∨ ((execOp a.eval oj).run P w = .ok .skip w ∧ u = undef))) ∨ (Region.wanted oj (yielded ops a.tmps) = false ∧ u = undef)) ∧ S (L.setIfInBounds j true) w ∧ HoldZ P ops G T (l1 ++ l2) ((a.put oj.dst u).put o.dst v) (plusS S i (F v))) ∨
          (Region.wanted oj (yielded ops a.tmps) = true ∧ isMk oj = true ∧ ∃ u w', (execOp a.eval oj).run P w = .ok (.value u) w' ∧ Below w.heap.size w w' ∧ S (L.setIfInBounds j true) w' ∧ G j u w' ∧ HoldZ P ops G T (l1 ++ l2) ((a.put oj.dst u).put o.dst v) (plusS (plusS S j (G j u)) i (F v))) := fun v => by
        have ihv := ih v
        unfold OutN at ihv
        rw [ej, wj] at ihv
        rcases ihv with ⟨u, hu, hs, hh⟩ | ⟨hw, hm, u, w', hu, hb, hs, hg, hh⟩
        · exact .inl ⟨u, hu, hs.1, by rw [← cm]; exact hh⟩
        · exact .inr ⟨hw, hm, u, w', hu, hb, hs.1, hg, by rw [← cm, ← plusS_swap]; exact hh⟩
      rcases key undef with ⟨u, hu, hs, _⟩ | ⟨hw, hm, u, w', hu, hb, hs, hg, _⟩
      · refine .inl ⟨u, hu, hs, fun v => ?_⟩
        rcases key v with ⟨u', hu', _, hh⟩ | ⟨hw', hm', u', w', hu', _⟩
        · have : u' = u := by
            rcases hu with ⟨hw, _, hu⟩ | ⟨hw, hu⟩ <;> rcases hu' with ⟨hw', _, hu'⟩ | ⟨hw', hu'⟩
            · rcases hu with hu | ⟨hu, e⟩ <;> rcases hu' with hu' | ⟨hu', e'⟩
              · rw [hu] at hu'; cases hu'; rfl
              · rw [hu] at hu'; cases hu'
              · rw [hu] at hu'; cases hu'
              · rw [e, e']
            · rw [hw] at hw'; cases hw'
            · rw [hw] at hw'; cases hw'
            · rw [hu, hu']
          rw [← this]; exact hh
        · rcases hu with ⟨_, hm, _⟩ | ⟨hw, _⟩
          · rw [hm] at hm'; cases hm'
          · rw [hw] at hw'; cases hw'
      · refine .inr ⟨hw, hm, u, w', hu, hb, hs, hg, fun v => ?_⟩
        rcases key v with ⟨u', hu', _, hh⟩ | ⟨hw', hm', u', w2, hu', hb', hs', hg', hh⟩
        · rcases hu' with ⟨_, hm', _⟩ | ⟨hw', _⟩
          · rw [hm] at hm'; cases hm'
          · rw [hw] at hw'; cases hw'
        · rw [hu] at hu'
          cases hu'
          exact hh
    rcases h with ⟨v, hy, h⟩ | ⟨v, hy, h⟩ | ⟨F, hy, h⟩ | ⟨hy, h⟩
    · exact one v (HoldZ.pickN hsel hG hj hnf hr l1 _ S hap' hS h) (fun u => .inl (hy.of_same (ei u) (wi u))) (fun u => .inl ((hy.of_same (ei u) (wi u)).more hne))
    · exact one v (HoldZ.pickN hsel hG hj hnf hr l1 _ S hap' hS h) (fun u => .inr (hy.of_same (ei u) (wi u))) (fun u => .inr ((hy.of_same (ei u) (wi u)).more (hG j u) hne))
    · rcases any F (fun v => HoldZ.pickN hsel hG hj hnf hr l1 _ (plusS S i (F v)) hap' ⟨hS, fun e => by rw [hun] at e; cases e⟩ (h v)) with ⟨u, hu, hs, hh⟩ | ⟨hw, hm, u, w', hu, hb, hs, hg, hh⟩
      · exact .inl ⟨u, hu, hs, o, ho, .inr (.inr (.inl ⟨F, hy.of_same (ei u) (wi u), hh⟩))⟩
      · exact .inr ⟨hw, hm, u, w', hu, hb, hs, hg, o, ho, .inr (.inr (.inl ⟨F, (hy.of_same (ei u) (wi u)).more (hG j u) hne, hh⟩))⟩
    · rcases any (G i) (fun v => HoldZ.pickN hsel hG hj hnf hr l1 _ (plusS S i (G i v)) hap' ⟨hS, fun e => by rw [hun] at e; cases e⟩ (h v)) with ⟨u, hu, hs, hh⟩ | ⟨hw, hm, u, w', hu, hb, hs, hg, hh⟩
      · exact .inl ⟨u, hu, hs, o, ho, .inr (.inr (.inr ⟨hy.of_same (ei u) (wi u), hh⟩))⟩
      · exact .inr ⟨hw, hm, u, w', hu, hb, hs, hg, o, ho, .inr (.inr (.inr ⟨(hy.of_same (ei u) (wi u)).more (hG j u) hne, hh⟩))⟩
/-- What becomes of number j, a call, taken now. -/
def OutF (P : Program) (ops : Array Oper) (G : Nat → Value → World → Prop) (T : Act → (Array Bool → World → Prop) → Prop) (L : Array Bool) (w : World) (j : Nat) (o : Oper) (l : List Nat) (a : Act) (S : Array Bool → World → Prop) : Prop :=
  (∃ v, ((Region.wanted o (yielded ops a.tmps) = true ∧ ((execOp a.eval o).run P w = .ok (.value v) w ∨ ((execOp a.eval o).run P w = .ok .skip w ∧ v = undef))) ∨ (Region.wanted o (yielded ops a.tmps) = false ∧ v = undef)) ∧ S (L.setIfInBounds j true) w ∧ HoldZ P ops G T l (a.put o.dst v) S) ∨
  (Region.wanted o (yielded ops a.tmps) = true ∧ ∃ v f args, (execOp a.eval o).run P w = .ok (.enter f args) w ∧ (Calls P f args w fun e w' => e = .returned v ∧ S (L.setIfInBounds j true) w') ∧ HoldZ P ops G T l (a.put o.dst v) S) ∨
  (Region.wanted o (yielded ops a.tmps) = true ∧ ∃ (F : Value → World → Prop) (f : FuncId) (args : Array Value), (execOp a.eval o).run P w = .ok (.enter f args) w ∧ (Calls P f args w fun e w' => ∃ v, e = .returned v ∧ S (L.setIfInBounds j true) w' ∧ F v w') ∧ ∀ v, HoldZ P ops G T l (a.put o.dst v) (plusS S j (F v)))
theorem HoldZ.pickF {T : Act → (Array Bool → World → Prop) → Prop} (hsel : Region.noSelect ops = true) {L : Array Bool} {w : World} {j : Nat} {oj : Oper} (hj : ops[j]? = some oj) (hfj : isFn oj = true) (hr : j ∈ Region.ready .any ops L) {l2 : List Nat} :
    ∀ (l1 : List Nat) (a : Act) (S : Array Bool → World → Prop), (∀ i ∈ l1, i ≠ j ∧ L.getD i true = false ∧ ∀ oi, ops[i]? = some oi → oi.apart ops oj = true ∧ isFn oi = false ∧ isMk oi = false) → S L w → HoldZ P ops G T (l1 ++ j :: l2) a S →
      OutF P ops G T L w j oj (l1 ++ l2) a S
  | [], a, S, _, hS, h => by
    obtain ⟨o, ho, h⟩ := h
    obtain rfl : o = oj := Option.some.inj (ho.symm.trans hj)
    rcases h with ⟨v, hy, h⟩ | ⟨v, ⟨hw, hf, hy⟩, h⟩ | ⟨F, ⟨hw, hf, hy⟩, h⟩ | ⟨⟨hw, hm, hy⟩, h⟩
    · rcases hy with ⟨hw, _, hy⟩ | ⟨hw, hv, hy⟩
      · exact .inl ⟨v, .inl ⟨hw, (hy L w hr hS).1⟩, (hy L w hr hS).2, h⟩
      · exact .inl ⟨v, .inr ⟨hw, hv⟩, hy L w hr hS, h⟩
    · obtain ⟨f, args, h1, h2⟩ := hy L w hr hS
      exact .inr (.inl ⟨hw, v, f, args, h1, h2.mono fun e w' ⟨he, _, hs⟩ => ⟨he, hs⟩, h⟩)
    · obtain ⟨f, args, h1, h2⟩ := hy L w hr hS
      exact .inr (.inr ⟨hw, F, f, args, h1, h2.mono fun e w' ⟨v, he, _, hs, hF⟩ => ⟨v, he, hs, hF⟩, h⟩)
    · rw [mk_fn hm] at hfj; cases hfj
  | i :: l1, a, S, hap, hS, h => by
    obtain ⟨o, ho, h⟩ := h
    obtain ⟨hne, hun, hio⟩ := hap i (by simp)
    obtain ⟨hapt, hnf, hnm⟩ := hio o ho
    obtain ⟨h1, h2', h3⟩ := Oper.apart_spec hapt
    have hso := Region.noSelect_spec hsel i o
    have hsj := Region.noSelect_spec hsel j oj
    have hap' : ∀ k ∈ l1, k ≠ j ∧ L.getD k true = false ∧ ∀ oi, ops[k]? = some oi → oi.apart ops oj = true ∧ isFn oi = false ∧ isMk oi = false := fun k hk => hap k (by simp [hk])
    have ej : ∀ v, execOp (a.put o.dst v).eval oj = execOp a.eval oj := fun v => execOp_put oj (fun cs b => hsj cs b hj) a o.dst v h1
    have wj : ∀ v, Region.wanted oj (yielded ops (a.put o.dst v).tmps) = Region.wanted oj (yielded ops a.tmps) := fun v => wanted_put oj a o.dst v h1
    have ei : ∀ u, execOp (a.put oj.dst u).eval o = execOp a.eval o := fun u => execOp_put o (fun cs b => hso cs b ho) a oj.dst u h3
    have wi : ∀ u, Region.wanted o (yielded ops (a.put oj.dst u).tmps) = Region.wanted o (yielded ops a.tmps) := fun u => wanted_put o a oj.dst u h3
    have cm : ∀ v u, (a.put o.dst v).put oj.dst u = (a.put oj.dst u).put o.dst v := fun v u => Act.put_comm a v u (fun d hd hd2 => h2' d hd hd2)
    rcases h with ⟨v, hy, h⟩ | ⟨v, ⟨_, hf, _⟩, _⟩ | ⟨F, ⟨_, hf, _⟩, _⟩ | ⟨⟨_, hm, _⟩, _⟩
    · have ih := HoldZ.pickF hsel hj hfj hr l1 (a.put o.dst v) S hap' hS h
      unfold OutF at ih
      rw [ej, wj] at ih
      rcases ih with ⟨u, hu, hs, hh⟩ | ⟨hw, u, f, args, hu, hc, hh⟩ | ⟨hw, F, f, args, hu, hc, hh⟩
      · exact .inl ⟨u, hu, hs, o, ho, .inl ⟨v, hy.of_same (ei u) (wi u), by rw [← cm]; exact hh⟩⟩
      · exact .inr (.inl ⟨hw, u, f, args, hu, hc, o, ho, .inl ⟨v, hy.of_same (ei u) (wi u), by rw [← cm]; exact hh⟩⟩)
      · exact .inr (.inr ⟨hw, F, f, args, hu, hc, fun u => ⟨o, ho, .inl ⟨v, (hy.of_same (ei u) (wi u)).more hne, by rw [← cm]; exact hh u⟩⟩⟩)
    · rw [hnf] at hf; cases hf
    · rw [hnf] at hf; cases hf
    · rw [hnm] at hm; cases hm
/-- A call of a Go function waits for all calls, and all slices written out, ahead of it in the text. -/
def chainZ (ops : Array Oper) : Bool :=
  let ms := masks ops.toList []
  (List.range ops.size).all fun j => (List.range j).all fun i => match ops[i]?, ops[j]? with
    | some oi, some oj => !(isFn oi || isMk oi) || !isFn oj || (ms.getD j 0).testBit i
    | _, _ => true
theorem chainZ_spec (h : chainZ ops = true) {i j : Nat} {oi oj : Oper} (hij : i < j) (hi : ops[i]? = some oi) (hj : ops[j]? = some oj) (h1 : (isFn oi || isMk oi) = true) (h2 : isFn oj = true) : Anc ops i j := by
  unfold chainZ at h
  simp only at h
  rw [List.all_eq_true] at h
  have h3 := h j (List.mem_range.2 (Array.getElem?_eq_some_iff.1 hj).1)
  rw [List.all_eq_true] at h3
  have h4 := h3 i (List.mem_range.2 hij)
  rw [hi, hj] at h4
  refine masks_spec ops.toList [] 0 (fun j => by simp) rfl (fun j i hh => by simp at hh) j i ?_
  dsimp only at h4
  rw [h1, h2] at h4
  simpa using h4
theorem wpAny_of_holdZ (hsel : Region.noSelect ops = true) (hB : meetB .any ops = true) (hK : backB .any ops = true) (hC : chainZ ops = true) (hG : ∀ j v, Kept (G j v)) {T : Act → (Array Bool → World → Prop) → Prop}
    (hend : ∀ a S L w, L.size = ops.size → leftOf ops.size L = [] → T a S → S L w → Q .normal a w) :
    ∀ (fuel : Nat) (L : Array Bool) (a : Act) (w : World) (S : Array Bool → World → Prop), L.size = ops.size → ClosedL ops L → (leftOf ops.size L).length = fuel → S L w → HoldZ P ops G T (leftOf ops.size L) a S → wpAny P .any ops Q fuel L a w := by
  intro fuel
  induction fuel with
  | zero =>
    intro L a w S hsz hcl hl hS h
    have h0 : leftOf ops.size L = [] := List.eq_nil_of_length_eq_zero hl
    rw [h0] at h
    have hr : Region.ready .any ops L = [] := by
      rw [List.eq_nil_iff_forall_not_mem]
      intro i hi
      obtain ⟨hun, oi, hoi, _⟩ := mem_ready.1 hi
      have : i ∈ leftOf ops.size L := leftOf_mem.2 ⟨(Array.getElem?_eq_some_iff.1 hoi).1, hun⟩
      rw [h0] at this; cases this
    exact ⟨hr, hend a S L w hsz h0 h hS⟩
  | succ fuel ih =>
    intro L a w S hsz hcl hl hS h
    refine ⟨fun h0 => absurd h0 (ready_some hK L hsz (fun e => by rw [e] at hl; cases hl)), fun j hj => ?_⟩
    obtain ⟨hun, oj, hoj, hall⟩ := mem_ready.1 hj
    have hjs : j < ops.size := (Array.getElem?_eq_some_iff.1 hoj).1
    have hmem : j ∈ leftOf ops.size L := leftOf_mem.2 ⟨hjs, hun⟩
    obtain ⟨l1, l2, hsp⟩ := List.append_of_mem hmem
    have hsrt : (leftOf ops.size L).Pairwise (· < ·) := List.Pairwise.filter _ List.pairwise_lt_range
    rw [hsp] at h hsrt
    have hlt : ∀ i ∈ l1, i < j := fun i hi => (List.pairwise_append.1 hsrt).2.2 i hi j (by simp)
    have hj1 : j ∉ l1 := fun e => Nat.lt_irrefl _ (hlt j e)
    have hj2 : j ∉ l2 := fun e => by
      have := (List.pairwise_append.1 hsrt).2.1
      exact Nat.lt_irrefl _ ((List.pairwise_cons.1 this).1 j e)
    have hL : ∀ k, k < ops.size → k < L.size := fun k hk => by rw [hsz]; exact hk
    have hun1 : ∀ i ∈ l1, L.getD i true = false := fun i hi => (leftOf_mem.1 (show i ∈ leftOf ops.size L by rw [hsp]; simp [hi])).2
    have hap1 : ∀ i ∈ l1, ∀ oi, ops[i]? = some oi → oi.apart ops oj = true := fun i hi oi hoi => by
      refine meetB_spec hB (hlt i hi) hoi hoj fun e he hb heq => ?_
      have h1 := hall e he hb
      have h3 := hun1 i hi
      rw [heq] at h1
      have hil : i < L.size := by rw [hsz]; exact (Array.getElem?_eq_some_iff.1 hoi).1
      simp [hil] at h1 h3
      rw [h3] at h1; cases h1
    have hleft : leftOf ops.size (L.setIfInBounds j true) = l1 ++ l2 := by
      have e1 : leftOf ops.size (L.setIfInBounds j true) = (leftOf ops.size L).filter (· ≠ j) := by
        unfold leftOf
        rw [List.filter_filter]
        refine List.filter_congr fun i hi => ?_
        by_cases hij : i = j
        · subst hij
          have : i < L.size := by rw [hsz]; exact hjs
          simp [this]
        · rw [getD_set_ne true (fun e => hij e.symm)]; simp [hij]
      rw [e1, hsp, List.filter_append, List.filter_cons]
      simp only [ne_eq, not_true_eq_false, decide_false]
      have f1 : l1.filter (fun x => decide (¬ x = j)) = l1 := List.filter_eq_self.2 fun x hx => by simp; rintro rfl; exact hj1 hx
      have f2 : l2.filter (fun x => decide (¬ x = j)) = l2 := List.filter_eq_self.2 fun x hx => by simp; rintro rfl; exact hj2 hx
      rw [f1]
      simp only [Bool.false_eq_true, if_false]
      rw [f2]
    have hsz' : (L.setIfInBounds j true).size = ops.size := by simpa using hsz
    have hlen : (leftOf ops.size (L.setIfInBounds j true)).length = fuel := by
      rw [hleft]; rw [hsp] at hl; simp at hl ⊢; omega
    have hcl' : ClosedL ops (L.setIfInBounds j true) := fun k o hk hm e he hb => by
      have done : ∀ q, q < ops.size → L.getD q false = true → (L.setIfInBounds j true).getD q false = true := fun q hq h => by
        by_cases hqj : q = j
        · subst hqj; have := hL q hq; simp [this]
        · rw [getD_set_ne false (fun e => hqj e.symm)]; exact h
      have hks : k < ops.size := (Array.getElem?_eq_some_iff.1 hk).1
      have hes : e.on < ops.size := Nat.lt_trans (backB_spec hK hk e he hb) hks
      refine done _ hes ?_
      by_cases hkj : k = j
      · subst hkj
        obtain rfl : o = oj := Option.some.inj (hk.symm.trans hoj)
        have h1 := hall e he hb
        have := hL _ hes
        simp [this] at h1 ⊢; exact h1
      · rw [getD_set_ne false (fun e => hkj e.symm)] at hm
        exact hcl k o hk hm e he hb
    have go : ∀ v w' S', S' (L.setIfInBounds j true) w' → HoldZ P ops G T (l1 ++ l2) (a.put oj.dst v) S' → wpAny P .any ops Q fuel (L.setIfInBounds j true) (a.put oj.dst v) w' := fun v w' S' hS' hh =>
      ih (L.setIfInBounds j true) (a.put oj.dst v) w' S' hsz' hcl' hlen hS' (by rw [hleft]; exact hh)
    have hjL : j < L.size := hL j hjs
    unfold Go.wpOp
    simp only [hoj]
    cases hfj : isFn oj with
    | false =>
      have hap : ∀ i ∈ l1, i ≠ j ∧ L.getD i true = false ∧ ∀ oi, ops[i]? = some oi → oi.apart ops oj = true := fun i hi => ⟨Nat.ne_of_lt (hlt i hi), hun1 i hi, hap1 i hi⟩
      rcases HoldZ.pickN hsel hG hoj hfj hj l1 a S hap hS h with ⟨v, hu, hs, hh⟩ | ⟨hw, _, v, w', hu, _, hs, hg, hh⟩
      · rcases hu with ⟨hw, _, hu⟩ | ⟨hw, rfl⟩
        · simp only [hw, if_true, Oper.wp]
          refine .inl ?_
          rcases hu with hu | ⟨hu, rfl⟩
          · simp only [hu, Oper.upon]; exact go _ _ _ hs hh
          · simp only [hu, Oper.upon]; exact go _ _ _ hs hh
        · simp only [hw, Bool.false_eq_true, if_false]; exact go _ _ _ hs hh
      · simp only [hw, if_true, Oper.wp]
        refine .inl ?_
        simp only [hu, Oper.upon]
        exact go _ _ _ ⟨hs, fun _ => hg⟩ hh
    | true =>
      have hap : ∀ i ∈ l1, i ≠ j ∧ L.getD i true = false ∧ ∀ oi, ops[i]? = some oi → oi.apart ops oj = true ∧ isFn oi = false ∧ isMk oi = false := fun i hi => ⟨Nat.ne_of_lt (hlt i hi), hun1 i hi, fun oi hoi => ⟨hap1 i hi oi hoi, by
        have hno : (isFn oi || isMk oi) = true → False := fun hx => by
          have h1 := anc_ready hcl (chainZ_spec hC (hlt i hi) hoi hoj hx hfj) hj hL (fun o ho e he hb => Nat.lt_trans (backB_spec hK ho e he hb) hjs)
          have h3 := hun1 i hi
          have hil : i < L.size := by rw [hsz]; exact (Array.getElem?_eq_some_iff.1 hoi).1
          simp [hil] at h1 h3
          rw [h3] at h1; cases h1
        constructor
        · cases hx : isFn oi
          · rfl
          · exact (hno (by rw [hx]; rfl)).elim
        · cases hx : isMk oi
          · rfl
          · exact (hno (by rw [hx]; simp)).elim⟩⟩
      rcases HoldZ.pickF hsel hoj hfj hj l1 a S hap hS h with ⟨v, hu, hs, hh⟩ | ⟨hw, v, f, args, hu, hc, hh⟩ | ⟨hw, F, f, args, hu, hc, hh⟩
      · rcases hu with ⟨hw, hu⟩ | ⟨hw, rfl⟩
        · simp only [hw, if_true, Oper.wp]
          refine .inl ?_
          rcases hu with hu | ⟨hu, rfl⟩
          · simp only [hu, Oper.upon]; exact go _ _ _ hs hh
          · simp only [hu, Oper.upon]; exact go _ _ _ hs hh
        · simp only [hw, Bool.false_eq_true, if_false]; exact go _ _ _ hs hh
      · simp only [hw, if_true, Oper.wp]
        refine .inl ?_
        simp only [hu, Oper.upon]
        exact hc.mono fun e w'' ⟨he, hs⟩ => by subst he; exact go _ _ _ hs hh
      · simp only [hw, if_true, Oper.wp]
        refine .inl ?_
        simp only [hu, Oper.upon]
        exact hc.mono fun e w'' ⟨v, he, hs, hF⟩ => by subst he; exact go _ _ _ ⟨hs, fun _ => hF⟩ (hh v)
def holdZOk (ops : Array Oper) : Bool := Region.noSelect ops && meetB .any ops && backB .any ops && chainZ ops
theorem wp_region_holdZ0 {id : Nat} {l : List Oper} {a : Act} {w : World} (S : Array Bool → World → Prop) (hG : ∀ j v, Kept (G j v)) (hm : P.follows .mixedOrders = true) (hB : holdZOk l.toArray = true)
    (hS : S (Array.replicate l.length false) w.drew) (h : HoldZ P l.toArray G (fun a S => ∀ L w, (∀ i, i < l.length → L.getD i true = true ∧ L.getD i false = true) → S L w → Q .normal a w) (List.range l.length) a S) :
    (Code.region id l.toArray true).wp P Q a w := by
  unfold holdZOk at hB
  simp only [Bool.and_eq_true] at hB
  obtain ⟨⟨⟨h1, h2⟩, h3⟩, h4⟩ := hB
  refine wp_region_any hm ?_
  have hl0 : leftOf l.toArray.size (Array.replicate l.toArray.size false) = List.range l.length := by
    unfold leftOf
    rw [List.filter_eq_self.2]
    · simp
    · intro x hx
      have : x < l.toArray.size := List.mem_range.1 hx
      simp at this
      simp [this]
  refine wpAny_of_holdZ (ops := l.toArray) h1 h2 h3 h4 hG (T := fun a S => ∀ L w, (∀ i, i < l.length → L.getD i true = true ∧ L.getD i false = true) → S L w → Q .normal a w) (fun a S L w hsz hl hT hs => ?_) _ _ _ _ S (by simp) (fun j o ho hm => ?_) (by rw [hl0]; simp) (by simpa using hS) (by rw [hl0]; exact h)
  · refine hT L w (fun i hi => ?_) hs
    have h' : i < L.size := by rw [hsz]; simpa using hi
    by_cases hx : L.getD i true = false
    · have : i ∈ leftOf l.toArray.size L := leftOf_mem.2 ⟨by simpa using hi, hx⟩
      rw [hl] at this; cases this
    · simp [h'] at hx ⊢; exact hx
  · rw [Array.getD_eq_getD_getElem?, Array.getElem?_replicate] at hm
    split at hm <;> cases hm
end
/-! ### The same, with a condition that calls keep -/
section
variable {P : Program} {ops : Array Oper} {Q : Exit → Act → World → Prop} {S : World → Prop} {G : Nat → Value → World → Prop}
/-- The operations from number i on, in the text's order. -/
def HoldW (P : Program) (ops : Array Oper) (G : Nat → Value → World → Prop) (S : World → Prop) (T : Act → Env → Prop) : Nat → List Oper → Act → Env → Prop
  | _, [], a, E => T a E
  | i, o :: r, a, E => (∃ v, StR P ops (envS ops.size S E) i o v a ∧ HoldW P ops G S T (i + 1) r (a.put o.dst v) E) ∨ (∃ v, StC P ops (envS ops.size S E) i o v a ∧ HoldW P ops G S T (i + 1) r (a.put o.dst v) E) ∨
      (∃ F : Value → World → Prop, StE P ops (envS ops.size S E) i o F a ∧ ∀ v, HoldW P ops G S T (i + 1) r (a.put o.dst v) ((i, F v) :: E)) ∨ (StM P ops (envS ops.size S E) i o (G i) a ∧ ∀ v, HoldW P ops G S T (i + 1) r (a.put o.dst v) ((i, G i v) :: E))
theorem HoldW.holdZ {T : Act → Env → Prop} : ∀ (l : List Oper) (i : Nat) (a : Act) (E : Env), (∀ j, l[j]? = ops[i + j]?) → HoldW P ops G S T i l a E →
    HoldZ P ops G (fun a S' => ∃ E, S' = envS ops.size S E ∧ T a E) (List.range' i l.length) a (envS ops.size S E)
  | [], i, a, E, _, h => ⟨E, rfl, h⟩
  | o :: r, i, a, E, hl, h => by
    have ho : ops[i]? = some o := by have := hl 0; simpa using this.symm
    have hr : ∀ j, r[j]? = ops[i + 1 + j]? := fun j => by have := hl (j + 1); simp at this; rw [this]; congr 1; omega
    refine ⟨o, ho, ?_⟩
    rcases h with ⟨v, hy, h⟩ | ⟨v, hy, h⟩ | ⟨F, hy, h⟩ | ⟨hy, h⟩
    · exact .inl ⟨v, hy, HoldW.holdZ r (i + 1) _ E hr h⟩
    · exact .inr (.inl ⟨v, hy, HoldW.holdZ r (i + 1) _ E hr h⟩)
    · exact .inr (.inr (.inl ⟨F, hy, fun v => HoldW.holdZ r (i + 1) _ ((i, F v) :: E) hr (h v)⟩))
    · exact .inr (.inr (.inr ⟨hy, fun v => HoldW.holdZ r (i + 1) _ ((i, G i v) :: E) hr (h v)⟩))
/-- THE BEGINNING. G: what is known of each slice written out. -/
theorem wp_region_holdW {id : Nat} {l : List Oper} {a : Act} {w : World} (G : Nat → Value → World → Prop) (hG : ∀ j v, Kept (G j v)) (S : World → Prop) (hm : P.follows .mixedOrders = true) (hB : holdZOk l.toArray = true) (hK : Kept S) (hS : S w.drew)
    (h : KeptE S [] → HoldW P l.toArray G S (fun a E => ∀ w, S w → (∀ p ∈ E, p.1 < l.length → p.2 w) → Q .normal a w) 0 l a []) : (Code.region id l.toArray true).wp P Q a w := by
  have h' := HoldW.holdZ (ops := l.toArray) l 0 a [] (fun j => by simp) (h ⟨hK, fun p hp => by cases hp⟩)
  rw [← List.range_eq_range'] at h'
  refine wp_region_holdZ0 (envS l.toArray.size S []) hG hm hB ⟨by simp, hS⟩ ?_
  revert h'
  generalize List.range l.length = ns
  generalize envS l.toArray.size S [] = S0
  intro h'
  have mono : ∀ (ns : List Nat) (a : Act) (S' : Array Bool → World → Prop), HoldZ P l.toArray G (fun a S' => ∃ E, S' = envS l.toArray.size S E ∧ ∀ w, S w → (∀ p ∈ E, p.1 < l.length → p.2 w) → Q .normal a w) ns a S' →
      HoldZ P l.toArray G (fun a S => ∀ L w, (∀ i, i < l.length → L.getD i true = true ∧ L.getD i false = true) → S L w → Q .normal a w) ns a S' := by
    intro ns
    induction ns with
    | nil =>
      intro a S' h L w hall hs
      obtain ⟨E, rfl, h⟩ := h
      exact h w (env_base hs).2 (fun p hp hl => env_get hp hs (hall _ hl).1)
    | cons i ns ih =>
      intro a S' h
      obtain ⟨o, ho, h⟩ := h
      refine ⟨o, ho, ?_⟩
      rcases h with ⟨v, hy, h⟩ | ⟨v, hy, h⟩ | ⟨F, hy, h⟩ | ⟨hy, h⟩
      · exact .inl ⟨v, hy, ih _ _ h⟩
      · exact .inr (.inl ⟨v, hy, ih _ _ h⟩)
      · exact .inr (.inr (.inl ⟨F, hy, fun v => ih _ _ (h v)⟩))
      · exact .inr (.inr (.inr ⟨hy, fun v => ih _ _ (h v)⟩))
  exact mono _ _ _ h'
section
variable {T : Act → Env → Prop} {i : Nat} {o : Oper} {r : List Oper} {a : Act} {E : Env} {v : Value}
theorem holdW_nil {k : Nat} (h : T a E) : HoldW P ops G S T k [] a E := h
theorem holdW_val (hm : isMk o = false) (hK : KeptE S E) (hE : (E.all fun p => p.1 != i) = true) (hw : Region.wanted o (yielded ops a.tmps) = true) (hv : ∀ w, S w → (execOp a.eval o).run P w = .ok (.value v) w) (h : HoldW P ops G S T (i + 1) r (a.put o.dst v) E) : HoldW P ops G S T i (o :: r) a E :=
  .inl ⟨v, .inl ⟨hw, hm, fun L w _ hs => ⟨.inl (hv w (env_base hs).2), env_step (Below.refl _ _) hK hE hs⟩⟩, h⟩
theorem holdW_skip (hK : KeptE S E) (hE : (E.all fun p => p.1 != i) = true) (hw : Region.wanted o (yielded ops a.tmps) = false) (h : HoldW P ops G S T (i + 1) r (a.put o.dst undef) E) : HoldW P ops G S T i (o :: r) a E :=
  .inl ⟨undef, .inr ⟨hw, rfl, fun L w _ hs => env_step (Below.refl _ _) hK hE hs⟩, h⟩
theorem holdW_call {f : FuncId} {args : Array Value} (hf : isFn o = true) (hK : KeptE S E) (hE : (E.all fun p => p.1 != i) = true) (hw : Region.wanted o (yielded ops a.tmps) = true) (hv : ∀ w, S w → (execOp a.eval o).run P w = .ok (.enter f args) w)
    (hc : ∀ w, S w → Calls P f args w fun e w' => e = .returned v ∧ Below w.heap.size w w') (h : HoldW P ops G S T (i + 1) r (a.put o.dst v) E) : HoldW P ops G S T i (o :: r) a E :=
  .inr (.inl ⟨v, ⟨hw, hf, fun L w _ hs => ⟨f, args, hv w (env_base hs).2, (hc w (env_base hs).2).mono fun e w' ⟨he, hb⟩ => ⟨he, hb, env_step hb hK hE hs⟩⟩⟩, h⟩)
/-- A call of two results that hang on the world. -/
theorem holdW_call2 {f : FuncId} {args : Array Value} (k1 k2 : Nat) (F1 F2 : World → Prop) (hi : ops[i]? = some o) (hk1 : (k1, F1) ∈ E) (hk2 : (k2, F2) ∈ E) (hb1 : o.after.any (fun e => Region.binds .any e && e.on == k1) = true) (hb2 : o.after.any (fun e => Region.binds .any e && e.on == k2) = true)
    (hf : isFn o = true) (hK : KeptE S E) (hE : (E.all fun p => p.1 != i) = true) (hw : Region.wanted o (yielded ops a.tmps) = true) (hv : ∀ w, S w → (execOp a.eval o).run P w = .ok (.enter f args) w)
    (hc : ∀ w, S w → F1 w → F2 w → Calls P f args w fun e w' => e = .returned v ∧ Below w.heap.size w w') (h : HoldW P ops G S T (i + 1) r (a.put o.dst v) E) : HoldW P ops G S T i (o :: r) a E :=
  .inr (.inl ⟨v, ⟨hw, hf, fun L w hr hs => ⟨f, args, hv w (env_base hs).2, (hc w (env_base hs).2 (ready_env hi hk1 hb1 hr hs) (ready_env hi hk2 hb2 hr hs)).mono fun e w' ⟨he, hb⟩ => ⟨he, hb, env_step hb hK hE hs⟩⟩⟩, h⟩)
/-- A call of one result that hangs on the world. -/
theorem holdW_call1 {f : FuncId} {args : Array Value} (k1 : Nat) (F1 : World → Prop) (hi : ops[i]? = some o) (hk1 : (k1, F1) ∈ E) (hb1 : o.after.any (fun e => Region.binds .any e && e.on == k1) = true)
    (hf : isFn o = true) (hK : KeptE S E) (hE : (E.all fun p => p.1 != i) = true) (hw : Region.wanted o (yielded ops a.tmps) = true) (hv : ∀ w, S w → (execOp a.eval o).run P w = .ok (.enter f args) w)
    (hc : ∀ w, S w → F1 w → Calls P f args w fun e w' => e = .returned v ∧ Below w.heap.size w w') (h : HoldW P ops G S T (i + 1) r (a.put o.dst v) E) : HoldW P ops G S T i (o :: r) a E :=
  .inr (.inl ⟨v, ⟨hw, hf, fun L w hr hs => ⟨f, args, hv w (env_base hs).2, (hc w (env_base hs).2 (ready_env hi hk1 hb1 hr hs)).mono fun e w' ⟨he, hb⟩ => ⟨he, hb, env_step hb hK hE hs⟩⟩⟩, h⟩)
/-- A call whose result hangs on the world. -/
theorem holdW_some {f : FuncId} {args : Array Value} (F : Value → World → Prop) (hF : ∀ v, Kept (F v)) (hf : isFn o = true) (hK : KeptE S E) (hE : (E.all fun p => p.1 != i) = true) (hw : Region.wanted o (yielded ops a.tmps) = true) (hv : ∀ w, S w → (execOp a.eval o).run P w = .ok (.enter f args) w)
    (hc : ∀ w, S w → Calls P f args w fun e w' => ∃ v, e = .returned v ∧ F v w' ∧ Below w.heap.size w w') (h : ∀ v, KeptE S ((i, F v) :: E) → HoldW P ops G S T (i + 1) r (a.put o.dst v) ((i, F v) :: E)) : HoldW P ops G S T i (o :: r) a E :=
  .inr (.inr (.inl ⟨F, ⟨hw, hf, fun L w _ hs => ⟨f, args, hv w (env_base hs).2, (hc w (env_base hs).2).mono fun e w' ⟨v, he, hF, hb⟩ => ⟨v, he, hb, env_step hb hK hE hs, hF⟩⟩⟩, fun v => h v ⟨hK.1, fun p hp => by
    rcases List.mem_cons.1 hp with rfl | hp
    · exact hF v
    · exact hK.2 p hp⟩⟩))
/-- The same, of one result that hangs on the world. -/
theorem holdW_some1 {f : FuncId} {args : Array Value} (k1 : Nat) (F1 : World → Prop) (F : Value → World → Prop) (hF : ∀ v, Kept (F v)) (hi : ops[i]? = some o) (hk1 : (k1, F1) ∈ E) (hb1 : o.after.any (fun e => Region.binds .any e && e.on == k1) = true) (hf : isFn o = true) (hK : KeptE S E) (hE : (E.all fun p => p.1 != i) = true) (hw : Region.wanted o (yielded ops a.tmps) = true) (hv : ∀ w, S w → (execOp a.eval o).run P w = .ok (.enter f args) w)
    (hc : ∀ w, S w → F1 w → Calls P f args w fun e w' => ∃ v, e = .returned v ∧ F v w' ∧ Below w.heap.size w w') (h : ∀ v, KeptE S ((i, F v) :: E) → HoldW P ops G S T (i + 1) r (a.put o.dst v) ((i, F v) :: E)) : HoldW P ops G S T i (o :: r) a E :=
  .inr (.inr (.inl ⟨F, ⟨hw, hf, fun L w hr hs => ⟨f, args, hv w (env_base hs).2, (hc w (env_base hs).2 (ready_env hi hk1 hb1 hr hs)).mono fun e w' ⟨v, he, hF, hb⟩ => ⟨v, he, hb, env_step hb hK hE hs, hF⟩⟩⟩, fun v => h v ⟨hK.1, fun p hp => by
    rcases List.mem_cons.1 hp with rfl | hp
    · exact hF v
    · exact hK.2 p hp⟩⟩))
/-- A slice written out. -/
theorem holdW_make (hG : ∀ v, Kept (G i v)) (hm : isMk o = true) (hK : KeptE S E) (hE : (E.all fun p => p.1 != i) = true) (hw : Region.wanted o (yielded ops a.tmps) = true)
    (hv : ∀ w, S w → ∃ v w', (execOp a.eval o).run P w = .ok (.value v) w' ∧ Below w.heap.size w w' ∧ G i v w') (h : ∀ v, KeptE S ((i, G i v) :: E) → HoldW P ops G S T (i + 1) r (a.put o.dst v) ((i, G i v) :: E)) : HoldW P ops G S T i (o :: r) a E :=
  .inr (.inr (.inr ⟨⟨hw, hm, fun L w _ hs => by
    obtain ⟨v, w', h1, hb, hg⟩ := hv w (env_base hs).2
    exact ⟨v, w', h1, hb, env_step hb hK hE hs, hg⟩⟩, fun v => h v ⟨hK.1, fun p hp => by
    rcases List.mem_cons.1 hp with rfl | hp
    · exact hG v
    · exact hK.2 p hp⟩⟩))
end
end
end Go.Proofs.YtgooepfhapaenaaGreat
/- A region that draws its order up to a number, and keeps the text's order from there on: the first part taken in the text's order with all that hangs on the world, the rest by the ordinary walk. Conditions: as stated. -/
namespace Go.Proofs.YtgooepfhapaenaaGreat
open Go.RowKit
set_option linter.unusedVariables false

section
variable {P : Program} {ops : Array Oper} {Q : Exit → Act → World → Prop} {G : Nat → Value → World → Prop}
theorem wpAny_of_holdZT {n : Nat} (hsel : Region.noSelect ops = true) (hB : meetB .any ops = true) (hK : backB .any ops = true) (hC : chainZ ops = true) (hs : Region.sinkB .any ops n = true) (hch : Region.chainB .any ops n = true) (hn : n < ops.size) (hG : ∀ j v, Kept (G j v)) {T : Act → (Array Bool → World → Prop) → Prop}
    (hend : ∀ a S L w, HeadInv .any ops n L → leftOf n L = [] → T a S → S L w → wpAny P .any ops Q (ops.size - n) L a w) :
    ∀ (fuel : Nat) (L : Array Bool) (a : Act) (w : World) (S : Array Bool → World → Prop), HeadInv .any ops n L → (leftOf n L).length = fuel → S L w → HoldZ P ops G T (leftOf n L) a S → wpAny P .any ops Q (fuel + (ops.size - n)) L a w := by
  intro fuel
  induction fuel with
  | zero =>
    intro L a w S inv hl hS h
    have h0 : leftOf n L = [] := List.eq_nil_of_length_eq_zero hl
    rw [h0] at h
    rw [Nat.zero_add]
    exact hend a S L w inv h0 h hS
  | succ fuel ih =>
    intro L a w S inv hl hS h
    have hsz := inv.size
    have hcl : ClosedL ops L := inv.closed
    obtain ⟨q, hq⟩ : ∃ q, q ∈ leftOf n L := by
      cases hlf : leftOf n L with
      | nil => rw [hlf] at hl; cases hl
      | cons q r => exact ⟨q, by simp⟩
    obtain ⟨hqn, hqu⟩ := leftOf_mem.1 hq
    rw [show fuel + 1 + (ops.size - n) = (fuel + (ops.size - n)) + 1 by omega]
    refine ⟨fun h0 => absurd h0 (ready_some hK L hsz (fun e => by
      have : q ∈ leftOf ops.size L := leftOf_mem.2 ⟨by omega, hqu⟩
      rw [e] at this; cases this)), fun j hj => ?_⟩
    obtain ⟨hun, oj, hoj, hall⟩ := mem_ready.1 hj
    have hjs : j < ops.size := (Array.getElem?_eq_some_iff.1 hoj).1
    have hjn : j < n := by
      rcases Nat.lt_or_ge j n with h' | h'
      · exact h'
      · exact absurd hj (tail_waits hs hch hn inv _ q rfl hqn hqu j h')
    have hmem : j ∈ leftOf n L := leftOf_mem.2 ⟨hjn, hun⟩
    obtain ⟨l1, l2, hsp⟩ := List.append_of_mem hmem
    have hsrt : (leftOf n L).Pairwise (· < ·) := List.Pairwise.filter _ List.pairwise_lt_range
    rw [hsp] at h hsrt
    have hlt : ∀ i ∈ l1, i < j := fun i hi => (List.pairwise_append.1 hsrt).2.2 i hi j (by simp)
    have hj1 : j ∉ l1 := fun e => Nat.lt_irrefl _ (hlt j e)
    have hj2 : j ∉ l2 := fun e => by
      have := (List.pairwise_append.1 hsrt).2.1
      exact Nat.lt_irrefl _ ((List.pairwise_cons.1 this).1 j e)
    have hL : ∀ k, k < ops.size → k < L.size := fun k hk => by rw [hsz]; exact hk
    have hun1 : ∀ i ∈ l1, L.getD i true = false := fun i hi => (leftOf_mem.1 (show i ∈ leftOf n L by rw [hsp]; simp [hi])).2
    have hap1 : ∀ i ∈ l1, ∀ oi, ops[i]? = some oi → oi.apart ops oj = true := fun i hi oi hoi => by
      refine meetB_spec hB (hlt i hi) hoi hoj fun e he hb heq => ?_
      have h1 := hall e he hb
      have h3 := hun1 i hi
      rw [heq] at h1
      have hil : i < L.size := by rw [hsz]; exact (Array.getElem?_eq_some_iff.1 hoi).1
      simp [hil] at h1 h3
      rw [h3] at h1; cases h1
    have hleft : leftOf n (L.setIfInBounds j true) = l1 ++ l2 := by
      have e1 : leftOf n (L.setIfInBounds j true) = (leftOf n L).filter (· ≠ j) := by
        unfold leftOf
        rw [List.filter_filter]
        refine List.filter_congr fun i hi => ?_
        by_cases hij : i = j
        · subst hij
          have : i < L.size := by rw [hsz]; exact hjs
          simp [this]
        · rw [getD_set_ne true (fun e => hij e.symm)]; simp [hij]
      rw [e1, hsp, List.filter_append, List.filter_cons]
      simp only [ne_eq, not_true_eq_false, decide_false]
      have f1 : l1.filter (fun x => decide (¬ x = j)) = l1 := List.filter_eq_self.2 fun x hx => by simp; rintro rfl; exact hj1 hx
      have f2 : l2.filter (fun x => decide (¬ x = j)) = l2 := List.filter_eq_self.2 fun x hx => by simp; rintro rfl; exact hj2 hx
      rw [f1]
      simp only [Bool.false_eq_true, if_false]
      rw [f2]
    have hsz' : (L.setIfInBounds j true).size = ops.size := by simpa using hsz
    have hlen : (leftOf n (L.setIfInBounds j true)).length = fuel := by
      rw [hleft]; rw [hsp] at hl; simp at hl ⊢; omega
    have inv' := inv.set hj hjn
    have go : ∀ v w' S', S' (L.setIfInBounds j true) w' → HoldZ P ops G T (l1 ++ l2) (a.put oj.dst v) S' → wpAny P .any ops Q (fuel + (ops.size - n)) (L.setIfInBounds j true) (a.put oj.dst v) w' := fun v w' S' hS' hh =>
      ih (L.setIfInBounds j true) (a.put oj.dst v) w' S' inv' hlen hS' (by rw [hleft]; exact hh)
    have hjL : j < L.size := hL j hjs
    unfold Go.wpOp
    simp only [hoj]
    cases hfj : isFn oj with
    | false =>
      have hap : ∀ i ∈ l1, i ≠ j ∧ L.getD i true = false ∧ ∀ oi, ops[i]? = some oi → oi.apart ops oj = true := fun i hi => ⟨Nat.ne_of_lt (hlt i hi), hun1 i hi, hap1 i hi⟩
      rcases HoldZ.pickN hsel hG hoj hfj hj l1 a S hap hS h with ⟨v, hu, hs, hh⟩ | ⟨hw, _, v, w', hu, _, hs, hg, hh⟩
      · rcases hu with ⟨hw, _, hu⟩ | ⟨hw, rfl⟩
        · simp only [hw, if_true, Oper.wp]
          refine .inl ?_
          rcases hu with hu | ⟨hu, rfl⟩
          · simp only [hu, Oper.upon]; exact go _ _ _ hs hh
          · simp only [hu, Oper.upon]; exact go _ _ _ hs hh
        · simp only [hw, Bool.false_eq_true, if_false]; exact go _ _ _ hs hh
      · simp only [hw, if_true, Oper.wp]
        refine .inl ?_
        simp only [hu, Oper.upon]
        exact go _ _ _ ⟨hs, fun _ => hg⟩ hh
    | true =>
      have hap : ∀ i ∈ l1, i ≠ j ∧ L.getD i true = false ∧ ∀ oi, ops[i]? = some oi → oi.apart ops oj = true ∧ isFn oi = false ∧ isMk oi = false := fun i hi => ⟨Nat.ne_of_lt (hlt i hi), hun1 i hi, fun oi hoi => ⟨hap1 i hi oi hoi, by
        have hno : (isFn oi || isMk oi) = true → False := fun hx => by
          have h1 := anc_ready hcl (chainZ_spec hC (hlt i hi) hoi hoj hx hfj) hj hL (fun o ho e he hb => Nat.lt_trans (backB_spec hK ho e he hb) hjs)
          have h3 := hun1 i hi
          have hil : i < L.size := by rw [hsz]; exact (Array.getElem?_eq_some_iff.1 hoi).1
          simp [hil] at h1 h3
          rw [h3] at h1; cases h1
        constructor
        · cases hx : isFn oi
          · rfl
          · exact (hno (by rw [hx]; rfl)).elim
        · cases hx : isMk oi
          · rfl
          · exact (hno (by rw [hx]; simp)).elim⟩⟩
      rcases HoldZ.pickF hsel hoj hfj hj l1 a S hap hS h with ⟨v, hu, hs, hh⟩ | ⟨hw, v, f, args, hu, hc, hh⟩ | ⟨hw, F, f, args, hu, hc, hh⟩
      · rcases hu with ⟨hw, hu⟩ | ⟨hw, rfl⟩
        · simp only [hw, if_true, Oper.wp]
          refine .inl ?_
          rcases hu with hu | ⟨hu, rfl⟩
          · simp only [hu, Oper.upon]; exact go _ _ _ hs hh
          · simp only [hu, Oper.upon]; exact go _ _ _ hs hh
        · simp only [hw, Bool.false_eq_true, if_false]; exact go _ _ _ hs hh
      · simp only [hw, if_true, Oper.wp]
        refine .inl ?_
        simp only [hu, Oper.upon]
        exact hc.mono fun e w'' ⟨he, hs⟩ => by subst he; exact go _ _ _ hs hh
      · simp only [hw, if_true, Oper.wp]
        refine .inl ?_
        simp only [hu, Oper.upon]
        exact hc.mono fun e w'' ⟨v, he, hs, hF⟩ => by subst he; exact go _ _ _ ⟨hs, fun _ => hF⟩ (hh v)
/-- The first n are done. -/
def doneTo (s n : Nat) : Array Bool := (List.replicate n true ++ List.replicate (s - n) false).toArray
theorem done_eq {n : Nat} {L : Array Bool} (inv : HeadInv .any ops n L) (hn : n < ops.size) (h : leftOf n L = []) : L = doneTo ops.size n := by
  have hsz := inv.size
  refine Array.ext (by simp [doneTo, hsz]; omega) fun i h1 h2 => ?_
  have hi2 : i < (List.replicate n true ++ List.replicate (ops.size - n) false).length := by
    have := h2; unfold doneTo at this; simpa using this
  have e : (doneTo ops.size n)[i]'h2 = (List.replicate n true ++ List.replicate (ops.size - n) false)[i]'hi2 := rfl
  rw [e]
  rcases Nat.lt_or_ge i n with hi | hi
  · rw [List.getElem_append_left (by simpa using hi)]
    simp only [List.getElem_replicate]
    cases hx : L[i] with
    | true => rfl
    | false =>
      have : i ∈ leftOf n L := leftOf_mem.2 ⟨hi, by simp [h1, hx]⟩
      rw [h] at this; cases this
  · rw [List.getElem_append_right (by simpa using hi)]
    simp only [List.getElem_replicate]
    have := inv.tail i hi (by omega)
    simpa [h1] using this
def holdZTOk (ops : Array Oper) (n : Nat) : Bool := Region.noSelect ops && meetB .any ops && backB .any ops && chainZ ops && decide (n < ops.size) && Region.sinkB .any ops n && Region.chainB .any ops n && Region.seqB .any ops (ops.size - n) n (doneTo ops.size n)
theorem wp_region_holdZT {id : Nat} {l : List Oper} {a : Act} {w : World} (n : Nat) (S : Array Bool → World → Prop) (hG : ∀ j v, Kept (G j v)) (hm : P.follows .mixedOrders = true) (hB : holdZTOk l.toArray n = true)
    (hS : S (Array.replicate l.length false) w.drew) (h : HoldZ P l.toArray G (fun a S => ∀ L w, (∀ i, i < n → L.getD i true = true) → S L w → wpList P l.toArray Q (l.drop n) a w) (List.range n) a S) :
    (Code.region id l.toArray true).wp P Q a w := by
  unfold holdZTOk at hB
  simp only [Bool.and_eq_true, decide_eq_true_eq] at hB
  obtain ⟨⟨⟨⟨⟨⟨⟨h1, h2⟩, h3⟩, h4⟩, h5⟩, h6⟩, h7⟩, h8⟩ := hB
  refine wp_region_any hm ?_
  have hl0 : leftOf n (Array.replicate l.toArray.size false) = List.range n := by
    unfold leftOf
    rw [List.filter_eq_self.2]
    intro x hx
    have : x < n := List.mem_range.1 hx
    have : x < l.length := by simp at h5; omega
    simp [this]
  have inv0 : HeadInv .any l.toArray n (Array.replicate l.toArray.size false) :=
    ⟨by simp, fun j oj _ hl => (by rw [getD_replicate_false] at hl; cases hl), fun t _ ht => getD_in (by simpa using ht) (getD_replicate_false _ _)⟩
  have H := wpAny_of_holdZT (ops := l.toArray) (Q := Q) h1 h2 h3 h4 h6 h7 h5 hG (T := fun a S => ∀ L w, (∀ i, i < n → L.getD i true = true) → S L w → wpList P l.toArray Q (l.drop n) a w) (fun a S L w inv hl hT hs => by
    have hw := hT L w (fun i hi => by
      have h' : i < L.size := by rw [inv.size]; omega
      by_cases hx : L.getD i true = false
      · have : i ∈ leftOf n L := leftOf_mem.2 ⟨hi, hx⟩
        rw [hl] at this; cases this
      · simp [h'] at hx ⊢; exact hx) hs
    have he := done_eq inv h5 hl
    rw [he]
    have hdl : (l.drop n).length = l.toArray.size - n := by simp
    have := wpAny_of_seq (md := .any) (Q' := Q) (l.drop n) n (doneTo l.toArray.size n) a w (fun j => by simp [List.getElem?_drop]) (by rw [hdl]; exact h8) hw
    rwa [hdl] at this) n (Array.replicate l.toArray.size false) a w.drew S inv0 (by rw [hl0]; simp) (by simpa using hS) (by rw [hl0]; exact h)
  rwa [show n + (l.toArray.size - n) = l.toArray.size by omega] at H
end
section
variable {P : Program} {ops : Array Oper} {Q : Exit → Act → World → Prop} {S : World → Prop} {G : Nat → Value → World → Prop}
theorem HoldW.holdZ' {T : Act → Env → Prop} : ∀ (l : List Oper) (i : Nat) (a : Act) (E : Env), (∀ j, j < l.length → l[j]? = ops[i + j]?) → HoldW P ops G S T i l a E →
    HoldZ P ops G (fun a S' => ∃ E, S' = envS ops.size S E ∧ T a E) (List.range' i l.length) a (envS ops.size S E)
  | [], i, a, E, _, h => ⟨E, rfl, h⟩
  | o :: r, i, a, E, hl, h => by
    have ho : ops[i]? = some o := by have := hl 0 (by simp); simpa using this.symm
    have hr : ∀ j, j < r.length → r[j]? = ops[i + 1 + j]? := fun j hj => by have := hl (j + 1) (by simp; omega); simp at this; rw [this]; congr 1; omega
    refine ⟨o, ho, ?_⟩
    rcases h with ⟨v, hy, h⟩ | ⟨v, hy, h⟩ | ⟨F, hy, h⟩ | ⟨hy, h⟩
    · exact .inl ⟨v, hy, HoldW.holdZ' r (i + 1) _ E hr h⟩
    · exact .inr (.inl ⟨v, hy, HoldW.holdZ' r (i + 1) _ E hr h⟩)
    · exact .inr (.inr (.inl ⟨F, hy, fun v => HoldW.holdZ' r (i + 1) _ ((i, F v) :: E) hr (h v)⟩))
    · exact .inr (.inr (.inr ⟨hy, fun v => HoldW.holdZ' r (i + 1) _ ((i, G i v) :: E) hr (h v)⟩))
/-- THE BEGINNING: the first n in the text's order (HoldW's own rules), the rest by the walk. -/
theorem wp_region_holdWT {id : Nat} {l : List Oper} {a : Act} {w : World} (n : Nat) (G : Nat → Value → World → Prop) (hG : ∀ j v, Kept (G j v)) (S : World → Prop) (hm : P.follows .mixedOrders = true) (hB : holdZTOk l.toArray n = true) (hK : Kept S) (hS : S w.drew)
    (h : KeptE S [] → HoldW P l.toArray G S (fun a E => ∀ w, S w → (∀ p ∈ E, p.1 < n → p.2 w) → wpList P l.toArray Q (l.drop n) a w) 0 (l.take n) a []) : (Code.region id l.toArray true).wp P Q a w := by
  have hn : n < l.length := by
    unfold holdZTOk at hB
    simp only [Bool.and_eq_true, decide_eq_true_eq] at hB
    simpa using hB.1.1.1.2
  have htl : (l.take n).length = n := by simp; omega
  have h' := HoldW.holdZ' (ops := l.toArray) (l.take n) 0 a [] (fun j hj => by
    have : j < n := by rw [htl] at hj; exact hj
    simp [this]) (h ⟨hK, fun p hp => by cases hp⟩)
  rw [htl, ← List.range_eq_range'] at h'
  refine wp_region_holdZT n (envS l.toArray.size S []) hG hm hB ⟨by simp, hS⟩ ?_
  revert h'
  generalize List.range n = ns
  generalize envS l.toArray.size S [] = S0
  intro h'
  have mono : ∀ (ns : List Nat) (a : Act) (S' : Array Bool → World → Prop), HoldZ P l.toArray G (fun a S' => ∃ E, S' = envS l.toArray.size S E ∧ ∀ w, S w → (∀ p ∈ E, p.1 < n → p.2 w) → wpList P l.toArray Q (l.drop n) a w) ns a S' →
      HoldZ P l.toArray G (fun a S => ∀ L w, (∀ i, i < n → L.getD i true = true) → S L w → wpList P l.toArray Q (l.drop n) a w) ns a S' := by
    intro ns
    induction ns with
    | nil =>
      intro a S' h L w hall hs
      obtain ⟨E, rfl, h⟩ := h
      exact h w (env_base hs).2 (fun p hp hl => env_get hp hs (hall _ hl))
    | cons i ns ih =>
      intro a S' h
      obtain ⟨o, ho, h⟩ := h
      refine ⟨o, ho, ?_⟩
      rcases h with ⟨v, hy, h⟩ | ⟨v, hy, h⟩ | ⟨F, hy, h⟩ | ⟨hy, h⟩
      · exact .inl ⟨v, hy, ih _ _ h⟩
      · exact .inr (.inl ⟨v, hy, ih _ _ h⟩)
      · exact .inr (.inr (.inl ⟨F, hy, fun v => ih _ _ (h v)⟩))
      · exact .inr (.inr (.inr ⟨hy, fun v => ih _ _ (h v)⟩))
  exact mono _ _ _ h'
end
end Go.Proofs.YtgooepfhapaenaaGreat
