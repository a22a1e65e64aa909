/- A region that draws its order: reads in any order, new blocks in any order, and stores of whole rows into them, each behind all new blocks and all stores ahead of it: the reads once, in the text's order; then the new blocks, in each order; then the stores. Conditions: as stated. -/
import Derived.Test.YtgooepfhapaenaaGreatHolds
import Derived.StillTail
import Derived.Test.YtgooepfhapaenaaGreatKit
import Derived.Laws.Rows
namespace Go.Proofs.YtgooepfhapaenaaGreat
open Go.RowKit
set_option linter.unusedVariables false

section
variable {P : Program} {ops : Array Oper} {Q : Exit → Act → World → Prop} {S : World → Prop} {obj : Nat → Obj}
/-- What only reads, or is not wanted. -/
def StT (P : Program) (S : World → Prop) (o : Oper) (v : Value) (a : Act) (ops : Array Oper) : Prop :=
  (Region.wanted o (yielded ops a.tmps) = true ∧ ∀ w, S w → (execOp a.eval o).run P w = .ok (.value v) w ∨ ((execOp a.eval o).run P w = .ok .skip w ∧ v = undef)) ∨
  (Region.wanted o (yielded ops a.tmps) = false ∧ v = undef)
theorem StT.of_same {o : Oper} {v : Value} {a a' : Act} (hy : StT P S o v a ops) (he : execOp a'.eval o = execOp a.eval o) (hw : Region.wanted o (yielded ops a'.tmps) = Region.wanted o (yielded ops a.tmps)) : StT P S o v a' ops := by
  unfold StT at *; rw [he, hw]; exact hy
def ptrN (w : World) : Value := .pointer (some ⟨w.heap.size, 0, none⟩)
/-- A new block, whatever the frame. -/
def NewAt (P : Program) (ops : Array Oper) (S : World → Prop) (obj : Nat → Obj) (i : Nat) : Prop :=
  ∀ o, ops[i]? = some o → ∀ a : Act, Region.wanted o (yielded ops a.tmps) = true ∧ ∀ w, S w → (execOp a.eval o).run P w = .ok (.value (ptrN w)) (w.alloc (obj i))
def dstOf (ops : Array Oper) (i : Nat) : Option Tmp := match ops[i]? with | some o => o.dst | none => none
/-- The reads that are left, in the text's order. -/
def ReadsL (P : Program) (ops : Array Oper) (S : World → Prop) : List Nat → Act → (Act → Prop) → Prop
  | [], a, T => T a
  | i :: r, a, T => ∃ o v, ops[i]? = some o ∧ StT P S o v a ops ∧ ReadsL P ops S r (a.put o.dst v) T
/-- Each order of the new blocks that are left. -/
def NewsL (ops : Array Oper) (obj : Nat → Obj) : Nat → List Nat → Act → World → (Act → World → Prop) → Prop
  | 0, _, a, w, T => T a w
  | f + 1, ml, a, w, T => ∀ m ∈ ml, NewsL ops obj f (ml.erase m) (a.put (dstOf ops m) (ptrN w)) (w.alloc (obj m)) T
theorem ReadsL.mono {T T' : Act → Prop} (h : ∀ a, T a → T' a) : ∀ (l : List Nat) (a : Act), ReadsL P ops S l a T → ReadsL P ops S l a T'
  | [], a, hh => h a hh
  | i :: r, a, hh => by
    obtain ⟨o, v, h1, h2, h3⟩ := hh
    exact ⟨o, v, h1, h2, ReadsL.mono h r _ h3⟩
/-- A read, taken out of its turn. -/
theorem ReadsL.pick {T : Act → Prop} (hsel : Region.noSelect ops = true) {j : Nat} {oj : Oper} (hj : ops[j]? = some oj) {l2 : List Nat} :
    ∀ (l1 : List Nat) (a : Act), (∀ i ∈ l1, ∀ oi, ops[i]? = some oi → oi.apart ops oj = true) → ReadsL P ops S (l1 ++ j :: l2) a T → ∃ v, StT P S oj v a ops ∧ ReadsL P ops S (l1 ++ l2) (a.put oj.dst v) T
  | [], a, _, h => by
    obtain ⟨o, v, ho, hy, h⟩ := h
    obtain rfl : o = oj := Option.some.inj (ho.symm.trans hj)
    exact ⟨v, hy, h⟩
  | i :: l1, a, hap, h => by
    obtain ⟨o, u, ho, hy, h⟩ := h
    obtain ⟨v, hyj, h2⟩ := ReadsL.pick hsel hj l1 (a.put o.dst u) (fun k hk => hap k (by simp [hk])) h
    obtain ⟨h1, h2', h3⟩ := Oper.apart_spec (hap i (by simp) o ho)
    have hso := Region.noSelect_spec hsel i o
    have hsj := Region.noSelect_spec hsel j oj
    refine ⟨v, hyj.of_same (execOp_put oj (fun cs b => hsj cs b hj) a o.dst u h1).symm (wanted_put oj a o.dst u h1).symm, o, u, ho, hy.of_same (execOp_put o (fun cs b => hso cs b ho) a oj.dst v h3) (wanted_put o a oj.dst v h3), ?_⟩
    rw [Act.put_comm a v u (fun d hd hd2 => h2' d hd2 hd)]
    exact h2
/-- A new block, taken ahead of reads. -/
theorem ReadsL.skip {T T' : Act → Prop} (hsel : Region.noSelect ops = true) {j : Nat} {oj : Oper} (hj : ops[j]? = some oj) (v : Value) (hT : ∀ a, T a → T' (a.put oj.dst v)) :
    ∀ (l : List Nat) (a : Act), (∀ i ∈ l, ∀ oi, ops[i]? = some oi → oi.apart ops oj = true ∨ oj.apart ops oi = true) → ReadsL P ops S l a T → ReadsL P ops S l (a.put oj.dst v) T'
  | [], a, _, h => hT a h
  | i :: r, a, hap, h => by
    obtain ⟨o, u, ho, hy, h⟩ := h
    have hso := Region.noSelect_spec hsel i o
    have hsj := Region.noSelect_spec hsel j oj
    have ih := ReadsL.skip hsel hj v hT r (a.put o.dst u) (fun k hk => hap k (by simp [hk])) h
    rcases hap i (by simp) o ho with hq | hq
    · obtain ⟨h1, h2', h3⟩ := Oper.apart_spec hq
      refine ⟨o, u, ho, hy.of_same (execOp_put o (fun cs b => hso cs b ho) a oj.dst v h3) (wanted_put o a oj.dst v h3), ?_⟩
      rw [Act.put_comm a v u (fun d hd hd2 => h2' d hd2 hd)]
      exact ih
    · obtain ⟨h1, h2', h3⟩ := Oper.apart_spec hq
      refine ⟨o, u, ho, hy.of_same (execOp_put o (fun cs b => hso cs b ho) a oj.dst v h1) (wanted_put o a oj.dst v h1), ?_⟩
      rw [Act.put_comm a v u (fun d hd hd2 => h2' d hd hd2)]
      exact ih
/-- What has not come up of the reads, and of the new blocks. -/
def leftR (n : Nat) (ml : List Nat) (L : Array Bool) : List Nat := (List.range n).filter fun i => !L.getD i true && !ml.contains i
def leftM (ml : List Nat) (L : Array Bool) : List Nat := ml.filter fun i => !L.getD i true
theorem leftR_mem {n i : Nat} {ml : List Nat} {L : Array Bool} : i ∈ leftR n ml L ↔ i < n ∧ L.getD i true = false ∧ i ∉ ml := by simp [leftR]
theorem leftM_mem {i : Nat} {ml : List Nat} {L : Array Bool} : i ∈ leftM ml L ↔ i ∈ ml ∧ L.getD i true = false := by simp [leftM]
theorem leftR_set_m {n j : Nat} {ml : List Nat} {L : Array Bool} (hj : j ∈ ml) : leftR n ml (L.setIfInBounds j true) = leftR n ml L := by
  unfold leftR
  refine List.filter_congr fun i _ => ?_
  by_cases hij : i = j
  · subst hij; simp [hj]
  · rw [getD_set_ne true (fun e => hij e.symm)]
theorem leftM_set_r {j : Nat} {ml : List Nat} {L : Array Bool} (hj : j ∉ ml) : leftM ml (L.setIfInBounds j true) = leftM ml L := by
  unfold leftM
  refine List.filter_congr fun i hi => ?_
  rw [getD_set_ne true (fun e => hj (by rw [e]; exact hi))]
theorem leftM_set_m {j : Nat} {ml : List Nat} {L : Array Bool} (hnd : ml.Nodup) (hj : j < L.size) : leftM ml (L.setIfInBounds j true) = (leftM ml L).erase j := by
  have h1 : leftM ml (L.setIfInBounds j true) = (leftM ml L).filter (· ≠ j) := by
    unfold leftM
    rw [List.filter_filter]
    refine List.filter_congr fun i _ => ?_
    by_cases hij : i = j
    · subst hij; simp [hj]
    · rw [getD_set_ne true (fun e => hij e.symm)]; simp [hij]
  rw [h1, List.Nodup.erase_eq_filter (show (leftM ml L).Nodup from hnd.filter _) j]
  refine List.filter_congr fun i _ => ?_
  by_cases hij : i = j
  · subst hij; simp
  · simp [hij]
theorem leftR_split {n j : Nat} {ml : List Nat} {L : Array Bool} (hj : j ∈ leftR n ml L) (hjL : j < L.size) : ∃ l1 l2, leftR n ml L = l1 ++ j :: l2 ∧ leftR n ml (L.setIfInBounds j true) = l1 ++ l2 ∧ ∀ i ∈ l1, i < j ∧ L.getD i true = false := by
  obtain ⟨l1, l2, hsp⟩ := List.append_of_mem hj
  have hsrt : (leftR n ml L).Pairwise (· < ·) := List.Pairwise.filter _ List.pairwise_lt_range
  have hsrt2 := hsrt
  rw [hsp] at hsrt2
  have hlt : ∀ i ∈ l1, i < j := fun i hi => (List.pairwise_append.1 hsrt2).2.2 i hi j (by simp)
  have hj1 : j ∉ l1 := fun e => Nat.lt_irrefl _ (hlt j e)
  have hj2 : j ∉ l2 := fun e => by
    have := (List.pairwise_append.1 hsrt2).2.1
    exact Nat.lt_irrefl _ ((List.pairwise_cons.1 this).1 j e)
  refine ⟨l1, l2, hsp, ?_, fun i hi => ⟨hlt i hi, (leftR_mem.1 (show i ∈ leftR n ml L by rw [hsp]; simp [hi])).2.1⟩⟩
  have e1 : leftR n ml (L.setIfInBounds j true) = (leftR n ml L).filter (· ≠ j) := by
    unfold leftR
    rw [List.filter_filter]
    refine List.filter_congr fun i _ => ?_
    by_cases hij : i = j
    · subst hij; simp [hjL]
    · rw [getD_set_ne true (fun e => hij e.symm)]; simp [hij]
  rw [e1, hsp, List.filter_append, List.filter_cons]
  simp only [ne_eq, not_true_eq_false, decide_false]
  have f1 : l1.filter (fun x => decide (¬ x = j)) = l1 := List.filter_eq_self.2 fun x hx => by simp; rintro rfl; exact hj1 hx
  have f2 : l2.filter (fun x => decide (¬ x = j)) = l2 := List.filter_eq_self.2 fun x hx => by simp; rintro rfl; exact hj2 hx
  rw [f1]
  simp only [Bool.false_eq_true, if_false]
  rw [f2]
/-- Each new block and each other operation ahead of the tail are apart. -/
def newsB (ops : Array Oper) (n : Nat) (ml sl : List Nat) : Bool :=
  ml.all fun m => decide (m < n) && (List.range n).all fun i => i == m || sl.contains i || match ops[i]?, ops[m]? with
    | some oi, some om => oi.apart ops om || om.apart ops oi
    | _, _ => false
theorem newsB_spec {n : Nat} {ml sl : List Nat} (h : newsB ops n ml sl = true) {m i : Nat} (hm : m ∈ ml) (hi : i < n) (hne : i ≠ m) (hns : i ∉ sl) {oi om : Oper} (h1 : ops[i]? = some oi) (h2 : ops[m]? = some om) : oi.apart ops om = true ∨ om.apart ops oi = true := by
  unfold newsB at h
  have h3 := List.all_eq_true.1 h m hm
  simp only [Bool.and_eq_true] at h3
  have h4 := List.all_eq_true.1 h3.2 i (List.mem_range.2 hi)
  rw [h1, h2] at h4
  simp only [Bool.or_eq_true, beq_iff_eq, List.contains_iff_mem] at h4
  rcases h4 with (h4 | h4) | h4
  · exact absurd h4 hne
  · exact absurd h4 hns
  · exact h4
theorem newsB_lt {n : Nat} {ml sl : List Nat} (h : newsB ops n ml sl = true) {m : Nat} (hm : m ∈ ml) : m < n := by
  unfold newsB at h
  have h3 := List.all_eq_true.1 h m hm
  simp only [Bool.and_eq_true, decide_eq_true_eq] at h3
  exact h3.1
/-- The stores that are left, in the text's order. -/
def ForcedL (P : Program) (ops : Array Oper) (S : World → Prop) (T : Act → World → Prop) : List Nat → Act → World → Prop
  | [], a, w => T a w
  | i :: r, a, w => ∃ o v w', ops[i]? = some o ∧ Region.wanted o (yielded ops a.tmps) = true ∧ ((execOp a.eval o).run P w = .ok (.value v) w' ∨ ((execOp a.eval o).run P w = .ok .skip w' ∧ v = undef)) ∧ S w' ∧ ForcedL P ops S T r (a.put o.dst v) w'
/-- A store, taken ahead of reads. -/
theorem ReadsL.force {T : Act → World → Prop} (hsel : Region.noSelect ops = true) {j : Nat} {oj : Oper} (hj : ops[j]? = some oj) {rest : List Nat} {w : World} :
    ∀ (l : List Nat) (a : Act), (∀ i ∈ l, ∀ oi, ops[i]? = some oi → oi.apart ops oj = true ∨ oj.apart ops oi = true) → ReadsL P ops S l a (fun a' => ForcedL P ops S T (j :: rest) a' w) →
      ∃ v w', Region.wanted oj (yielded ops a.tmps) = true ∧ ((execOp a.eval oj).run P w = .ok (.value v) w' ∨ ((execOp a.eval oj).run P w = .ok .skip w' ∧ v = undef)) ∧ S w' ∧ ReadsL P ops S l (a.put oj.dst v) (fun a' => ForcedL P ops S T rest a' w')
  | [], a, _, h => by
    obtain ⟨o, v, w', ho, hw, hr, hS, h⟩ := h
    obtain rfl : o = oj := Option.some.inj (ho.symm.trans hj)
    exact ⟨v, w', hw, hr, hS, h⟩
  | i :: r, a, hap, h => by
    obtain ⟨o, u, ho, hy, h⟩ := h
    have hso := Region.noSelect_spec hsel i o
    have hsj := Region.noSelect_spec hsel j oj
    obtain ⟨v, w', hw, hr, hS, h⟩ := ReadsL.force hsel hj r (a.put o.dst u) (fun k hk => hap k (by simp [hk])) h
    rcases hap i (by simp) o ho with hq | hq
    · obtain ⟨h1, h2', h3⟩ := Oper.apart_spec hq
      rw [execOp_put oj (fun cs b => hsj cs b hj) a o.dst u h1] at hr
      rw [wanted_put oj a o.dst u h1] at hw
      rw [Act.put_comm a u v (fun d hd hd2 => h2' d hd hd2)] at h
      exact ⟨v, w', hw, hr, hS, o, u, ho, hy.of_same (execOp_put o (fun cs b => hso cs b ho) a oj.dst v h3) (wanted_put o a oj.dst v h3), h⟩
    · obtain ⟨h1, h2', h3⟩ := Oper.apart_spec hq
      rw [execOp_put oj (fun cs b => hsj cs b hj) a o.dst u h3] at hr
      rw [wanted_put oj a o.dst u h3] at hw
      rw [Act.put_comm a u v (fun d hd hd2 => h2' d hd2 hd)] at h
      exact ⟨v, w', hw, hr, hS, o, u, ho, hy.of_same (execOp_put o (fun cs b => hso cs b ho) a oj.dst v h1) (wanted_put o a oj.dst v h1), h⟩
/-- What a store waits for. -/
def storesB (ops : Array Oper) (n : Nat) (ml sl : List Nat) : Bool :=
  (sl.all fun s => decide (s < n) && ml.all (fun m => Region.waitsFor .any ops s m)) && decide (sl.Pairwise fun s t => Region.waitsFor .any ops t s = true) &&
  (sl.all fun s => (List.range n).all fun i => ml.contains i || sl.contains i || Region.waitsFor .any ops s i || match ops[i]?, ops[s]? with
    | some oi, some om => oi.apart ops om || om.apart ops oi
    | _, _ => false)
theorem waits_listed {L : Array Bool} {j i : Nat} (hj : j ∈ Region.ready .any ops L) (h : Region.waitsFor .any ops j i = true) : L.getD i false = true := by
  obtain ⟨oj, hoj, e, he, hb, hon⟩ := Region.waitsFor_spec h
  obtain ⟨_, ot, hot, hall⟩ := mem_ready.1 hj
  obtain rfl : oj = ot := Option.some.inj (hoj.symm.trans hot)
  rw [← hon]
  exact hall e he hb
theorem wpAny_of_mix {n : Nat} {ml sl : List Nat} (hsel : Region.noSelect ops = true) (hB : meetB .any ops = true) (hbk : backB .any ops = true) (hn : n = ops.size) (hnd : ml.Nodup) (hns : sl.Nodup) (hdis : ∀ m ∈ ml, m ∉ sl) (hnb : newsB ops n ml sl = true) (hsb : storesB ops n ml sl = true)
    (hK : Kept S) (hnew : ∀ m ∈ ml, NewAt P ops S obj m) :
    ∀ (fuel : Nat) (L : Array Bool) (a : Act) (w : World), HeadInv .any ops n L → (leftR n (ml ++ sl) L).length + (leftM ml L).length + (leftM sl L).length = fuel → S w →
      ReadsL P ops S (leftR n (ml ++ sl) L) a (fun a' => NewsL ops obj (leftM ml L).length (leftM ml L) a' w (fun a'' w'' => ForcedL P ops S (fun a w => Q .normal a w) (leftM sl L) a'' w'')) → wpAny P .any ops Q fuel L a w := by
  unfold storesB at hsb
  simp only [Bool.and_eq_true, decide_eq_true_eq] at hsb
  obtain ⟨⟨hs1, hs2⟩, hs3⟩ := hsb
  have hslt : ∀ s ∈ sl, s < n := fun s hs => by have := List.all_eq_true.1 hs1 s hs; simp only [Bool.and_eq_true, decide_eq_true_eq] at this; exact this.1
  have hsm : ∀ s ∈ sl, ∀ m ∈ ml, Region.waitsFor .any ops s m = true := fun s hs m hm => by have := List.all_eq_true.1 hs1 s hs; simp only [Bool.and_eq_true, decide_eq_true_eq] at this; exact List.all_eq_true.1 this.2 m hm
  intro fuel
  induction fuel with
  | zero =>
    intro L a w inv hl hS h
    have h1 : leftR n (ml ++ sl) L = [] := List.eq_nil_of_length_eq_zero (by omega)
    have h2 : leftM ml L = [] := List.eq_nil_of_length_eq_zero (by omega)
    have h3 : leftM sl L = [] := List.eq_nil_of_length_eq_zero (by omega)
    rw [h1, h2, h3] at h
    refine ⟨List.eq_nil_iff_forall_not_mem.2 fun j hj => ?_, h⟩
    obtain ⟨hunj, oj, hoj, _⟩ := mem_ready.1 hj
    have hjn : j < n := by
      have := (Array.getElem?_eq_some_iff.1 hoj).1
      omega
    by_cases hm : j ∈ ml
    · have : j ∈ leftM ml L := leftM_mem.2 ⟨hm, hunj⟩
      rw [h2] at this; cases this
    · by_cases hs : j ∈ sl
      · have : j ∈ leftM sl L := leftM_mem.2 ⟨hs, hunj⟩
        rw [h3] at this; cases this
      · have : j ∈ leftR n (ml ++ sl) L := leftR_mem.2 ⟨hjn, hunj, by simp [hm, hs]⟩
        rw [h1] at this; cases this
  | succ fuel ih =>
    intro L a w inv hl hS h
    have hun : ∃ i, i < n ∧ L.getD i true = false := by
      by_cases h1 : leftR n (ml ++ sl) L = []
      · by_cases h2 : leftM ml L = []
        · have h3 : leftM sl L ≠ [] := fun e => by rw [h1, h2, e] at hl; simp at hl
          obtain ⟨i, hi⟩ := List.exists_mem_of_ne_nil _ h3
          exact ⟨i, hslt i (leftM_mem.1 hi).1, (leftM_mem.1 hi).2⟩
        · obtain ⟨i, hi⟩ := List.exists_mem_of_ne_nil _ h2
          exact ⟨i, newsB_lt hnb (leftM_mem.1 hi).1, (leftM_mem.1 hi).2⟩
      · obtain ⟨i, hi⟩ := List.exists_mem_of_ne_nil _ h1
        exact ⟨i, (leftR_mem.1 hi).1, (leftR_mem.1 hi).2.1⟩
    obtain ⟨i0, hi0, hu0⟩ := hun
    refine ⟨fun h0 => absurd h0 (ready_some hbk L inv.size (fun e => ?_)), fun j hj => ?_⟩
    · have : i0 ∈ leftOf ops.size L := leftOf_mem.2 ⟨by omega, hu0⟩
      rw [e] at this; cases this
    obtain ⟨hunj, oj, hoj, hall⟩ := mem_ready.1 hj
    have hjn : j < n := by
      have := (Array.getElem?_eq_some_iff.1 hoj).1
      omega
    have hjL : j < L.size := by rw [inv.size]; omega
    have inv' := inv.set hj hjn
    unfold Go.wpOp
    simp only [hoj]
    by_cases hm : j ∈ ml
    · have hms : j ∉ sl := hdis j hm
      obtain ⟨hw, hrun⟩ := hnew j hm oj hoj a
      simp only [hw, if_true, Oper.wp]
      refine .inl ?_
      simp only [hrun w hS, Oper.upon]
      have hml : j ∈ leftM ml L := leftM_mem.2 ⟨hm, hunj⟩
      have hlen : (leftM ml L).length = ((leftM ml L).erase j).length + 1 := by
        rw [List.length_erase_of_mem hml]
        have := List.length_pos_of_mem hml
        omega
      have hmm : j ∈ ml ++ sl := by simp [hm]
      refine ih _ _ _ inv' (by rw [leftR_set_m hmm, leftM_set_m hnd hjL, leftM_set_r hms]; omega) (hK _ _ hS ((Below.refl _ _).alloc (Nat.le_refl _) _)) ?_
      rw [leftR_set_m hmm, leftM_set_m hnd hjL, leftM_set_r hms]
      refine ReadsL.skip hsel hoj (ptrN w) (fun a' ha' => ?_) _ _ (fun i hi oi hoi => ?_) h
      · rw [hlen] at ha'
        have := ha' j hml
        unfold dstOf at this
        rw [hoj] at this
        exact this
      · have hq := leftR_mem.1 hi
        exact newsB_spec hnb hm hq.1 (fun e => hq.2.2 (by rw [e]; exact hmm)) (fun e => hq.2.2 (by simp [e])) hoi hoj
    · by_cases hs : j ∈ sl
      · have hml0 : leftM ml L = [] := by
          rcases hh : leftM ml L with _ | ⟨m, r⟩
          · rfl
          · have hmm : m ∈ leftM ml L := by rw [hh]; simp
            have h1 := waits_listed hj (hsm j hs m (leftM_mem.1 hmm).1)
            have h2 := getD_both (leftM_mem.1 hmm).2
            rw [h1] at h2; cases h2
        have hjs : j ∈ leftM sl L := leftM_mem.2 ⟨hs, hunj⟩
        obtain ⟨rest, hrest⟩ : ∃ rest, leftM sl L = j :: rest := by
          obtain ⟨l1, l2, hsp⟩ := List.append_of_mem hjs
          have hp : (leftM sl L).Pairwise fun s t => Region.waitsFor .any ops t s = true := List.Pairwise.filter _ hs2
          rw [hsp] at hp
          rcases l1 with _ | ⟨q, l1⟩
          · exact ⟨l2, hsp⟩
          · have hw := (List.pairwise_append.1 hp).2.2 q (by simp) j (by simp)
            have h1 := waits_listed hj hw
            have h2 := getD_both (leftM_mem.1 (show q ∈ leftM sl L by rw [hsp]; simp)).2
            rw [h1] at h2; cases h2
        rw [hml0, hrest] at h
        obtain ⟨v, w', hw, hr, hS', h2⟩ := ReadsL.force hsel hoj _ a (fun i hi oi hoi => by
          have hq := leftR_mem.1 hi
          have h3 := List.all_eq_true.1 (List.all_eq_true.1 hs3 j hs) i (List.mem_range.2 hq.1)
          have hq2 : i ∉ ml ∧ i ∉ sl := by simpa using hq.2.2
          rw [hoi, hoj] at h3
          simp only [Bool.or_eq_true, List.contains_iff_mem] at h3
          rcases h3 with ((h3 | h3) | h3) | h3
          · exact absurd h3 hq2.1
          · exact absurd h3 hq2.2
          · have h1 := waits_listed hj h3
            rw [getD_both hq.2.1] at h1; cases h1
          · exact h3) h
        have hmm : j ∈ ml ++ sl := by simp [hs]
        have e3 : (leftM sl L).erase j = rest := by rw [hrest]; simp
        have hl3 : (leftM sl L).length = rest.length + 1 := by rw [hrest]; simp
        have go : wpAny P .any ops Q fuel (L.setIfInBounds j true) (a.put oj.dst v) w' := by
          refine ih _ _ _ inv' (by rw [leftR_set_m hmm, leftM_set_r hm, leftM_set_m hns hjL, e3, hml0]; rw [hml0] at hl; omega) hS' ?_
          rw [leftR_set_m hmm, leftM_set_r hm, leftM_set_m hns hjL, e3, hml0]
          exact h2
        simp only [hw, if_true, Oper.wp]
        refine .inl ?_
        rcases hr with hr1 | ⟨hr1, rfl⟩
        · simp only [hr1, Oper.upon]; exact go
        · simp only [hr1, Oper.upon]; exact go
      · have hmm : j ∉ ml ++ sl := by simp [hm, hs]
        have hr : j ∈ leftR n (ml ++ sl) L := leftR_mem.2 ⟨hjn, hunj, hmm⟩
        obtain ⟨l1, l2, hsp, hsp2, hl1⟩ := leftR_split hr hjL
        rw [hsp] at h
        obtain ⟨v, hy, h2⟩ := ReadsL.pick hsel hoj l1 a (fun i hi oi hoi => by
          refine meetB_spec hB (hl1 i hi).1 hoi hoj fun e he hb heq => ?_
          have h1 := hall e he hb
          have h3 := (hl1 i hi).2
          rw [heq] at h1
          have hil : i < L.size := by rw [inv.size]; exact (Array.getElem?_eq_some_iff.1 hoi).1
          simp [hil] at h1 h3
          rw [h3] at h1; cases h1) h
        have hlen : (leftR n (ml ++ sl) L).length = (l1 ++ l2).length + 1 := by rw [hsp]; simp; omega
        have go : wpAny P .any ops Q fuel (L.setIfInBounds j true) (a.put oj.dst v) w := by
          refine ih _ _ _ inv' (by rw [hsp2, leftM_set_r hm, leftM_set_r hs]; omega) hS ?_
          rw [hsp2, leftM_set_r hm, leftM_set_r hs]
          exact h2
        rcases hy with ⟨hw, hu⟩ | ⟨hw, rfl⟩
        · simp only [hw, if_true, Oper.wp]
          refine .inl ?_
          rcases hu w hS with hu1 | ⟨hu1, rfl⟩
          · simp only [hu1, Oper.upon]; exact go
          · simp only [hu1, Oper.upon]; exact go
        · simp only [hw, Bool.false_eq_true, if_false]; exact go
def mixOk (ops : Array Oper) (ml sl : List Nat) : Bool :=
  Region.noSelect ops && meetB .any ops && backB .any ops && newsB ops ops.size ml sl && storesB ops ops.size ml sl
/-- THE BEGINNING. ml: the operations that make new blocks, obj: what blocks; sl: the stores, each waits for all new blocks and all stores ahead; all others read. -/
theorem wp_region_mix {id : Nat} {l : List Oper} {a : Act} {w : World} (ml sl : List Nat) (obj : Nat → Obj) (S : World → Prop) (hm : P.follows .mixedOrders = true) (hnd : ml.Nodup ∧ sl.Nodup ∧ ∀ m ∈ ml, m ∉ sl) (hB : mixOk l.toArray ml sl = true) (hK : Kept S) (hS : S w.drew)
    (hnew : ∀ m ∈ ml, NewAt P l.toArray S obj m)
    (h : ReadsL P l.toArray S ((List.range l.length).filter fun i => !(ml ++ sl).contains i) a (fun a' => NewsL l.toArray obj ml.length ml a' w.drew (fun a'' w'' => ForcedL P l.toArray S (fun a w => Q .normal a w) sl a'' w''))) : (Code.region id l.toArray true).wp P Q a w := by
  unfold mixOk at hB
  simp only [Bool.and_eq_true] at hB
  obtain ⟨⟨⟨⟨h1, h2⟩, h3⟩, h7⟩, h8⟩ := hB
  obtain ⟨n1, n2, n3⟩ := hnd
  refine wp_region_any hm ?_
  have hsz : l.toArray.size = l.length := by simp
  have hslt : ∀ s ∈ sl, s < l.toArray.size := fun s hs => by
    have h8' := h8
    unfold storesB at h8'
    simp only [Bool.and_eq_true] at h8'
    have := List.all_eq_true.1 h8'.1.1 s hs
    simp only [Bool.and_eq_true, decide_eq_true_eq] at this
    exact this.1
  have hr0 : leftR l.toArray.size (ml ++ sl) (Array.replicate l.toArray.size false) = (List.range l.length).filter fun i => !(ml ++ sl).contains i := by
    unfold leftR
    rw [hsz]
    refine List.filter_congr fun i hi => ?_
    have : i < l.length := List.mem_range.1 hi
    simp [this]
  have hl0 : ∀ q : List Nat, (∀ m ∈ q, m < l.toArray.size) → leftM q (Array.replicate l.toArray.size false) = q := by
    intro q hq
    unfold leftM
    rw [List.filter_eq_self.2]
    intro i hi
    have := hq i hi
    simp at this
    simp [this]
  have hm0 := hl0 ml (fun m hm => newsB_lt h7 hm)
  have hs0 := hl0 sl hslt
  have inv0 : HeadInv .any l.toArray l.toArray.size (Array.replicate l.toArray.size false) :=
    ⟨by simp, fun j oj _ hl => (by rw [getD_replicate_false] at hl; cases hl), fun t h1 h2 => by omega⟩
  have key := wpAny_of_mix (P := P) (Q := Q) (S := S) (obj := obj) (n := l.toArray.size) (ml := ml) (sl := sl) h1 h2 h3 rfl n1 n2 n3 h7 h8 hK hnew _ _ a w.drew inv0 rfl hS (by rw [hr0, hm0, hs0]; exact h)
  have hlen : (leftR l.toArray.size (ml ++ sl) (Array.replicate l.toArray.size false)).length + (leftM ml (Array.replicate l.toArray.size false)).length + (leftM sl (Array.replicate l.toArray.size false)).length = l.toArray.size := by
    rw [hr0, hm0, hs0, hsz]
    have hlp : ∀ (l : List Nat), (l.filter fun i => !(ml ++ sl).contains i).length + (l.filter fun i => (ml ++ sl).contains i).length = l.length := by
      intro l
      induction l with
      | nil => rfl
      | cons b r ih =>
        rw [List.filter_cons, List.filter_cons]
        cases (ml ++ sl).contains b
        · simp only [Bool.not_false, if_true, Bool.false_eq_true, if_false, List.length_cons]; omega
        · simp only [Bool.not_true, if_true, Bool.false_eq_true, if_false, List.length_cons]; omega
    have hp := hlp (List.range l.length)
    rw [List.length_range] at hp
    have hq : ((List.range l.length).filter fun i => (ml ++ sl).contains i).length = (ml ++ sl).length := by
      refine List.Perm.length_eq ?_
      refine (List.perm_ext_iff_of_nodup (List.nodup_range.filter _) ?_).2 fun i => ?_
      · exact List.nodup_append.2 ⟨n1, n2, fun a ha b hb e => n3 a ha (by rw [e]; exact hb)⟩
      · simp only [List.mem_filter, List.mem_range, List.contains_iff_mem]
        refine ⟨fun h => h.2, fun h => ⟨?_, h⟩⟩
        rw [← hsz]
        rcases List.mem_append.1 h with h | h
        · exact newsB_lt h7 h
        · exact hslt i h
    rw [List.length_append] at hq
    omega
  rw [hlen] at key
  exact key
theorem readsL_of {k l : List Nat} {a : Act} {T : Act → Prop} (e : k = l) (h : ReadsL P ops S l a T) : ReadsL P ops S k a T := by rw [e]; exact h
theorem readsL_val {i : Nat} {r : List Nat} {d : Option Tmp} {p : Op} {t : TypeId} {ps : String} {af : Array Edge} {g : Option (Nat × Bool)} {a : Act} {v : Value} {T : Act → Prop} (ho : ops[i]? = some ⟨d, p, t, ps, af, g⟩) (hw : Region.wanted ⟨d, p, t, ps, af, g⟩ (yielded ops a.tmps) = true) (hv : ∀ w, S w → (execOp a.eval ⟨d, p, t, ps, af, g⟩).run P w = .ok (.value v) w) (h : ReadsL P ops S r (a.put d v) T) : ReadsL P ops S (i :: r) a T :=
  ⟨_, v, ho, .inl ⟨hw, fun w hS => .inl (hv w hS)⟩, h⟩
theorem run_news (w : World) (o1 o2 o3 : Obj) : ((((w.alloc o1).alloc o2).alloc o3).heap[w.heap.size]? = some o1 ∧ (((w.alloc o1).alloc o2).alloc o3).heap[w.heap.size + 1]? = some o2 ∧ (((w.alloc o1).alloc o2).alloc o3).heap[w.heap.size + 2]? = some o3) ∧ Below w.heap.size w (((w.alloc o1).alloc o2).alloc o3) := by
  have e1 : (w.alloc o1).heap.size = w.heap.size + 1 := by simp
  have e2 : ((w.alloc o1).alloc o2).heap.size = w.heap.size + 2 := by simp
  refine ⟨⟨blk_old _ (blk_old _ (blk_new w _)), blk_old _ ?_, ?_⟩, (((Below.refl w.heap.size w).alloc (Nat.le_refl _) _).alloc (by omega) _).alloc (by omega) _⟩
  · have := blk_new (w.alloc o1) o2
    rwa [e1] at this
  · have := blk_new ((w.alloc o1).alloc o2) o3
    rwa [e2] at this
/-- Three new blocks of one kind, in whatever order they came. -/
theorem news3 {m1 m2 m3 : Nat} {d1 d2 d3 : Tmp} {a : Act} {w : World} {ob : Obj} {T : Act → World → Prop} (hm : m1 ≠ m2 ∧ m1 ≠ m3 ∧ m2 ≠ m3) (h1 : dstOf ops m1 = some d1) (h2 : dstOf ops m2 = some d2) (h3 : dstOf ops m3 = some d3) (hd : d1 ≠ d2 ∧ d1 ≠ d3 ∧ d2 ≠ d3)
    (h : ∀ b1 b2 b3 w', b1 ≠ b2 → b1 ≠ b3 → b2 ≠ b3 → w'.heap[b1]? = some ob → w'.heap[b2]? = some ob → w'.heap[b3]? = some ob → w.heap.size ≤ b1 → w.heap.size ≤ b2 → w.heap.size ≤ b3 → Below w.heap.size w w' →
      T (((a.put (some d1) (.pointer (some ⟨b1, 0, none⟩))).put (some d2) (.pointer (some ⟨b2, 0, none⟩))).put (some d3) (.pointer (some ⟨b3, 0, none⟩))) w') : NewsL ops (fun _ => ob) 3 [m1, m2, m3] a w T := by
  obtain ⟨hm12, hm13, hm23⟩ := hm
  obtain ⟨hd12, hd13, hd23⟩ := hd
  have e1 : (w.alloc ob).heap.size = w.heap.size + 1 := by simp
  have e2 : ((w.alloc ob).alloc ob).heap.size = w.heap.size + 2 := by simp
  obtain ⟨⟨k1, k2, k3⟩, kb⟩ := run_news w ob ob ob
  have c12 : ∀ (a : Act) (u v : Value), (a.put (some d2) u).put (some d1) v = (a.put (some d1) v).put (some d2) u := fun a u v => Act.put_comm a _ _ (fun d hd hd2 => hd12 (by rw [Option.some.inj hd, Option.some.inj hd2]) )
  have c13 : ∀ (a : Act) (u v : Value), (a.put (some d3) u).put (some d1) v = (a.put (some d1) v).put (some d3) u := fun a u v => Act.put_comm a _ _ (fun d hd hd2 => hd13 (by rw [Option.some.inj hd, Option.some.inj hd2]))
  have c23 : ∀ (a : Act) (u v : Value), (a.put (some d3) u).put (some d2) v = (a.put (some d2) v).put (some d3) u := fun a u v => Act.put_comm a _ _ (fun d hd hd2 => hd23 (by rw [Option.some.inj hd, Option.some.inj hd2]))
  intro n1 hn1
  simp only [List.mem_cons, List.not_mem_nil, or_false] at hn1
  rcases hn1 with rfl | rfl | rfl
  · rw [show [n1, m2, m3].erase n1 = [m2, m3] by simp]
    intro n2 hn2
    simp only [List.mem_cons, List.not_mem_nil, or_false] at hn2
    rcases hn2 with rfl | rfl
    · rw [show [n2, m3].erase n2 = [m3] by simp]
      intro n3 hn3
      obtain rfl := List.mem_singleton.1 hn3
      unfold NewsL ptrN
      rw [h1, h2, h3, e1, e2]
      exact h _ _ _ _ (by omega) (by omega) (by omega) k1 k2 k3 (by omega) (by omega) (by omega) kb
    · rw [show [m2, n2].erase n2 = [m2] by simp [hm23]]
      intro n3 hn3
      obtain rfl := List.mem_singleton.1 hn3
      unfold NewsL ptrN
      rw [h1, h2, h3, e1, e2, c23]
      exact h _ _ _ _ (by omega) (by omega) (by omega) k1 k3 k2 (by omega) (by omega) (by omega) kb
  · rw [show [m1, n1, m3].erase n1 = [m1, m3] by simp [hm12]]
    intro n2 hn2
    simp only [List.mem_cons, List.not_mem_nil, or_false] at hn2
    rcases hn2 with rfl | rfl
    · rw [show [n2, m3].erase n2 = [m3] by simp]
      intro n3 hn3
      obtain rfl := List.mem_singleton.1 hn3
      unfold NewsL ptrN
      rw [h1, h2, h3, e1, e2, c12]
      exact h _ _ _ _ (by omega) (by omega) (by omega) k2 k1 k3 (by omega) (by omega) (by omega) kb
    · rw [show [m1, n2].erase n2 = [m1] by simp [hm13]]
      intro n3 hn3
      obtain rfl := List.mem_singleton.1 hn3
      unfold NewsL ptrN
      rw [h1, h2, h3, e1, e2, c13, c12]
      exact h _ _ _ _ (by omega) (by omega) (by omega) k3 k1 k2 (by omega) (by omega) (by omega) kb
  · rw [show [m1, m2, n1].erase n1 = [m1, m2] by simp [hm13, hm23]]
    intro n2 hn2
    simp only [List.mem_cons, List.not_mem_nil, or_false] at hn2
    rcases hn2 with rfl | rfl
    · rw [show [n2, m2].erase n2 = [m2] by simp]
      intro n3 hn3
      obtain rfl := List.mem_singleton.1 hn3
      unfold NewsL ptrN
      rw [h1, h2, h3, e1, e2, c13, c23]
      exact h _ _ _ _ (by omega) (by omega) (by omega) k2 k3 k1 (by omega) (by omega) (by omega) kb
    · rw [show [m1, n2].erase n2 = [m1] by simp [hm12]]
      intro n3 hn3
      obtain rfl := List.mem_singleton.1 hn3
      unfold NewsL ptrN
      rw [h1, h2, h3, e1, e2, c23, c13, c12]
      exact h _ _ _ _ (by omega) (by omega) (by omega) k3 k2 k1 (by omega) (by omega) (by omega) kb
/-- The stores, a whole row each. -/
theorem forced_store {T : Act → World → Prop} {i : Nat} {r : List Nat} {tt : TypeId} {ps : String} {af : Array Edge} {a : Act} {w : World} (ty : TypeId) (x y : Operand) (ho : ops[i]? = some ⟨none, .store ty x y, tt, ps, af, none⟩)
    (g : Nat) (old cs : Array Value) (hg : w.heap[g]? = some (.cells old ty (0, 0))) (hx : a.eval x = .pointer (some ⟨g, 0, none⟩)) (hy : a.eval y = .agg cs) (hi : (P.info? ty).map (·.size) = some cs.size) (hold : old.size = cs.size) (h1 : cs.all (·.oneCell') = true)
    (hS : S (w.setRow g cs)) (h : ForcedL P ops S T r a (w.setRow g cs)) : ForcedL P ops S T (i :: r) a w := by
  refine ⟨_, undef, w.setRow g cs, ho, by simp [Region.wanted], .inr ⟨?_, rfl⟩, hS, h⟩
  unfold execOp
  simp only [hx, hy, Instr.storeAt, Instr.sureAddr, Sem.run_bind, Sem.run_pure, Result.andThen_ok, run_storeVar_row w g ty ty old cs hg hi hold h1]
theorem forced_nil {T : Act → World → Prop} {a : Act} {w : World} (h : T a w) : ForcedL P ops S T [] a w := h
theorem three_rows {w : World} {b1 b2 b3 : Nat} {ob1 ob2 ob3 : Array Value} {t : TypeId} {B : Nat} {W : World} (h12 : b1 ≠ b2) (h13 : b1 ≠ b3) (h23 : b2 ≠ b3) {o1 o2 o3 : Array Value} (g1 : w.heap[b1]? = some (.cells o1 t (0, 0))) (g2 : w.heap[b2]? = some (.cells o2 t (0, 0))) (g3 : w.heap[b3]? = some (.cells o3 t (0, 0))) (l1 : B ≤ b1) (l2 : B ≤ b2) (l3 : B ≤ b3) (hb : Below B W w) :
    (w.setRow b1 ob1).heap[b2]? = some (.cells o2 t (0, 0)) ∧ ((w.setRow b1 ob1).setRow b2 ob2).heap[b3]? = some (.cells o3 t (0, 0)) ∧ (((w.setRow b1 ob1).setRow b2 ob2).setRow b3 ob3).heap[b1]? = some (.cells ob1 t (0, 0)) ∧ (((w.setRow b1 ob1).setRow b2 ob2).setRow b3 ob3).heap[b2]? = some (.cells ob2 t (0, 0)) ∧ (((w.setRow b1 ob1).setRow b2 ob2).setRow b3 ob3).heap[b3]? = some (.cells ob3 t (0, 0)) ∧ Below B W (((w.setRow b1 ob1).setRow b2 ob2).setRow b3 ob3) := by
  have s2 := (rowSet_far w b1 b2 ob1 h12.symm).trans g2
  have s3 := (rowSet_far _ b2 b3 ob2 h23.symm).trans ((rowSet_far w b1 b3 ob1 h13.symm).trans g3)
  exact ⟨s2, s3, (rowSet_far _ b3 b1 ob3 h13).trans ((rowSet_far _ b2 b1 ob2 h12).trans (rowSet_heap w b1 ob1 t _ g1)), (rowSet_far _ b3 b2 ob3 h23).trans (rowSet_heap _ b2 ob2 t _ s2), rowSet_heap _ b3 ob3 t _ s3, rowSet_below _ (rowSet_below _ (rowSet_below _ hb l1) l2) l3⟩
theorem readsL_nil {a : Act} {T : Act → Prop} (h : T a) : ReadsL P ops S [] a T := h
/-- A region that keeps the text's order, with calls that make memory among its operations. -/
def HoldN (P : Program) (ops : Array Oper) (S : World → Prop) (T : Act → Prop) : List Oper → Act → Prop
  | [], a => T a
  | o :: r, a => ∃ v, ((Region.wanted o (yielded ops a.tmps) = true ∧ ∀ w, S w → ((execOp a.eval o).run P w = .ok (.value v) w ∨ ∃ f args, (execOp a.eval o).run P w = .ok (.enter f args) w ∧ Calls P f args w fun e w' => e = .returned v ∧ S w')) ∨
      (Region.wanted o (yielded ops a.tmps) = false ∧ v = undef)) ∧ HoldN P ops S T r (a.put o.dst v)
theorem HoldN.list {T : Act → Prop} (hT : ∀ a w, T a → S w → Q .normal a w) : ∀ (l : List Oper) (a : Act) (w : World), HoldN P ops S T l a → S w → wpList P ops Q l a w
  | [], a, w, h, hS => hT a w h hS
  | o :: r, a, w, h, hS => by
    obtain ⟨v, hv, h⟩ := h
    unfold wpList
    rcases hv with ⟨hw, hv⟩ | ⟨hw, rfl⟩
    · simp only [hw, if_true, Oper.wp]
      refine .inl ?_
      rcases hv w hS with h1 | ⟨f, args, h1, h2⟩
      · simp only [h1, Oper.upon]; exact HoldN.list hT r _ w h hS
      · simp only [h1, Oper.upon]
        exact h2.mono fun e w' ⟨he, hS'⟩ => by subst he; exact HoldN.list hT r _ w' h hS'
    · simp only [hw, Bool.false_eq_true, if_false]; exact HoldN.list hT r _ w h hS
theorem wp_region_holdN {id : Nat} {l : List Oper} {a : Act} {w : World} (S : World → Prop) (hS : S w) (h : HoldN P l.toArray S (fun a => ∀ w, S w → Q .normal a w) l a) : (Code.region id l.toArray false).wp P Q a w := by
  refine wp_region ?_
  have e := wpOps_eq_wpList (P := P) (ops := l.toArray) (Q := Q) l 0 (by simp)
  rw [show List.range l.toArray.size = List.range' 0 l.length by simp [List.range_eq_range'], e]
  exact HoldN.list (fun a w h hS => h w hS) l a w h hS
theorem wpList_holdN {l : List Oper} {a : Act} {w : World} (S : World → Prop) (hS : S w) (h : HoldN P ops S (fun a => ∀ w, S w → Q .normal a w) l a) : wpList P ops Q l a w := HoldN.list (fun a w h hS => h w hS) l a w h hS
theorem holdN_nil {T : Act → Prop} {a : Act} (h : T a) : HoldN P ops S T [] a := h
theorem holdN_val {T : Act → Prop} {o : Oper} {r : List Oper} {a : Act} {v : Value} (hw : Region.wanted o (yielded ops a.tmps) = true) (hv : ∀ w, S w → (execOp a.eval o).run P w = .ok (.value v) w) (h : HoldN P ops S T r (a.put o.dst v)) : HoldN P ops S T (o :: r) a :=
  ⟨v, .inl ⟨hw, fun w hS => .inl (hv w hS)⟩, h⟩
theorem holdN_skip {T : Act → Prop} {o : Oper} {r : List Oper} {a : Act} (hw : Region.wanted o (yielded ops a.tmps) = false) (h : HoldN P ops S T r (a.put o.dst undef)) : HoldN P ops S T (o :: r) a :=
  ⟨undef, .inr ⟨hw, rfl⟩, h⟩
theorem holdN_call {T : Act → Prop} {o : Oper} {r : List Oper} {a : Act} {v : Value} {f : FuncId} {args : Array Value} (hw : Region.wanted o (yielded ops a.tmps) = true) (hv : ∀ w, S w → (execOp a.eval o).run P w = .ok (.enter f args) w)
    (hc : ∀ w, S w → Calls P f args w fun e w' => e = .returned v ∧ S w') (h : HoldN P ops S T r (a.put o.dst v)) : HoldN P ops S T (o :: r) a :=
  ⟨v, .inl ⟨hw, fun w hS => .inr ⟨f, args, hv w hS, hc w hS⟩⟩, h⟩
/-- A struct or an array. -/
def isRow (ds : TypeDesc) : Bool := match ds with | .struct _ | .array _ _ => true | _ => false
/-- A whole row, out of its block. -/
theorem run_load_row {a : Act} {w : World} {d : Option Tmp} {tt : TypeId} {ps : String} {af : Array Edge} {g : Option (Nat × Bool)} (ty : TypeId) (x : Operand) (b : Nat) (cs : Array Value) (ds : TypeDesc) (hx : a.eval x = .pointer (some ⟨b, 0, none⟩)) (hg : w.heap[b]? = some (.cells cs ty (0, 0)))
    (hd : isRow ds = true) (hu : P.underlying ty = some ds) (hi : (P.info? ty).map (·.size) = some cs.size) : (execOp a.eval ⟨d, .load ty x, tt, ps, af, g⟩).run P w = .ok (.value (.agg cs)) w := by
  unfold execOp
  simp only [hx, Instr.loadAt, Instr.sureAddr, Sem.run_bind, Sem.run_pure, Result.andThen_ok, run_loadVar_row w b ty ty cs (0, 0) ds hg hu (by cases ds <;> first | rfl | cases hd) hi]
end
end Go.Proofs.YtgooepfhapaenaaGreat
