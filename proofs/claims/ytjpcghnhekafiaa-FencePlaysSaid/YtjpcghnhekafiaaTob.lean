/- Two things in memory and a row beside blocks of the law's own, told block by block. Of any program. Conditions: as stated. -/
import Derived.Test.YtjpcghnhekafiaaTwo
namespace Go.Proofs.Ytjpcghnhekafiaa
open Go.ChangeShapes Go.WideShapes Go.ChangeAt Go.RowKit
set_option linter.unusedVariables false
set_option maxRecDepth 100000

section
variable {α β : Type} {O : Own α} {R : Rdr β}
def TB (O : Own α) (R : Rdr β) (wL : World) (bs : List (Nat × Obj)) (v1 : Value) (l1 : α) (v2 : Value) (l2 : α) (row : Value) (l3 : β) (w : World) : Prop :=
  Two O R wL (fun k => ∃ o, (k, o) ∈ bs) v1 l1 v2 l2 row l3 w ∧ ∀ k o, (k, o) ∈ bs → w.heap[k]? = some o
variable {wL : World} {bs : List (Nat × Obj)} {v1 v2 row : Value} {l1 l2 : α} {l3 : β} {w w' : World}
theorem TB.bel (h : TB O R wL bs v1 l1 v2 l2 row l3 w) : Below wL.heap.size wL w := h.1.bel
theorem TB.below (h : TB O R wL bs v1 l1 v2 l2 row l3 w) (hb : Below w.heap.size w w') : TB O R wL bs v1 l1 v2 l2 row l3 w' := ⟨h.1.below hb, fun k o hk => (h.1.stay hb k ⟨o, hk⟩).trans (h.2 k o hk)⟩
theorem TB.draws (h : TB O R wL bs v1 l1 v2 l2 row l3 w) : TB O R wL bs v1 l1 v2 l2 row l3 w.drew := h.below below_drew
theorem TB.lt (h : TB O R wL bs v1 l1 v2 l2 row l3 w) {k : Nat} {o : Obj} (hk : (k, o) ∈ bs) : k < w.heap.size := h.1.own_lt k ⟨o, hk⟩
theorem TB.turn {l1' l2' : α} {row' : Value} {l3' : β} (h : TB O R wL bs v1 l1 v2 l2 row l3 w) (p : Two O R wL (fun k => ∃ o, (k, o) ∈ bs) v1 l1' v2 l2' row' l3' w' ∧ Stay (fun k => ∃ o, (k, o) ∈ bs) w w') : TB O R wL bs v1 l1' v2 l2' row' l3' w' :=
  ⟨p.1, fun k o hk => (p.2 k ⟨o, hk⟩).trans (h.2 k o hk)⟩
/-- A call that may turn the first thing; the second. -/
theorem TB.post1 {l : α} (h : TB O R wL bs v1 l1 v2 l2 row l3 w) (C : ∀ F, O.P F v1 l1 w → OPost O F v1 l w w') : TB O R wL bs v1 l v2 l2 row l3 w' := by
  obtain ⟨F1, F2, h1, h2, h3, h4, h5, h6, h7, h8⟩ := h.1
  exact h.turn (two_turn1 h2 h3 h4 h5 h6 h7 h8 (C F1 h1))
theorem TB.post2 {l : α} (h : TB O R wL bs v1 l1 v2 l2 row l3 w) (C : ∀ F, O.P F v2 l2 w → OPost O F v2 l w w') : TB O R wL bs v1 l1 v2 l row l3 w' := by
  obtain ⟨F1, F2, h1, h2, h3, h4, h5, h6, h7, h8⟩ := h.1
  exact h.turn (two_turn2 h1 h3 h4 h5 h6 h7 h8 (C F2 h2))
theorem TB.own1 (h : TB O R wL bs v1 l1 v2 l2 row l3 w) : ∃ F, O.P F v1 l1 w := by obtain ⟨F1, F2, h1, _⟩ := h.1; exact ⟨F1, h1⟩
theorem TB.own2 (h : TB O R wL bs v1 l1 v2 l2 row l3 w) : ∃ F, O.P F v2 l2 w := by obtain ⟨F1, F2, h1, h2, _⟩ := h.1; exact ⟨F2, h2⟩
theorem TB.rd (h : TB O R wL bs v1 l1 v2 l2 row l3 w) : ∃ K, R.R w K row l3 := h.1.rd
/-- Another row, told by a call that made memory only. -/
theorem TB.rowed {v : Value} {l : β} (h : TB O R wL bs v1 l1 v2 l2 row l3 w) (hb : Below w.heap.size w w') (hr : ∀ K, R.R w K row l3 → R.R w' (fun b => K b ∨ w.heap.size ≤ b) v l) : TB O R wL bs v1 l1 v2 l2 v l w' := by
  obtain ⟨F1, F2, h1, h2, h3, h4, h5, h6, h7, h8⟩ := h.1
  exact h.turn ⟨two_row h1 h2 h3 h4 h5 h7 h8 (hr _ h6) hb, h.1.stay hb⟩
theorem TB.get {k : Nat} {o : Obj} (h : TB O R wL ((k, o) :: bs) v1 l1 v2 l2 row l3 w) : w.heap[k]? = some o := h.2 k o (by simp)
theorem TB.get2 {p : Nat × Obj} {k : Nat} {o : Obj} (h : TB O R wL (p :: (k, o) :: bs) v1 l1 v2 l2 row l3 w) : w.heap[k]? = some o := h.2 k o (by simp)
theorem TB.get3 {p q : Nat × Obj} {k : Nat} {o : Obj} (h : TB O R wL (p :: q :: (k, o) :: bs) v1 l1 v2 l2 row l3 w) : w.heap[k]? = some o := h.2 k o (by simp)
theorem TB.new (o : Obj) (h : TB O R wL bs v1 l1 v2 l2 row l3 w) : TB O R wL ((w.heap.size, o) :: bs) v1 l1 v2 l2 row l3 (w.alloc o) := by
  have hb : Below w.heap.size w (w.alloc o) := (Below.refl _ _).alloc (Nat.le_refl _) _
  refine ⟨h.1.more hb fun k hk => ?_, fun k o' hk => ?_⟩
  · obtain ⟨o', hk⟩ := hk
    rcases List.mem_cons.1 hk with e | e
    · cases e; exact .inr ⟨Nat.le_refl _, by simp⟩
    · exact .inl ⟨o', e⟩
  · rcases List.mem_cons.1 hk with e | e
    · cases e; exact blk_new w o
    · exact (h.1.stay hb k ⟨o', e⟩).trans (h.2 k o' e)
theorem TB.less {cs : List (Nat × Obj)} (h : TB O R wL bs v1 l1 v2 l2 row l3 w) (hs : ∀ p ∈ cs, p ∈ bs) : TB O R wL cs v1 l1 v2 l2 row l3 w :=
  ⟨h.1.less fun k hk => by obtain ⟨o, hk⟩ := hk; exact ⟨o, hs _ hk⟩, fun k o hk => h.2 k o (hs _ hk)⟩
theorem TB.tail {p : Nat × Obj} (h : TB O R wL (p :: bs) v1 l1 v2 l2 row l3 w) : TB O R wL bs v1 l1 v2 l2 row l3 w := h.less fun q hq => by simp [hq]
theorem TB.swap {p q : Nat × Obj} (h : TB O R wL (p :: q :: bs) v1 l1 v2 l2 row l3 w) : TB O R wL (q :: p :: bs) v1 l1 v2 l2 row l3 w := h.less fun r hr => by
  simp only [List.mem_cons] at hr ⊢
  rcases hr with e | e | e
  · exact .inr (.inl e)
  · exact .inl e
  · exact .inr (.inr e)
/-- The first block is written. -/
theorem TB.write {k : Nat} {o o' : Obj} (h : TB O R wL ((k, o) :: bs) v1 l1 v2 l2 row l3 w) (hn : ∀ j p, (j, p) ∈ bs → j ≠ k) (ho : Only k w w') (hk : w'.heap[k]? = some o') : TB O R wL ((k, o') :: bs) v1 l1 v2 l2 row l3 w' := by
  refine ⟨(h.1.write ⟨o, by simp⟩ ho).less fun j hj => ?_, fun j p hj => ?_⟩
  · obtain ⟨p, hj⟩ := hj
    rcases List.mem_cons.1 hj with e | e
    · cases e; exact ⟨o, by simp⟩
    · exact ⟨p, List.mem_cons.2 (.inr e)⟩
  · rcases List.mem_cons.1 hj with e | e
    · cases e; exact hk
    · exact (ho.block j (h.lt (List.mem_cons.2 (.inr e))) (hn j p e)).trans (h.2 j p (List.mem_cons.2 (.inr e)))
/-- Another row, of what the old one reads as in the same blocks. -/
theorem TB.same {v : Value} {l : β} (h : TB O R wL bs v1 l1 v2 l2 row l3 w) (hr : ∀ K, R.R w K row l3 → R.R w K v l) : TB O R wL bs v1 l1 v2 l2 v l w :=
  h.rowed (Below.refl _ _) fun K hk => R.imp (hr K hk) fun b hb _ => .inl hb
theorem tb_start {F F' : Nat → Prop} {w1 : World} (h : O.P F v1 l1 w1) (hF : ∀ k, F k → wL.heap.size ≤ k) (hb : Below wL.heap.size wL w1) (h2 : O.P F' v2 l2 w) (hF' : ∀ k, F' k → w1.heap.size ≤ k) (hb2 : Below w1.heap.size w1 w) (hr : ∀ K, R.R w K row l3) :
    TB O R wL [] v1 l1 v2 l2 row l3 w :=
  ⟨(two_start h hF hb h2 hF' hb2 hr).less fun k hk => by obtain ⟨_, hk⟩ := hk; simp at hk, fun k o hk => by simp at hk⟩
end
end Go.Proofs.Ytjpcghnhekafiaa
