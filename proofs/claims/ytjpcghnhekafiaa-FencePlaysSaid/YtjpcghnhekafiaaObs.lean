/- One thing in memory beside blocks of the law's own, told block by block. Of any program. Conditions: as stated. -/
import Derived.Test.YtjpcghnhekafiaaTwo
namespace Go.Proofs.Ytjpcghnhekafiaa
open Go.ChangeShapes Go.WideShapes Go.ChangeAt Go.RowKit
set_option linter.unusedVariables false
set_option maxRecDepth 100000

section
variable {α : Type} {O : Own α}
/-- One thing; each block of the row is the law's own and holds what stands beside it. -/
def OB (O : Own α) (wL : World) (bs : List (Nat × Obj)) (v : Value) (l : α) (w : World) : Prop :=
  One O wL (fun k => ∃ o, (k, o) ∈ bs) v l w ∧ ∀ k o, (k, o) ∈ bs → w.heap[k]? = some o
variable {wL : World} {bs : List (Nat × Obj)} {v : Value} {l : α} {w w' : World}
theorem OB.bel (h : OB O wL bs v l w) : Below wL.heap.size wL w := h.1.bel
theorem OB.below (h : OB O wL bs v l w) (hb : Below w.heap.size w w') : OB O wL bs v l w' := ⟨h.1.below hb, fun k o hk => (h.1.stay hb k ⟨o, hk⟩).trans (h.2 k o hk)⟩
theorem kept_ob : Kept (fun w => OB O wL bs v l w) := fun w w' h hb => h.below hb
theorem OB.draws (h : OB O wL bs v l w) : OB O wL bs v l w.drew := h.below below_drew
theorem OB.lt (h : OB O wL bs v l w) {k : Nat} {o : Obj} (hk : (k, o) ∈ bs) : k < w.heap.size := h.1.own_lt k ⟨o, hk⟩
theorem OB.turn {l' : α} (h : OB O wL bs v l w) (p : One O wL (fun k => ∃ o, (k, o) ∈ bs) v l' w' ∧ Stay (fun k => ∃ o, (k, o) ∈ bs) w w') : OB O wL bs v l' w' := ⟨p.1, fun k o hk => (p.2 k ⟨o, hk⟩).trans (h.2 k o hk)⟩
/-- A call that may turn the thing. -/
theorem OB.post {l' : α} (h : OB O wL bs v l w) (C : ∀ F, O.P F v l w → OPost O F v l' w w') : OB O wL bs v l' w' := by
  obtain ⟨F, h1, h2, h3, h4⟩ := h.1
  exact h.turn (one_turn h2 h3 h4 (C F h1))
theorem OB.own (h : OB O wL bs v l w) : ∃ F, O.P F v l w := by obtain ⟨F, h1, _⟩ := h.1; exact ⟨F, h1⟩
theorem OB.get {k : Nat} {o : Obj} (h : OB O wL ((k, o) :: bs) v l w) : w.heap[k]? = some o := h.2 k o (by simp)
theorem OB.get2 {p : Nat × Obj} {k : Nat} {o : Obj} (h : OB O wL (p :: (k, o) :: bs) v l w) : w.heap[k]? = some o := h.2 k o (by simp)
theorem OB.get3 {p q : Nat × Obj} {k : Nat} {o : Obj} (h : OB O wL (p :: q :: (k, o) :: bs) v l w) : w.heap[k]? = some o := h.2 k o (by simp)
/-- A block that is made is the law's own. -/
theorem OB.new (o : Obj) (h : OB O wL bs v l w) : OB O wL ((w.heap.size, o) :: bs) v l (w.alloc o) := by
  have hb : Below w.heap.size w (w.alloc o) := (Below.refl _ _).alloc (Nat.le_refl _) _
  refine ⟨h.1.more hb fun k hk => ?_, fun k o' hk => ?_⟩
  · obtain ⟨o', hk⟩ := hk
    rcases List.mem_cons.1 hk with e | e
    · cases e; exact .inr ⟨Nat.le_refl _, by simp⟩
    · exact .inl ⟨o', e⟩
  · rcases List.mem_cons.1 hk with e | e
    · cases e; exact blk_new w o
    · exact (h.1.stay hb k ⟨o', e⟩).trans (h.2 k o' e)
/-- A block that was made by a call is the law's own. -/
theorem OB.less {cs : List (Nat × Obj)} (h : OB O wL bs v l w) (hs : ∀ p ∈ cs, p ∈ bs) : OB O wL cs v l w :=
  ⟨h.1.less fun k hk => by obtain ⟨o, hk⟩ := hk; exact ⟨o, hs _ hk⟩, fun k o hk => h.2 k o (hs _ hk)⟩
theorem OB.tail {p : Nat × Obj} (h : OB O wL (p :: bs) v l w) : OB O wL bs v l w := h.less fun q hq => by simp [hq]
theorem OB.swap {p q : Nat × Obj} (h : OB O wL (p :: q :: bs) v l w) : OB O wL (q :: p :: bs) v l w := h.less fun r hr => by
  simp only [List.mem_cons] at hr ⊢
  rcases hr with e | e | e
  · exact .inr (.inl e)
  · exact .inl e
  · exact .inr (.inr e)
/-- The first block is written. -/
theorem OB.write {k : Nat} {o o' : Obj} (h : OB O wL ((k, o) :: bs) v l w) (hn : ∀ j p, (j, p) ∈ bs → j ≠ k) (ho : Only k w w') (hk : w'.heap[k]? = some o') : OB O wL ((k, o') :: bs) v l w' := by
  refine ⟨(h.1.write ⟨o, by simp⟩ ho).less fun j hj => ?_, fun j p hj => ?_⟩
  · obtain ⟨p, hj⟩ := hj
    rcases List.mem_cons.1 hj with e | e
    · cases e; exact ⟨o, by simp⟩
    · exact ⟨p, List.mem_cons.2 (.inr e)⟩
  · rcases List.mem_cons.1 hj with e | e
    · cases e; exact hk
    · exact (ho.block j (h.lt (List.mem_cons.2 (.inr e))) (hn j p e)).trans (h.2 j p (List.mem_cons.2 (.inr e)))
theorem ob_start {F : Nat → Prop} (h : O.P F v l w) (hF : ∀ k, F k → wL.heap.size ≤ k) (hb : Below wL.heap.size wL w) : OB O wL [] v l w :=
  ⟨(one_start h hF hb).less fun k hk => by obtain ⟨_, hk⟩ := hk; simp at hk, fun k o hk => by simp at hk⟩
end
end Go.Proofs.Ytjpcghnhekafiaa
