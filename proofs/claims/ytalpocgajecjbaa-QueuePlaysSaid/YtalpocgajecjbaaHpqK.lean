/- What Take of a heap comes to. Conditions: as stated. -/
import Derived.Test.YtalpocgajecjbaaHpqJ
namespace Go.Proofs.Ytalpocgajecjbaa
open Go.ChangeShapes Go.WideShapes Go.ChangeAt Go.RowKit
set_option linter.unusedVariables false
set_option maxRecDepth 100000
set_option linter.unusedSimpArgs false
variable {X : List Value × TypeId}

theorem hpost_set3 {F F' : Nat → Prop} {v : Value} {l : List Thg} {w W2 : World} {kb : Nat} (key : V3) (h : HPX X F' v l W2) (ht : Turned F w W2) (hF : ∀ k, F' k → F k ∨ w.heap.size ≤ k) (hkb : w.heap.size ≤ kb) (hn : ¬ F' kb) : HPostX X F v l w (set3 W2.drew kb key) := by
  have ho := set3_only W2.drew kb key
  have hk : ∀ k, k ≠ kb → (set3 W2.drew kb key).heap[k]? = W2.heap[k]? := fun k hk => by
    unfold set3
    rw [Below.heap_setCell _ _ _ _ hk, Below.heap_setCell _ _ _ _ hk, Below.heap_setCell _ _ _ _ hk]; rfl
  refine ⟨F', hp_keep h (fun k hk2 => hk k (fun e => hn (e ▸ hk2))) ho.size, ht.trans (G := fun k => k = kb) ⟨ho.os, ho.tape, ho.output, ho.size, fun k _ hne => hk k hne⟩ (fun k hk => .inr (by rw [hk]; exact hkb)), hF⟩
theorem drop_head {t : Thg} {r : List Thg} (h : Sorted (t :: r)) : dropT (t :: r) t.id = r := by
  have e : dropT (t :: r) t.id = dropT r t.id := by simp [dropT]
  rw [e, drop_same]
  exact fun s hs q => (List.pairwise_cons.1 h.2.2).1 s hs q.symm
end Go.Proofs.Ytalpocgajecjbaa
