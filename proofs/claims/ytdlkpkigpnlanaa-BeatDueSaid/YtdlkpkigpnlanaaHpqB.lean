/- What package heap's compare and Less come to. Conditions: as stated. -/
import Derived.Test.YtdlkpkigpnlanaaHpqA
import Derived.Test.YtdlkpkigpnlanaaHolds
namespace Go.Proofs.Ytdlkpkigpnlanaa
open Go.ChangeShapes Go.WideShapes Go.ChangeAt Go.RowKit
set_option linter.unusedVariables false
set_option maxRecDepth 100000
set_option linter.unusedSimpArgs false

/-- What only grew. -/
def Grw (w w' : World) : Prop := ∃ q os, w' = Go.Sort.grow (w.drewN q) os
theorem Grw.below {w w' : World} (h : Grw w w') : Below w.heap.size w w' := by
  obtain ⟨q, os, rfl⟩ := h; exact grow_below w q os
theorem below_drew1 {B : Nat} {a w : World} (h : Below B a w) : Below B a w.drew := ⟨h.os, h.tape, h.output, h.size, h.block⟩
theorem k3_cells {w w' : World} {b o : Nat} {v : V3} (h : K3 b o v w) (hk : ∀ i, i < 3 → w'.cell? ⟨b, o + i, none⟩ = w.cell? ⟨b, o + i, none⟩) : K3 b o v w' := fun k h3 => (hk k h3).trans (h k h3)
theorem k3_alloc {w : World} {b o : Nat} {v : V3} (h : K3 b o v w) (ob : Obj) (hb : b < w.heap.size) : K3 b o v (w.alloc ob) :=
  k3_cells h fun i _ => ((Below.refl w.heap.size w).alloc (Nat.le_refl _) ob).cell (p := ⟨b, o + i, none⟩) hb
end Go.Proofs.Ytdlkpkigpnlanaa
