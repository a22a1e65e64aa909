/- The law's own guard holds. No conditions. -/
import Derived.Test.YtgooepfhapaenaaCrcSum
namespace Go.Proofs.Ytgooepfhapaenaa
open Go.ChangeShapes Go.WideShapes Go.ChangeAt Go.RowKit
set_option linter.unusedVariables false
set_option maxRecDepth 100000
set_option linter.unusedSimpArgs false

theorem tab_new (w : World) : Tab (w.alloc (.cells (cellsC 0 0 0 0) 106)) w.heap.size false := blk_new _ _
theorem cawS (b : Nat) (d : Bool) (w : World) (ht : Tab w b d) :
    Calls Try.prog 47 #[.pointer (some ⟨b, 0, none⟩), .string { data := #[49, 50, 51, 52, 53, 54, 55, 56, 57] }] w fun e w' => e = .returned (.int .u32 3421780262) ∧ Tab w' b true ∧ Only b w w' := by
  have h := tsum_any b d { data := #[49, 50, 51, 52, 53, 54, 55, 56, 57] } w (by decide) ht
  rw [more_check] at h
  exact h
theorem awT (b : Nat) (d : Bool) (w : World) (ht : Tab w b d) :
    Calls Try.prog 47 #[.pointer (some ⟨b, 0, none⟩), .string { data := #[49, 50, 51, 52] }] w fun e w' => e = .returned (.int .u32 (more 0 [49, 50, 51, 52] : Nat)) ∧ Tab w' b true ∧ Only b w w' :=
  tsum_any b d { data := #[49, 50, 51, 52] } w (by decide) ht
theorem awM (b : Nat) (d : Bool) (w : World) (ht : Tab w b d) :
    Calls Try.prog 59 #[.pointer (some ⟨b, 0, none⟩), .int .u32 (more 0 [49, 50, 51, 52] : Nat), .string { data := #[53, 54, 55, 56, 57] }] w fun e w' => e = .returned (.int .u32 3421780262) ∧ Tab w' b true ∧ Only b w w' := by
  have h := more_any b d (more 0 [49, 50, 51, 52]) { data := #[53, 54, 55, 56, 57] } w (more_lt (by omega) _) (by decide) ht
  rw [more_1234] at h
  exact h
end Go.Proofs.Ytgooepfhapaenaa
