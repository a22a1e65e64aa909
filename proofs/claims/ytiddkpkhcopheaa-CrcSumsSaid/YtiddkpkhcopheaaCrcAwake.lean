/- The law's own guard holds. No conditions. -/
import Derived.Test.YtiddkpkhcopheaaCrcSum
namespace Go.Proofs.Ytiddkpkhcopheaa
open Go.ChangeShapes Go.WideShapes Go.ChangeAt Go.RowKit
set_option linter.unusedVariables false
set_option linter.unusedSimpArgs false

theorem tab_new (w : World) : Tab (w.alloc (.cells (cellsC 0 0 0 0) 42)) w.heap.size false := blk_new _ _
theorem awS (b : Nat) (d : Bool) (w : World) (ht : Tab w b d) :
    Calls Try.prog 11 #[.pointer (some ⟨b, 0, none⟩), .string { data := #[49, 50, 51, 52, 53, 54, 55, 56, 57] }] w fun e w' => e = .returned (.int .u32 3421780262) ∧ Tab w' b true ∧ Only b w w' := by
  have h := sum_any b d { data := #[49, 50, 51, 52, 53, 54, 55, 56, 57] } w (by decide) ht
  rw [more_check] at h
  exact h
theorem awT (b : Nat) (d : Bool) (w : World) (ht : Tab w b d) :
    Calls Try.prog 11 #[.pointer (some ⟨b, 0, none⟩), .string { data := #[49, 50, 51, 52] }] w fun e w' => e = .returned (.int .u32 (more 0 [49, 50, 51, 52] : Nat)) ∧ Tab w' b true ∧ Only b w w' :=
  sum_any b d { data := #[49, 50, 51, 52] } w (by decide) ht
theorem awM (b : Nat) (d : Bool) (w : World) (ht : Tab w b d) :
    Calls Try.prog 10 #[.pointer (some ⟨b, 0, none⟩), .int .u32 (more 0 [49, 50, 51, 52] : Nat), .string { data := #[53, 54, 55, 56, 57] }] w fun e w' => e = .returned (.int .u32 3421780262) ∧ Tab w' b true ∧ Only b w w' := by
  have h := more_any b d (more 0 [49, 50, 51, 52]) { data := #[53, 54, 55, 56, 57] } w (more_lt (by omega) _) (by decide) ht
  rw [more_1234] at h
  exact h
set_option maxRecDepth 100000 in
theorem awake_any (w : World) : Calls Try.prog 6 #[] w fun e w' => e = .returned (.bool true) ∧ Below w.heap.size w w' := by
  have t1 := tab_new w
  have b1 := (Below.refl w.heap.size w).alloc (Nat.le_refl _) (.cells (cellsC 0 0 0 0) 42)
  have hB : w.heap.size ≤ (w.alloc (.cells (cellsC 0 0 0 0) 42)).heap.size := b1.size
  have N := Lib.hid (new_any w)
  generalize w.alloc (.cells (cellsC 0 0 0 0) 42) = w1 at *
  have M1 := Lib.hid (made_any _ false w1 t1)
  have S1 := Lib.hid (awS _ false w1 t1)
  clear t1
  go_enter Try.func6, Try.ntmps6
  go_wp2_with fail
  refine N.out.mono ?_
  rintro e w' ⟨rfl, rfl⟩
  go_wp2_with fail
  refine M1.out.mono ?_
  rintro e w' ⟨rfl, rfl⟩
  go_wp2_with fail
  refine S1.out.mono ?_
  rintro e w2 ⟨rfl, t2, o2⟩
  have b2 := b1.trans (o2.below (Nat.le_refl _) hB)
  have hB2 := Nat.le_trans hB o2.size
  have M2 := Lib.hid (made_any _ true w2 t2)
  have S2 := Lib.hid (awT _ true w2 t2)
  have z : ((madeN false : Int) == 0) = true := rfl
  have z1 : ((madeN true : Int) == 1) = true := rfl
  clear t2 o2
  go_wp2_with fail
  refine M2.out.mono ?_
  rintro e w' ⟨rfl, rfl⟩
  go_wp2_with fail
  refine S2.out.mono ?_
  rintro e w3 ⟨rfl, t3, o3⟩
  have b3 := b2.trans (o3.below (Nat.le_refl _) hB2)
  have hB3 := Nat.le_trans hB2 o3.size
  have M3 := Lib.hid (awM _ true w3 t3)
  clear t3 o3
  go_wp2_with fail
  refine M3.out.mono ?_
  rintro e w4 ⟨rfl, t4, o4⟩
  have b4 := b3.trans (o4.below (Nat.le_refl _) hB3)
  go_wp2_with fail
  go_ret
  exact ⟨rfl, b4⟩
end Go.Proofs.Ytiddkpkhcopheaa
