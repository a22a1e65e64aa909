/- What the cursor's number gives. Conditions: the text is no longer than any text. -/
import Derived.Test.YtkipgipfplejoaaOctG
import Derived.Deep.WholeRow
namespace Go.Proofs.Ytkipgipfplejoaa
open Go.ChangeShapes Go.WideShapes Go.ChangeAt Go.RowKit
set_option linter.unusedVariables false
set_option maxRecDepth 100000
set_option linter.unusedSimpArgs false
theorem grpA_at (l : List UInt8) (k i : Nat) (h : i < k) (h9 : i < 9) (hi : i < l.length) : (grpA l k)[i]? = some (.int .u8 (l[i]).toNat) := by
  unfold grpA
  rw [varA_at _ _ (by rw [List.length_take]; omega), List.getElem_take]
theorem i64_or7 (x y : Nat) (hx : x < 72057594037927936) (hy : y < 128) : bits .or .i64 ((x : Int) * 128) (y : Int) = ((x * 128 + y : Nat) : Int) := by
  have := bits_join .i64 63 (by decide) (fun n h0 h1 => IntWalk.i64_in _ (by omega)) 7 ((x : Int) * 128) (y : Int) (by omega) (by omega) (by omega) (by omega) (by omega) (by omega)
  rw [this]; omega

end Go.Proofs.Ytkipgipfplejoaa
