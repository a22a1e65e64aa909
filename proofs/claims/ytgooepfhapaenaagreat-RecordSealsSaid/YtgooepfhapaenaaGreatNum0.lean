/- Small equations. -/
import Derived.Test.YtgooepfhapaenaaGreatRows
import Derived.WalkKit
import Derived.ProofKit
import Derived.Outline
import Derived.Handy
import Derived.Lib.Hide
import Derived.Test.YtgooepfhapaenaaGreatNumPlain
namespace Go.Proofs.YtgooepfhapaenaaGreat
open Go.ChangeShapes Go.WideShapes Go.ChangeAt Go.RowKit
theorem pair_ret {a c : Int} {x y : Bool} (h : a = c) (g : x = y) : Ending.returned (.tuple #[.int .i64 a, .bool x]) = .returned (.tuple #[.int .i64 c, .bool y]) := by rw [h, g]
theorem bool_ret {x y : Bool} (g : x = y) : Ending.returned (.bool x) = .returned (.bool y) := by rw [g]
theorem int_ret {x y : Int} (g : x = y) : Ending.returned (.int .i64 x) = .returned (.int .i64 y) := by rw [g]
end Go.Proofs.YtgooepfhapaenaaGreat
