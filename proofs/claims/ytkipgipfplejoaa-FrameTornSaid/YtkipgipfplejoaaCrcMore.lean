/- What the table's methods answer. Conditions: texts no longer than any text. -/
import Derived.Test.YtkipgipfplejoaaCrcOnce
import Derived.BigQuiet
namespace Go.Proofs.Ytkipgipfplejoaa
open Go.ChangeShapes Go.WideShapes Go.ChangeAt Go.RowKit
set_option linter.unusedVariables false
set_option maxRecDepth 100000
set_option linter.unusedSimpArgs false

def madeN (d : Bool) : Int := if d then 1 else 0
theorem more_nilT (n : Int) (s : ByteArray) (w : World) :
    Calls Try.prog 33 #[.pointer none, .int .u32 n, .string s] w fun e w' => e = .returned (.int .u32 0) ∧ w = w' := by
  go_enter Try.func33, Try.ntmps33
  go_wp2
  go_ret
  exact ⟨rfl, rfl⟩
theorem sum_nil (s : ByteArray) (w : World) :
    Calls Try.prog 25 #[.pointer none, .string s] w fun e w' => e = .returned (.int .u32 0) ∧ w = w' := by
  have H := Lib.hid (more_nilT 0 s w)
  go_enter Try.func25, Try.ntmps25
  go_wp2_with fail
  refine H.out.mono ?_
  rintro e w' ⟨rfl, rfl⟩
  go_wp2_with fail
  go_ret
  exact ⟨rfl, rfl⟩
end Go.Proofs.Ytkipgipfplejoaa
