/- What the functions of package num on limits and on lists return. Conditions: the arguments fit an int. -/
import Derived.Test.YtgooepfhapaenaaGreatNum0
namespace Go.Proofs.YtgooepfhapaenaaGreat
open Go.ChangeShapes Go.WideShapes Go.ChangeAt Go.RowKit
set_option linter.unusedVariables false
set_option maxRecDepth 100000

/-! ### Right, Span, Later -/
def rightN (n l m : Int) : Bool := decide (l ≤ n ∧ n ≤ m)
def spanV (n l m : Int) : Int := if n < l then l else if m < n then (if m < l then l else m) else n
theorem right_any (n l m : Int) (w : World) :
    Calls Tryz.prog 57 #[.int .i64 n, .int .i64 l, .int .i64 m] w fun e w' => e = .returned (.bool (rightN n l m)) ∧ w = w' := by
  by_cases h1 : l ≤ n
  · by_cases h2 : n ≤ m
    all_goals
      go_enter Tryz.func57, Tryz.ntmps57
      go_wp2
      go_ret
      exact ⟨bool_ret (by unfold rightN; simp; omega), rfl⟩
  · go_enter Tryz.func57, Tryz.ntmps57
    go_wp2
    go_ret
    exact ⟨bool_ret (by unfold rightN; simp; omega), rfl⟩
theorem span_any (n l m : Int) (w : World) :
    Calls Tryz.prog 82 #[.int .i64 n, .int .i64 l, .int .i64 m] w fun e w' => e = .returned (.int .i64 (spanV n l m)) ∧ w = w' := by
  by_cases h1 : m < n
  · by_cases h2 : l < m
    all_goals
      go_enter Tryz.func82, Tryz.ntmps82
      go_wp2
      go_ret
      exact ⟨int_ret (by unfold spanV; (repeat' split) <;> omega), rfl⟩
  · by_cases h2 : l < n
    all_goals
      go_enter Tryz.func82, Tryz.ntmps82
      go_wp2
      go_ret
      exact ⟨int_ret (by unfold spanV; (repeat' split) <;> omega), rfl⟩
theorem spanV_in (n : Int) (l m : Int) (h : l ≤ m) : l ≤ spanV n l m ∧ spanV n l m ≤ m := by
  unfold spanV; (repeat' split) <;> omega
def laterV (n b : Int) : Int := spanV (spanV n 0 1099511627776 + spanV b 0 1099511627776) 0 1099511627776
end Go.Proofs.YtgooepfhapaenaaGreat
