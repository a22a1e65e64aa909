/- What the functions of package num on limits and on lists return. Conditions: the arguments fit an int. -/
import Derived.Test.YtdlkpkigpnlanaaNum0
namespace Go.Proofs.Ytdlkpkigpnlanaa
open Go.ChangeShapes Go.WideShapes Go.ChangeAt Go.RowKit
set_option linter.unusedVariables false
set_option maxRecDepth 100000

/-! ### Right, Span, Later -/
def rightN (n l m : Int) : Bool := decide (l ≤ n ∧ n ≤ m)
def spanV (n l m : Int) : Int := if n < l then l else if m < n then (if m < l then l else m) else n
theorem right_any (n l m : Int) (w : World) :
    Calls Try.prog 19 #[.int .i64 n, .int .i64 l, .int .i64 m] w fun e w' => e = .returned (.bool (rightN n l m)) ∧ w = w' := by
  by_cases h1 : l ≤ n
  · by_cases h2 : n ≤ m
    all_goals
      go_enter Try.func19, Try.ntmps19
      go_wp2
      go_ret
      exact ⟨bool_ret (by unfold rightN; simp; omega), rfl⟩
  · go_enter Try.func19, Try.ntmps19
    go_wp2
    go_ret
    exact ⟨bool_ret (by unfold rightN; simp; omega), rfl⟩
theorem span_any (n l m : Int) (w : World) :
    Calls Try.prog 31 #[.int .i64 n, .int .i64 l, .int .i64 m] w fun e w' => e = .returned (.int .i64 (spanV n l m)) ∧ w = w' := by
  by_cases h1 : m < n
  · by_cases h2 : l < m
    all_goals
      go_enter Try.func31, Try.ntmps31
      go_wp2
      go_ret
      exact ⟨int_ret (by unfold spanV; (repeat' split) <;> omega), rfl⟩
  · by_cases h2 : l < n
    all_goals
      go_enter Try.func31, Try.ntmps31
      go_wp2
      go_ret
      exact ⟨int_ret (by unfold spanV; (repeat' split) <;> omega), rfl⟩
theorem rspan_any (n l m : Int) (w : World) :
    Calls Try.prog 30 #[.int .i64 n, .int .i64 l, .int .i64 m] w fun e w' => e = .returned (.int .i64 (spanV n l m)) ∧ w = w' := by
  by_cases h1 : m < n
  · by_cases h2 : m < l
    all_goals
      go_enter Try.func30, Try.ntmps30
      go_wp2
      go_ret
      exact ⟨int_ret (by unfold spanV; (repeat' split) <;> omega), rfl⟩
  · by_cases h2 : n < l
    all_goals
      go_enter Try.func30, Try.ntmps30
      go_wp2
      go_ret
      exact ⟨int_ret (by unfold spanV; (repeat' split) <;> omega), rfl⟩
theorem spanV_in (n : Int) (l m : Int) (h : l ≤ m) : l ≤ spanV n l m ∧ spanV n l m ≤ m := by
  unfold spanV; (repeat' split) <;> omega
def laterV (n b : Int) : Int := spanV (spanV n 0 1099511627776 + spanV b 0 1099511627776) 0 1099511627776
theorem later_any (n b : Int) (w : World) :
    Calls Try.prog 23 #[.int .i64 n, .int .i64 b] w fun e w' => e = .returned (.int .i64 (laterV n b)) ∧ w = w' := by
  have h1 := (spanV_in n 0 1099511627776 (by omega)).1
  have h2 := (spanV_in n 0 1099511627776 (by omega)).2
  have h3 := (spanV_in b 0 1099511627776 (by omega)).1
  have h4 := (spanV_in b 0 1099511627776 (by omega)).2
  go_enter Try.func23, Try.ntmps23
  go_wp2_with (go_at_call 31; refine (span_any _ _ _ _).mono ?_; rintro e w' ⟨rfl, rfl⟩)
  go_ret
  exact ⟨rfl, rfl⟩
theorem rlater_any (n b : Int) (w : World) :
    Calls Try.prog 20 #[.int .i64 n, .int .i64 b] w fun e w' => e = .returned (.int .i64 (laterV n b)) ∧ w = w' := by
  have h1 := (spanV_in n 0 1099511627776 (by omega)).1
  have h2 := (spanV_in n 0 1099511627776 (by omega)).2
  have h3 := (spanV_in b 0 1099511627776 (by omega)).1
  have h4 := (spanV_in b 0 1099511627776 (by omega)).2
  go_enter Try.func20, Try.ntmps20
  go_wp2_with (go_at_call 30; refine (rspan_any _ _ _ _).mono ?_; rintro e w' ⟨rfl, rfl⟩)
  go_ret
  exact ⟨rfl, rfl⟩
end Go.Proofs.Ytdlkpkigpnlanaa
