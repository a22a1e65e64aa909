/- What each function of package num, and of the document's answers for it, returns. Conditions: the arguments fit an int. -/
import Derived.Test.YtaogieelmomfhaaNum0
namespace Go.Proofs.Ytaogieelmomfhaa
open Go.ChangeShapes Go.WideShapes Go.ChangeAt Go.RowKit
set_option linter.unusedVariables false


/-! ### Add -/
theorem add1 (a b : Int) (w : World) (ha : -9223372036854775808 ≤ a) (ha' : a ≤ 9223372036854775807) (hb : -9223372036854775808 ≤ b) (hb' : b ≤ 9223372036854775807) :
    Calls Try.prog 23 #[.int .i64 a, .int .i64 b] w fun e w' => e = .returned (.tuple #[.int .i64 (wrap64 (a + b)), .bool (fitB (a + b))]) ∧ w = w' := by
  by_cases h : 0 < b
  · go_enter Try.func23, Try.ntmps23
    go_wp2
    go_ret2
    exact ⟨pair_ret rfl (addT_pos a b ha ha' hb hb' h), rfl⟩
  · go_enter Try.func23, Try.ntmps23
    go_wp2
    go_ret2
    exact ⟨pair_ret rfl (addT_neg a b ha ha' hb hb' (by omega)), rfl⟩
theorem checkedAdd (a b n : Int) (x : Bool) (w : World) (H : Calls Try.prog 23 #[.int .i64 a, .int .i64 b] w fun e w' => e = .returned (.tuple #[.int .i64 n, .bool x]) ∧ w = w') :
    Calls Try.prog 22 #[.int .i64 a, .int .i64 b, .func (.func 23) #[] #[]] w fun e w' => e = .returned (.tuple #[.int .i64 (if x then n else 0), .bool x]) ∧ w = w' := by
  cases x
  all_goals
    go_enter Try.func22, Try.ntmps22
    go_wp2_with (go_at_call 23; refine H.mono ?_; rintro e w' ⟨rfl, rfl⟩)
    go_ret2
    exact ⟨rfl, rfl⟩
theorem fit_if (n : Int) : (if fitB n = true then wrap64 n else 0) = fitV n := by
  unfold fitV; split
  · rename_i h; exact wrap_fit h
  · rfl
theorem add_any (a b : Int) (w : World) (ha : -9223372036854775808 ≤ a) (ha' : a ≤ 9223372036854775807) (hb : -9223372036854775808 ≤ b) (hb' : b ≤ 9223372036854775807) :
    Calls Try.prog 14 #[.int .i64 a, .int .i64 b] w fun e w' => e = .returned (.tuple #[.int .i64 (fitV (a + b)), .bool (fitB (a + b))]) ∧ w = w' := by
  have H := checkedAdd a b _ _ w (add1 a b w ha ha' hb hb')
  rw [fit_if] at H
  go_enter Try.func14, Try.ntmps14
  go_wp2_with (go_at_call 22; refine H.mono ?_; rintro e w' ⟨rfl, rfl⟩)
  go_ret2
  exact ⟨rfl, rfl⟩

/-! ### Sub -/
theorem sub1 (a b : Int) (w : World) (ha : -9223372036854775808 ≤ a) (ha' : a ≤ 9223372036854775807) (hb : -9223372036854775808 ≤ b) (hb' : b ≤ 9223372036854775807) :
    Calls Try.prog 24 #[.int .i64 a, .int .i64 b] w fun e w' => e = .returned (.tuple #[.int .i64 (wrap64 (a - b)), .bool (fitB (a - b))]) ∧ w = w' := by
  by_cases h : 0 < b
  · go_enter Try.func24, Try.ntmps24
    go_wp2
    go_ret2
    exact ⟨pair_ret rfl (subT_pos a b ha ha' hb hb' h), rfl⟩
  · go_enter Try.func24, Try.ntmps24
    go_wp2
    go_ret2
    exact ⟨pair_ret rfl (subT_neg a b ha ha' hb hb' (by omega)), rfl⟩
theorem checkedSub (a b n : Int) (x : Bool) (w : World) (H : Calls Try.prog 24 #[.int .i64 a, .int .i64 b] w fun e w' => e = .returned (.tuple #[.int .i64 n, .bool x]) ∧ w = w') :
    Calls Try.prog 22 #[.int .i64 a, .int .i64 b, .func (.func 24) #[] #[]] w fun e w' => e = .returned (.tuple #[.int .i64 (if x then n else 0), .bool x]) ∧ w = w' := by
  cases x
  all_goals
    go_enter Try.func22, Try.ntmps22
    go_wp2_with (go_at_call 24; refine H.mono ?_; rintro e w' ⟨rfl, rfl⟩)
    go_ret2
    exact ⟨rfl, rfl⟩
theorem sub_any (a b : Int) (w : World) (ha : -9223372036854775808 ≤ a) (ha' : a ≤ 9223372036854775807) (hb : -9223372036854775808 ≤ b) (hb' : b ≤ 9223372036854775807) :
    Calls Try.prog 16 #[.int .i64 a, .int .i64 b] w fun e w' => e = .returned (.tuple #[.int .i64 (fitV (a - b)), .bool (fitB (a - b))]) ∧ w = w' := by
  have H := checkedSub a b _ _ w (sub1 a b w ha ha' hb hb')
  rw [fit_if] at H
  go_enter Try.func16, Try.ntmps16
  go_wp2_with (go_at_call 22; refine H.mono ?_; rintro e w' ⟨rfl, rfl⟩)
  go_ret2
  exact ⟨rfl, rfl⟩

/-! ### Mul -/
theorem mul1 (a b : Int) (w : World) (ha : -9223372036854775808 ≤ a) (ha' : a ≤ 9223372036854775807) (hb : -9223372036854775808 ≤ b) (hb' : b ≤ 9223372036854775807) :
    Calls Try.prog 25 #[.int .i64 a, .int .i64 b] w fun e w' => e = .returned (.tuple #[.int .i64 (wrap64 (a * b)), .bool (fitB (a * b))]) ∧ w = w' := by
  by_cases h : b = 0
  · subst h
    go_enter Try.func25, Try.ntmps25
    go_wp2
    go_ret2
    exact ⟨pair_ret (by rw [Int.mul_zero, wrap_fit (fitB_yes (by omega) (by omega))]) (by rw [Int.mul_zero, fitB_yes (by omega) (by omega)]), rfl⟩
  · have HM : Hid _ := Lib.hid (mulT a b ha ha' hb hb' h)
    go_enter Try.func25, Try.ntmps25
    go_wp2
    · rename_i h2 h3
      go_ret2
      refine ⟨pair_ret (by rw [h3]) ?_, rfl⟩
      rw [Bool.eq_iff_iff, ← HM.out]
      simp [h3]
      intro _; rw [← h3]; exact h2
    · rename_i h2 h3
      go_ret2
      refine ⟨pair_ret rfl ?_, rfl⟩
      exact (HM.out.1 ⟨h2, fun g => h3 g.1⟩).symm
    · rename_i h2
      go_ret2
      refine ⟨pair_ret rfl ?_, rfl⟩
      exact (Bool.eq_false_iff.2 fun g => h2 (HM.out.2 g).1).symm
theorem checkedMul (a b n : Int) (x : Bool) (w : World) (H : Calls Try.prog 25 #[.int .i64 a, .int .i64 b] w fun e w' => e = .returned (.tuple #[.int .i64 n, .bool x]) ∧ w = w') :
    Calls Try.prog 22 #[.int .i64 a, .int .i64 b, .func (.func 25) #[] #[]] w fun e w' => e = .returned (.tuple #[.int .i64 (if x then n else 0), .bool x]) ∧ w = w' := by
  cases x
  all_goals
    go_enter Try.func22, Try.ntmps22
    go_wp2_with (go_at_call 25; refine H.mono ?_; rintro e w' ⟨rfl, rfl⟩)
    go_ret2
    exact ⟨rfl, rfl⟩
theorem mul_any (a b : Int) (w : World) (ha : -9223372036854775808 ≤ a) (ha' : a ≤ 9223372036854775807) (hb : -9223372036854775808 ≤ b) (hb' : b ≤ 9223372036854775807) :
    Calls Try.prog 18 #[.int .i64 a, .int .i64 b] w fun e w' => e = .returned (.tuple #[.int .i64 (fitV (a * b)), .bool (fitB (a * b))]) ∧ w = w' := by
  have H := checkedMul a b _ _ w (mul1 a b w ha ha' hb hb')
  rw [fit_if] at H
  go_enter Try.func18, Try.ntmps18
  go_wp2_with (go_at_call 22; refine H.mono ?_; rintro e w' ⟨rfl, rfl⟩)
  go_ret2
  exact ⟨rfl, rfl⟩

/-! ### The document's own answers -/
theorem radd_any (a b : Int) (w : World) (ha : -9223372036854775808 ≤ a) (ha' : a ≤ 9223372036854775807) (hb : -9223372036854775808 ≤ b) (hb' : b ≤ 9223372036854775807) :
    Calls Try.prog 15 #[.int .i64 a, .int .i64 b] w fun e w' => e = .returned (.tuple #[.int .i64 (fitV (a + b)), .bool (fitB (a + b))]) ∧ w = w' := by
  by_cases h1 : 0 < b
  · by_cases h2 : a + b ≤ 9223372036854775807
    · rw [fitV_yes (by omega) h2, fitB_yes (by omega) h2]
      go_enter Try.func15, Try.ntmps15
      go_wp2
      go_ret2
      exact ⟨rfl, rfl⟩
    · rw [fitV_no (by omega), fitB_no (by omega)]
      go_enter Try.func15, Try.ntmps15
      go_wp2
      go_ret2
      exact ⟨rfl, rfl⟩
  · by_cases h2 : -9223372036854775808 ≤ a + b
    · rw [fitV_yes h2 (by omega), fitB_yes h2 (by omega)]
      by_cases h3 : b < 0
      all_goals
        go_enter Try.func15, Try.ntmps15
        go_wp2
        go_ret2
        exact ⟨rfl, rfl⟩
    · rw [fitV_no (by omega), fitB_no (by omega)]
      go_enter Try.func15, Try.ntmps15
      go_wp2
      go_ret2
      exact ⟨rfl, rfl⟩
theorem rsub_any (a b : Int) (w : World) (ha : -9223372036854775808 ≤ a) (ha' : a ≤ 9223372036854775807) (hb : -9223372036854775808 ≤ b) (hb' : b ≤ 9223372036854775807) :
    Calls Try.prog 17 #[.int .i64 a, .int .i64 b] w fun e w' => e = .returned (.tuple #[.int .i64 (fitV (a - b)), .bool (fitB (a - b))]) ∧ w = w' := by
  by_cases h1 : b < 0
  · by_cases h2 : a - b ≤ 9223372036854775807
    · rw [fitV_yes (by omega) h2, fitB_yes (by omega) h2]
      go_enter Try.func17, Try.ntmps17
      go_wp2
      go_ret2
      exact ⟨rfl, rfl⟩
    · rw [fitV_no (by omega), fitB_no (by omega)]
      go_enter Try.func17, Try.ntmps17
      go_wp2
      go_ret2
      exact ⟨rfl, rfl⟩
  · by_cases h2 : -9223372036854775808 ≤ a - b
    · rw [fitV_yes h2 (by omega), fitB_yes h2 (by omega)]
      by_cases h3 : 0 < b
      all_goals
        go_enter Try.func17, Try.ntmps17
        go_wp2
        go_ret2
        exact ⟨rfl, rfl⟩
    · rw [fitV_no (by omega), fitB_no (by omega)]
      go_enter Try.func17, Try.ntmps17
      go_wp2
      go_ret2
      exact ⟨rfl, rfl⟩
theorem size_any (a : Int) (w : World) (ha : -9223372036854775808 ≤ a) (ha' : a ≤ 9223372036854775807) :
    Calls Try.prog 26 #[.int .i64 a] w fun e w' => e = .returned (.int .u64 (a.natAbs : Int)) ∧ w = w' := by
  by_cases h : a < 0
  · have e1 : (a.natAbs : Int) = -(a + 1) + 1 := by omega
    rw [e1]; clear e1
    go_enter Try.func26, Try.ntmps26
    go_wp2
    go_ret
    exact ⟨rfl, rfl⟩
  · have e1 : (a.natAbs : Int) = a := by omega
    rw [e1]; clear e1
    go_enter Try.func26, Try.ntmps26
    go_wp2
    go_ret
    exact ⟨rfl, rfl⟩
theorem wrap_mul_fit {a b : Int} (h : fitB (a * b) = true) : wrap64 (a * b) = fitV (a * b) := by
  rw [wrap_fit h]; unfold fitV; rw [if_pos h]
theorem rmul_any (a b : Int) (w : World) (ha : -9223372036854775808 ≤ a) (ha' : a ≤ 9223372036854775807) (hb : -9223372036854775808 ≤ b) (hb' : b ≤ 9223372036854775807) :
    Calls Try.prog 19 #[.int .i64 a, .int .i64 b] w fun e w' => e = .returned (.tuple #[.int .i64 (fitV (a * b)), .bool (fitB (a * b))]) ∧ w = w' := by
  by_cases h0 : a = 0
  · subst h0
    rw [Int.zero_mul, fitV_yes (by omega) (by omega), fitB_yes (by omega) (by omega)]
    go_enter Try.func19, Try.ntmps19
    go_wp2
    go_ret2
    exact ⟨rfl, rfl⟩
  by_cases h1 : b = 0
  · subst h1
    rw [Int.mul_zero, fitV_yes (by omega) (by omega), fitB_yes (by omega) (by omega)]
    go_enter Try.func19, Try.ntmps19
    go_wp2
    go_ret2
    exact ⟨rfl, rfl⟩
  have na : 1 ≤ (a.natAbs : Int) := by omega
  have na' : (a.natAbs : Int) ≤ 9223372036854775808 := by omega
  have nb : 1 ≤ (b.natAbs : Int) := by omega
  have nb' : (b.natAbs : Int) ≤ 9223372036854775808 := by omega
  have z0 : (a == 0) = false := by simpa using h0
  have z1 : (b == 0) = false := by simpa using h1
  by_cases h2 : a < 0
  all_goals by_cases h3 : b < 0
  all_goals cases hf : fitB (a * b)
  all_goals have HF := Lib.hid hf
  all_goals
    first
    | have ht := mulR_same' a b h0 (by omega)
    | have ht := mulR_other' a b h0 h1 (by omega)
    rw [hf] at ht
    simp only [iff_true, Bool.true_eq_false, iff_false, Int.not_lt] at ht
    first
    | (have hv : fitV (a * b) = wrap64 (a * b) := (wrap_mul_fit hf).symm
       rw [hv]; clear hv)
    | (have hv : fitV (a * b) = 0 := by (unfold fitV; rw [hf]; rfl)
       rw [hv]; clear hv)
    clear hf h0 h1
    go_enter Try.func19, Try.ntmps19
    go_wp2_with (go_at_call 26; refine (size_any _ _ (by omega) (by omega)).mono ?_; rintro e w' ⟨rfl, rfl⟩)
    go_ret2
    exact ⟨rfl, rfl⟩
end Go.Proofs.Ytaogieelmomfhaa
