/- Plain facts on numbers that fit 64 bits: no Go in sight. Conditions: none. -/
import Derived.WalkKit
namespace Go.Proofs.YtgooepfhapaenaaGreat
open Go.RowKit

/-- Does a number fit an int? -/
def fitB (n : Int) : Bool := decide (-9223372036854775808 ≤ n ∧ n ≤ 9223372036854775807)
/-- The number, or 0 where it does not fit. -/
def fitV (n : Int) : Int := if fitB n then n else 0

theorem fitB_yes {n : Int} (h1 : -9223372036854775808 ≤ n) (h2 : n ≤ 9223372036854775807) : fitB n = true := by
  unfold fitB; exact decide_eq_true ⟨h1, h2⟩
theorem fitB_no {n : Int} (h : ¬ (-9223372036854775808 ≤ n ∧ n ≤ 9223372036854775807)) : fitB n = false := by
  unfold fitB; exact decide_eq_false h
theorem fitV_yes {n : Int} (h1 : -9223372036854775808 ≤ n) (h2 : n ≤ 9223372036854775807) : fitV n = n := by
  unfold fitV; rw [fitB_yes h1 h2]; rfl
theorem fitV_no {n : Int} (h : ¬ (-9223372036854775808 ≤ n ∧ n ≤ 9223372036854775807)) : fitV n = 0 := by
  unfold fitV; rw [fitB_no h]; rfl
theorem fitB_iff (n : Int) : fitB n = true ↔ (-9223372036854775808 ≤ n ∧ n ≤ 9223372036854775807) := by
  unfold fitB; exact decide_eq_true_iff
theorem fitV_le (n : Int) : -9223372036854775808 ≤ fitV n ∧ fitV n ≤ 9223372036854775807 := by
  by_cases h : -9223372036854775808 ≤ n ∧ n ≤ 9223372036854775807
  · rw [fitV_yes h.1 h.2]; exact h
  · rw [fitV_no h]; omega

theorem addT_pos (a b : Int) (ha : -9223372036854775808 ≤ a) (ha' : a ≤ 9223372036854775807) (hb : -9223372036854775808 ≤ b) (hb' : b ≤ 9223372036854775807) (h : 0 < b) :
    decide (a < wrap64 (a + b)) = fitB (a + b) := by
  rw [Bool.eq_iff_iff, fitB_iff, decide_eq_true_iff]; unfold wrap64; omega
theorem addT_neg (a b : Int) (ha : -9223372036854775808 ≤ a) (ha' : a ≤ 9223372036854775807) (hb : -9223372036854775808 ≤ b) (hb' : b ≤ 9223372036854775807) (h : ¬ 0 < b) :
    (!decide (a < wrap64 (a + b))) = fitB (a + b) := by
  rw [Bool.eq_iff_iff, fitB_iff, Bool.not_eq_true', decide_eq_false_iff_not]; unfold wrap64; omega
theorem subT_pos (a b : Int) (ha : -9223372036854775808 ≤ a) (ha' : a ≤ 9223372036854775807) (hb : -9223372036854775808 ≤ b) (hb' : b ≤ 9223372036854775807) (h : 0 < b) :
    decide (wrap64 (a - b) < a) = fitB (a - b) := by
  rw [Bool.eq_iff_iff, fitB_iff, decide_eq_true_iff]; unfold wrap64; omega
theorem subT_neg (a b : Int) (ha : -9223372036854775808 ≤ a) (ha' : a ≤ 9223372036854775807) (hb : -9223372036854775808 ≤ b) (hb' : b ≤ 9223372036854775807) (h : ¬ 0 < b) :
    (!decide (wrap64 (a - b) < a)) = fitB (a - b) := by
  rw [Bool.eq_iff_iff, fitB_iff, Bool.not_eq_true', decide_eq_false_iff_not]; unfold wrap64; omega
theorem wrap_fit {n : Int} (h : fitB n = true) : wrap64 n = n := by
  rw [fitB_iff] at h; unfold wrap64; omega

/-- The division undoes just the products that fit, and that of the least number by -1. -/
theorem mulT (a b : Int) (ha : -9223372036854775808 ≤ a) (ha' : a ≤ 9223372036854775807) (hb : -9223372036854775808 ≤ b) (hb' : b ≤ 9223372036854775807) (h : ¬ b = 0) :
    (wrap64 ((wrap64 (a * b)).tdiv b) = a ∧ ¬ (a = -9223372036854775808 ∧ b = -1)) ↔ fitB (a * b) = true := by
  constructor
  · rintro ⟨h1, h2⟩
    rw [fitB_iff]
    have e := Int.mul_tdiv_add_tmod (wrap64 (a * b)) b
    have hr : -b.natAbs < (wrap64 (a * b)).tmod b ∧ (wrap64 (a * b)).tmod b < b.natAbs := by
      rcases Int.lt_or_gt_of_ne h with hn | hp
      · have g1 := Int.tmod_lt_of_pos (wrap64 (a * b)) (b := -b) (by omega)
        have g2 := Int.lt_tmod_of_pos (wrap64 (a * b)) (b := -b) (by omega)
        rw [Int.tmod_neg] at g1 g2; omega
      · have g1 := Int.tmod_lt_of_pos (wrap64 (a * b)) hp
        have g2 := Int.lt_tmod_of_pos (wrap64 (a * b)) hp
        omega
    have hn : -9223372036854775808 ≤ wrap64 (a * b) ∧ wrap64 (a * b) ≤ 9223372036854775807 := by unfold wrap64; omega
    have hq : ((wrap64 (a * b)).tdiv b).natAbs = (wrap64 (a * b)).natAbs / b.natAbs := Int.natAbs_tdiv _ _
    have hw : ∃ k : Int, a * b = wrap64 (a * b) + 18446744073709551616 * k := ⟨(a * b + 9223372036854775808) / 18446744073709551616, by unfold wrap64; omega⟩
    generalize wrap64 (a * b) = n at *
    by_cases hin : -9223372036854775808 ≤ n.tdiv b ∧ n.tdiv b ≤ 9223372036854775807
    · rw [wrap_fit ((fitB_iff _).2 hin)] at h1
      rw [h1, Int.mul_comm] at e
      obtain ⟨k, hk⟩ := hw
      omega
    · exfalso
      have h3 : n.natAbs / b.natAbs ≤ n.natAbs := Nat.div_le_self _ _
      have h4 : n.tdiv b = 9223372036854775808 := by omega
      have h5 : n = -9223372036854775808 := by omega
      have h6 : b.natAbs = 1 := by
        by_cases h7 : b.natAbs = 1
        · exact h7
        · have h8 : n.natAbs / b.natAbs ≤ n.natAbs / 2 := Nat.div_le_div_left (by omega) (by omega)
          omega
      have h9 : b = -1 := by
        rcases (show b = 1 ∨ b = -1 by omega) with rfl | rfl
        · rw [Int.tdiv_one] at h4; omega
        · rfl
      refine h2 ⟨?_, h9⟩
      rw [h4] at h1; rw [← h1]; unfold wrap64; decide
  · intro hf
    rw [wrap_fit hf, Int.mul_tdiv_cancel _ h, wrap_fit ((fitB_iff a).2 ⟨ha, ha'⟩)]
    refine ⟨rfl, ?_⟩
    rintro ⟨rfl, rfl⟩
    rw [fitB_iff] at hf; omega
/-- The document's own test of a product, by sizes. -/
theorem mulR_same (a b : Int) (ha : ¬ a = 0) (hs : a < 0 ↔ b < 0) :
    (9223372036854775807 / a.natAbs < b.natAbs) ↔ fitB (a * b) = false := by
  have e : (a * b).natAbs = b.natAbs * a.natAbs := by rw [Int.natAbs_mul, Nat.mul_comm]
  have hp : 0 ≤ a * b := by
    rcases Int.lt_or_le a 0 with h | h
    · exact Int.mul_nonneg_of_nonpos_of_nonpos (by omega) (by omega)
    · exact Int.mul_nonneg h (by omega)
  rw [Nat.div_lt_iff_lt_mul (by omega), ← e, ← Bool.not_eq_true, fitB_iff]
  omega
theorem mulR_other (a b : Int) (ha : ¬ a = 0) (hb : ¬ b = 0) (hs : ¬ (a < 0 ↔ b < 0)) :
    (9223372036854775808 / a.natAbs < b.natAbs) ↔ fitB (a * b) = false := by
  have e : (a * b).natAbs = b.natAbs * a.natAbs := by rw [Int.natAbs_mul, Nat.mul_comm]
  have hp : a * b ≤ 0 := by
    rcases Int.lt_or_le a 0 with h | h
    · exact Int.mul_nonpos_of_nonpos_of_nonneg (by omega) (by omega)
    · exact Int.mul_nonpos_of_nonneg_of_nonpos h (by omega)
  rw [Nat.div_lt_iff_lt_mul (by omega), ← e, ← Bool.not_eq_true, fitB_iff]
  omega

theorem mulR_int (c x y : Nat) : ((c : Int) / (x : Int) < (y : Int)) ↔ c / x < y := by
  rw [← Int.natCast_ediv]; exact Int.ofNat_lt
theorem mulR_same' (a b : Int) (ha : ¬ a = 0) (hs : a < 0 ↔ b < 0) : ((9223372036854775807 : Int) / (a.natAbs : Int) < (b.natAbs : Int)) ↔ fitB (a * b) = false :=
  (mulR_int 9223372036854775807 _ _).trans (mulR_same a b ha hs)
theorem mulR_other' (a b : Int) (ha : ¬ a = 0) (hb : ¬ b = 0) (hs : ¬ (a < 0 ↔ b < 0)) : ((9223372036854775808 : Int) / (a.natAbs : Int) < (b.natAbs : Int)) ↔ fitB (a * b) = false :=
  (mulR_int 9223372036854775808 _ _).trans (mulR_other a b ha hb hs)

end Go.Proofs.YtgooepfhapaenaaGreat
