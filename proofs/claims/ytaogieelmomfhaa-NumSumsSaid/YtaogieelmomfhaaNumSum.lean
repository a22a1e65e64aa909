/- What the sum of a list is. Conditions: the list's numbers can be read. -/
import Derived.Test.YtaogieelmomfhaaNum
namespace Go.Proofs.Ytaogieelmomfhaa
open Go.ChangeShapes Go.WideShapes Go.ChangeAt Go.RowKit
set_option linter.unusedVariables false

/-- The sum of the first so many numbers, if each step fits. -/
def sumTo (f : Nat → Int) : Nat → Option Int
  | 0 => some 0
  | k + 1 => match sumTo f k with
    | some t => if fitB (t + f k) then some (t + f k) else none
    | none => none
theorem sumTo_in (f : Nat → Int) (k : Nat) (t : Int) (h : sumTo f k = some t) : -9223372036854775808 ≤ t ∧ t ≤ 9223372036854775807 := by
  cases k with
  | zero => simp [sumTo] at h; omega
  | succ k =>
    unfold sumTo at h
    split at h
    · split at h
      · rename_i g; rw [fitB_iff] at g; simp at h; omega
      · simp at h
    · simp at h
theorem sumTo_yes (f : Nat → Int) (k : Nat) (t : Int) (h : sumTo f k = some t) (g : fitB (t + f k) = true) : sumTo f (k + 1) = some (t + f k) := by
  unfold sumTo; rw [h]; simp [g]
theorem sumTo_no (f : Nat → Int) (k n : Nat) (t : Int) (h : sumTo f k = some t) (g : fitB (t + f k) = false) (hn : k < n) : sumTo f n = none := by
  induction n with
  | zero => omega
  | succ n ih =>
    by_cases e : k = n
    · subst e; unfold sumTo; rw [h]; simp [g]
    · unfold sumTo; rw [ih (by omega)]
def sumV (f : Nat → Int) (n : Nat) : Int := (sumTo f n).getD 0
def sumB (f : Nat → Int) (n : Nat) : Bool := (sumTo f n).isSome
theorem fitV_of {n : Int} (h : fitB n = true) : fitV n = n := by unfold fitV; rw [h]; rfl
theorem fitV_not {n : Int} (h : fitB n = false) : fitV n = 0 := by unfold fitV; rw [h]; rfl

set_option maxHeartbeats 400000 in
theorem sum_any (f : Nat → Int) (b off len cap : Nat) (w : World) (hm : len ≤ 9223372036854775807)
    (hf : ∀ i, i < len → -9223372036854775808 ≤ f i ∧ f i ≤ 9223372036854775807)
    (hc : ∀ i, i < len → w.cell? ⟨b, off + i, none⟩ = some (.int .i64 (f i))) :
    Calls Try.prog 20 #[.slice (some ⟨b, off, none⟩) len cap] w fun e w' => e = .returned (.tuple #[.int .i64 (sumV f len), .bool (sumB f len)]) ∧ w = w' := by
  have HF := Lib.hid hf; clear hf
  have HC := Lib.hid hc; clear hc
  go_enter Try.func20, Try.ntmps20
  go_wp2
  go_loop [4, 11] (fun t i => ∃ k : Nat, ∃ s : Int, k ≤ len ∧ sumTo f k = some s ∧ t = .int .i64 s ∧ i = .int .i64 k) (fun _ i => len - (intOf i).toNat)
  case atStart => exact ⟨0, 0, Nat.zero_le _, rfl, rfl, rfl⟩
  case round =>
    obtain ⟨k, s, hk, hs, rfl, rfl⟩ := hrel
    have hs1 := (sumTo_in f k s hs).1
    have hs2 := (sumTo_in f k s hs).2
    have HS := Lib.hid hs; clear hs
    by_cases hlt : k < len
    · have hf1 := (HF.out k hlt).1
      have hf2 := (HF.out k hlt).2
      have hc := HC.out k hlt
      have ha := add_any s (f k) w hs1 hs2 hf1 hf2
      cases hb : fitB (s + f k)
      · rw [hb] at ha
        have HB := Lib.hid hb; clear hb
        go_wp2_with (go_at_call 14; refine ha.mono ?_; rintro e w' ⟨rfl, rfl⟩)
        go_ret2
        exact ⟨pair_ret (by unfold sumV; rw [sumTo_no f k len s HS.out HB.out hlt]; rfl) (by unfold sumB; rw [sumTo_no f k len s HS.out HB.out hlt]; rfl), rfl⟩
      · rw [hb, fitV_of hb] at ha
        have HB := Lib.hid hb; clear hb
        go_wp2_with (go_at_call 14; refine ha.mono ?_; rintro e w' ⟨rfl, rfl⟩)
        go_round
        case rel => exact ⟨k + 1, _, by omega, sumTo_yes f k s HS.out HB.out, rfl, by go_num⟩
        case measure => simp [intOf]; omega
    · have e : k = len := by omega
      subst e
      go_wp2
      go_ret2
      exact ⟨pair_ret (by unfold sumV; rw [HS.out]; rfl) (by unfold sumB; rw [HS.out]; rfl), rfl⟩

set_option maxHeartbeats 400000 in
theorem rsum_any (f : Nat → Int) (b off len cap : Nat) (w : World) (hm : len ≤ 9223372036854775807)
    (hf : ∀ i, i < len → -9223372036854775808 ≤ f i ∧ f i ≤ 9223372036854775807)
    (hc : ∀ i, i < len → w.cell? ⟨b, off + i, none⟩ = some (.int .i64 (f i))) :
    Calls Try.prog 21 #[.slice (some ⟨b, off, none⟩) len cap] w fun e w' => e = .returned (.tuple #[.int .i64 (sumV f len), .bool (sumB f len)]) ∧ w = w' := by
  have HF := Lib.hid hf; clear hf
  have HC := Lib.hid hc; clear hc
  go_enter Try.func21, Try.ntmps21
  go_wp2
  go_loop [4, 5] (fun t i => ∃ k : Nat, ∃ s : Int, k ≤ len ∧ sumTo f k = some s ∧ t = .int .i64 s ∧ i = .int .i64 k) (fun _ i => len - (intOf i).toNat)
  case atStart => exact ⟨0, 0, Nat.zero_le _, rfl, rfl, rfl⟩
  case round =>
    obtain ⟨k, s, hk, hs, rfl, rfl⟩ := hrel
    have hs1 := (sumTo_in f k s hs).1
    have hs2 := (sumTo_in f k s hs).2
    have HS := Lib.hid hs; clear hs
    by_cases hlt : k < len
    · have hf1 := (HF.out k hlt).1
      have hf2 := (HF.out k hlt).2
      have hc := HC.out k hlt
      have ha := radd_any s (f k) w hs1 hs2 hf1 hf2
      cases hb : fitB (s + f k)
      · rw [hb] at ha
        have HB := Lib.hid hb; clear hb
        go_wp2_with (go_at_call 15; refine ha.mono ?_; rintro e w' ⟨rfl, rfl⟩)
        go_ret2
        exact ⟨pair_ret (by unfold sumV; rw [sumTo_no f k len s HS.out HB.out hlt]; rfl) (by unfold sumB; rw [sumTo_no f k len s HS.out HB.out hlt]; rfl), rfl⟩
      · rw [hb, fitV_of hb] at ha
        have HB := Lib.hid hb; clear hb
        go_wp2_with (go_at_call 15; refine ha.mono ?_; rintro e w' ⟨rfl, rfl⟩)
        go_round
        case rel => exact ⟨k + 1, _, by omega, sumTo_yes f k s HS.out HB.out, rfl, by go_num⟩
        case measure => simp [intOf]; omega
    · have e : k = len := by omega
      subst e
      go_wp2
      go_ret2
      exact ⟨pair_ret (by unfold sumV; rw [HS.out]; rfl) (by unfold sumB; rw [HS.out]; rfl), rfl⟩

theorem sum_empty (a : Option Addr) (cap : Nat) (w : World) :
    Calls Try.prog 20 #[.slice a 0 cap] w fun e w' => e = .returned (.tuple #[.int .i64 0, .bool true]) ∧ w = w' := by
  go_enter Try.func20, Try.ntmps20
  go_wp2
  go_rounds 1
  go_ret2
  exact ⟨rfl, rfl⟩
theorem rsum_empty (a : Option Addr) (cap : Nat) (w : World) :
    Calls Try.prog 21 #[.slice a 0 cap] w fun e w' => e = .returned (.tuple #[.int .i64 0, .bool true]) ∧ w = w' := by
  go_enter Try.func21, Try.ntmps21
  go_wp2
  go_rounds 1
  go_ret2
  exact ⟨rfl, rfl⟩
end Go.Proofs.Ytaogieelmomfhaa
