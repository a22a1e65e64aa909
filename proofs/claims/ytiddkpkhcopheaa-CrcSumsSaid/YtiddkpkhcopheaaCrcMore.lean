/- What the table's methods answer. Conditions: texts no longer than any text. -/
import Derived.Test.YtiddkpkhcopheaaCrcOnce
import Derived.BigQuiet
namespace Go.Proofs.Ytiddkpkhcopheaa
open Go.ChangeShapes Go.WideShapes Go.ChangeAt Go.RowKit
set_option linter.unusedVariables false
set_option linter.unusedSimpArgs false

def madeN (d : Bool) : Int := if d then 1 else 0
theorem made_any (b : Nat) (d : Bool) (w : World) (ht : Tab w b d) :
    Calls Try.prog 8 #[.pointer (some ⟨b, 0, none⟩)] w fun e w' => e = .returned (.int .i64 (madeN d)) ∧ w = w' := by
  have c3 : w.cell? ⟨b, 3, none⟩ = some (.int .i64 (madeN d)) := by
    cases d
    · exact TabC.c3 ht
    · exact TabC.c3 ht
  have hl := run_call_load (P := Try.prog) Try.func18 (by kernel_rfl) (by kernel_rfl) (by kernel_rfl) .i64 (by kernel_rfl) c3
  clear ht
  generalize madeN d = m at *
  go_enter Try.func8, Try.ntmps8
  go_wp2
  go_ret
  exact ⟨rfl, rfl⟩
theorem made_nil (w : World) :
    Calls Try.prog 8 #[.pointer none] w fun e w' => e = .returned (.int .i64 0) ∧ w = w' := by
  go_enter Try.func8, Try.ntmps8
  go_wp2
  go_ret
  exact ⟨rfl, rfl⟩
theorem entry_nil (n : Int) (w : World) :
    Calls Try.prog 9 #[.pointer none, .int .i64 n] w fun e w' => e = .returned (.int .u32 0) ∧ w = w' := by
  go_enter Try.func9, Try.ntmps9
  go_wp2
  go_ret
  exact ⟨rfl, rfl⟩
theorem more_nilT (n : Int) (s : ByteArray) (w : World) :
    Calls Try.prog 10 #[.pointer none, .int .u32 n, .string s] w fun e w' => e = .returned (.int .u32 0) ∧ w = w' := by
  go_enter Try.func10, Try.ntmps10
  go_wp2
  go_ret
  exact ⟨rfl, rfl⟩
theorem sum_nil (s : ByteArray) (w : World) :
    Calls Try.prog 11 #[.pointer none, .string s] w fun e w' => e = .returned (.int .u32 0) ∧ w = w' := by
  have H := Lib.hid (more_nilT 0 s w)
  go_enter Try.func11, Try.ntmps11
  go_wp2_with fail
  refine H.out.mono ?_
  rintro e w' ⟨rfl, rfl⟩
  go_wp2_with fail
  go_ret
  exact ⟨rfl, rfl⟩
set_option maxRecDepth 100000 in
theorem entry_any (b : Nat) (d : Bool) (n : Int) (w : World) (ht : Tab w b d) :
    Calls Try.prog 9 #[.pointer (some ⟨b, 0, none⟩), .int .i64 n] w fun e w' => e = .returned (.int .u32 (entryV n : Nat)) ∧ Tab w' b true ∧ Only b w w' := by
  have H := Lib.hid (ready_any b d w ht)
  clear ht
  unfold entryV
  by_cases h : n < 0 ∨ 255 < n
  · rw [if_pos h]
    have hor : n < 0 ∨ (0 ≤ n ∧ 256 ≤ n) := by omega
    rcases hor with h | ⟨h, h2⟩
    · have d1 : decide (n < 0) = true := decide_eq_true h
      go_enter Try.func9, Try.ntmps9
      go_wp2_with fail
      refine H.out.mono ?_
      rintro e w' ⟨rfl, t2, o2⟩
      go_wp2_with fail
      go_ret
      exact ⟨rfl, t2, o2⟩
    · have d1 : decide (n < 0) = false := decide_eq_false (by omega)
      have d2 : decide (256 ≤ n) = true := decide_eq_true h2
      go_enter Try.func9, Try.ntmps9
      go_wp2_with fail
      refine H.out.mono ?_
      rintro e w' ⟨rfl, t2, o2⟩
      go_wp2_with fail
      go_ret
      exact ⟨rfl, t2, o2⟩
  · rw [if_neg h]
    obtain ⟨m, rfl⟩ := Int.eq_ofNat_of_zero_le (show 0 ≤ n by omega)
    have h1 : m < 256 := by omega
    have d1 : decide ((m : Int) < 0) = false := decide_eq_false (by omega)
    have d2 : decide (256 ≤ (m : Int)) = false := decide_eq_false (by omega)
    rw [Int.toNat_natCast]
    go_enter Try.func9, Try.ntmps9
    go_wp2_with fail
    refine H.out.mono ?_
    rintro e w' ⟨rfl, t2, o2⟩
    have c4 := TabC.c4 t2 m h1
    rw [if_pos h1] at c4
    go_wp2_with fail
    go_ret
    exact ⟨rfl, t2, o2⟩
end Go.Proofs.Ytiddkpkhcopheaa
