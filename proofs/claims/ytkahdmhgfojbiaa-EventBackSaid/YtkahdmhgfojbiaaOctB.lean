/- What octet.Var and the document's Var return. Conditions: the number fits. -/
import Derived.Test.YtkahdmhgfojbiaaOctA
namespace Go.Proofs.Ytkahdmhgfojbiaa
open Go.ChangeShapes Go.WideShapes Go.ChangeAt Go.RowKit
set_option linter.unusedVariables false
set_option maxRecDepth 100000
set_option linter.unusedSimpArgs false

set_option maxRecDepth 100000 in
theorem rvar_in (n : Nat) : ∀ (w : World), n < 9223372036854775808 →
    Calls Try.prog 20 #[.int .i64 n] w fun e w' => e = .returned (.string (bs (varL n))) ∧ Below w.heap.size w w' := by
  induction n using Nat.strongRecOn with
  | ind n ih =>
    intro w hn
    by_cases h : n < 128
    · rw [varL_lt h]
      clear ih
      have hcv := fun (w : World) => conv_new (P := Try.prog) w 57 9 5 n (UInt8.ofNat n) (by simp) (by kernel_rfl) (by kernel_rfl) (by kernel_rfl)
      go_enter Try.func20, Try.ntmps20
      go_wp2_with fail
      go_ret
      exact ⟨rfl, (Below.refl _ _).alloc (Nat.le_refl _) _⟩
    · have ih' := fun w => ih (n / 128) (by omega) w (by omega)
      have hl := varL_len (n / 128) 9 (by have : 128 ^ 9 = 9223372036854775808 := by decide
                                          omega) (by omega)
      have hv : UInt8.ofNat ((n : Int) % 128 + 128).toNat = UInt8.ofNat (n % 128 + 128) := by
        rw [show ((n : Int) % 128 + 128).toNat = n % 128 + 128 by omega]
      rw [show ((n / 128 : Nat) : Int) = (n : Int) / 128 by omega] at ih'
      rw [varL_ge h]
      clear ih
      generalize varL (n / 128) = V at *
      generalize UInt8.ofNat (n % 128 + 128) = c at *
      have hs1 : (bs [c]).size ≤ 1 := by rw [bs_size]; simp
      have hs2 : (bs V).size ≤ 9 := by rw [bs_size]; exact hl
      have IH := fun w => Lib.hid (ih' w)
      clear ih' hl
      have q1 : (n : Int).tmod 128 = (n : Int) % 128 := by rw [Int.tmod_eq_emod_of_nonneg (by omega)]
      have q2 : IntKind.i64.wrap ((n : Int) % 128 + 128) = (n : Int) % 128 + 128 := IntWalk.i64_in _ (by omega)
      have q3 : IntKind.i64.wrap ((n : Int) / 128) = (n : Int) / 128 := IntWalk.i64_in _ (by omega)
      have q4 : IntKind.u8.wrap ((n : Int) % 128 + 128) = (n : Int) % 128 + 128 := IntWalk.u8_in _ (by omega)
      have hcv := fun (w : World) => conv_new (P := Try.prog) w 57 9 5 ((n : Int) % 128 + 128) c hv (by kernel_rfl) (by kernel_rfl) (by kernel_rfl)
      have hcd := fun (w : World) => conv_new_drew (P := Try.prog) w 57 9 5 ((n : Int) % 128 + 128) c hv (by kernel_rfl) (by kernel_rfl) (by kernel_rfl)
      have hcb := fun (w w1 : World) => conv_new_below (P := Try.prog) w w1 57 9 5 ((n : Int) % 128 + 128) c hv (by kernel_rfl) (by kernel_rfl) (by kernel_rfl)
      have HCB := Lib.hid hcb
      have HV := Lib.hid hv
      clear hcb hv
      go_enter Try.func20, Try.ntmps20
      go_wp2_with fail
      go_region_with (go_at_call 20; (with_reducible refine (IH _).out.mono ?_); rintro e w1 ⟨rfl, hb⟩; first | (have hcw := HCB.out w w1; with_reducible specialize hcw hb) | skip)
      all_goals go_wp2_with fail
      all_goals go_ret
      all_goals refine ⟨str_ret (bs_append _ _), ?_⟩
      all_goals first
        | exact (((Below.refl _ _).alloc (Nat.le_refl _) _).drew).trans (hb.mono (by simp))
        | exact ((((Below.refl _ _).drew).trans hb).alloc hb.size _)
end Go.Proofs.Ytkahdmhgfojbiaa
