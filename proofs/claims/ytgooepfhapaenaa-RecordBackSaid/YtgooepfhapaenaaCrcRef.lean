/- What the document's halvings, its sums and its entries come to. Conditions: numbers of 32 bits, texts no longer than any text. -/
import Derived.Test.YtgooepfhapaenaaRows
import Derived.Test.YtgooepfhapaenaaCrcPlain
namespace Go.Proofs.Ytgooepfhapaenaa
open Go.ChangeShapes Go.WideShapes Go.ChangeAt Go.RowKit
set_option linter.unusedVariables false
set_option maxRecDepth 100000
set_option linter.unusedSimpArgs false

/-- One round of the document's: odd, or not. -/
theorem half_odd {x : Nat} (h : x % 2 = 1) (hx : x < 4294967296) : bits .xor .u32 ((x : Int) / 2) 3988292384 = (half x : Nat) := by
  unfold half
  rw [if_pos h]
  have := u32_xor_nat (x / 2) 3988292384 (by omega) (by omega)
  simpa using this
theorem half_not {x : Nat} (h : ¬ x % 2 = 1) : (half x : Int) = (x : Int) / 2 := by
  unfold half
  rw [if_neg h]; omega
set_option maxRecDepth 100000 in
theorem halved_any (n : Nat) (w : World) (hn : n < 4294967296) :
    Calls Try.prog 73 #[.int .u32 n] w fun e w' => e = .returned (.int .u32 (stp n : Nat)) ∧ w = w' := by
  have hlt := fun j => halves_lt j hn
  have hsc := fun j => halves_succ j n
  have h0 : halves 0 n = n := rfl
  have h8 : stp n = halves 8 n := by unfold stp; rfl
  rw [h8]
  clear h8
  generalize halves = H at *
  go_enter Try.func73, Try.ntmps73
  go_wp2_with fail
  go_loop [0, 4] (fun x i => ∃ j : Nat, j ≤ 8 ∧ x = .int .u32 (H j n : Nat) ∧ i = .int .i64 j) (fun _ i => 8 - (intOf i).toNat)
  case atStart => exact ⟨0, by omega, by rw [h0], rfl⟩
  case round =>
    obtain ⟨j, hj, rfl, rfl⟩ := hrel
    have hx := hlt j
    have hs := hsc j
    generalize hX : H j n = x at *
    have HX := Lib.hid hX
    clear hX
    by_cases hj8 : j < 8
    · have c : decide ((j : Int) < 8) = true := decide_eq_true (by omega)
      have HS := Lib.hid hs
      clear hs hsc
      have hb : bits .and .u32 (x : Int) 1 = ((x % 2 : Nat) : Int) := by
        have := u32_and_nat x 1 hx (by omega)
        rw [Nat.and_one_is_mod] at this
        exact this
      by_cases ho : x % 2 = 1
      · rw [ho] at hb
        go_wp2_with fail
        go_round
        case rel => exact ⟨j + 1, by omega, by rw [half_odd ho hx, HS.out], by simp⟩
        case measure => simp [intOf]; omega
      · have ho' : x % 2 = 0 := by omega
        rw [ho'] at hb
        go_wp2_with fail
        go_round
        case rel => exact ⟨j + 1, by omega, by rw [HS.out, half_not ho], by simp⟩
        case measure => simp [intOf]; omega
    · obtain rfl : j = 8 := by omega
      clear hs hsc
      go_wp2_with fail
      go_ret
      rw [HX.out]
      exact ⟨rfl, rfl⟩

theorem inv_bits_max (n : Nat) (h : n < 4294967296) : bits .xor .u32 IntKind.u32.max (n : Int) = (inv n : Nat) := inv_bits n h
/-- The entry of a number. -/
def entryV (n : Int) : Nat := if n < 0 ∨ 255 < n then 0 else stp n.toNat
end Go.Proofs.Ytgooepfhapaenaa
