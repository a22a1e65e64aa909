/- What the document's halvings, its sums and its entries come to. Conditions: numbers of 32 bits, texts no longer than any text. -/
import Derived.Test.YtgooepfhapaenaaGreatRows
import Derived.Test.YtgooepfhapaenaaGreatCrcPlain
namespace Go.Proofs.YtgooepfhapaenaaGreat
open Go.ChangeShapes Go.WideShapes Go.ChangeAt Go.RowKit
set_option linter.unusedVariables false
set_option maxRecDepth 100000
set_option linter.unusedSimpArgs false

/-- One round of the document's: odd, or not. -/
theorem half_odd {x : Nat} (h : x % 2 = 1) (hx : x < 4294967296) : bits .xor .u32 ((x : Int) / 2) 3988292384 = (half x : Nat) := by
  unfold half
  rw [if_pos h]
  have := u32_xor_nat (x / 2) 3988292384 (by omega) (by omega)
  simpa using this
theorem half_not {x : Nat} (h : ¬ x % 2 = 1) : (half x : Int) = (x : Int) / 2 := by
  unfold half
  rw [if_neg h]; omega
set_option maxRecDepth 100000 in
theorem step_any (n : Nat) (w : World) (hn : n < 4294967296) :
    Calls Tryz.prog 78 #[.int .u32 n] w fun e w' => e = .returned (.int .u32 (stp n : Nat)) ∧ w = w' := by
  have hlt := fun j => halves_lt j hn
  have hsc := fun j => halves_succ j n
  have h0 : halves 0 n = n := rfl
  have h8 : stp n = halves 8 n := by unfold stp; rfl
  rw [h8]
  clear h8
  generalize halves = H at *
  go_enter Tryz.func78, Tryz.ntmps78
  go_wp2_with fail
  go_loop [0, 3] (fun x i => ∃ j : Nat, j ≤ 8 ∧ x = .int .u32 (H j n : Nat) ∧ i = .int .i64 j) (fun _ i => 8 - (intOf i).toNat)
  case atStart => exact ⟨0, by omega, by rw [h0], rfl⟩
  case round =>
    obtain ⟨j, hj, rfl, rfl⟩ := hrel
    have hx := hlt j
    have hs := hsc j
    generalize hX : H j n = x at *
    have HX := Lib.hid hX
    clear hX
    by_cases hj8 : j < 8
    · have c : decide ((j : Int) < 8) = true := decide_eq_true (by omega)
      have HS := Lib.hid hs
      clear hs hsc
      by_cases ho : x % 2 = 1
      · have ho' : (x : Int) % 2 = 1 := by omega
        go_wp2_with fail
        go_round
        case rel => exact ⟨j + 1, by omega, by rw [half_odd ho hx, HS.out], by simp⟩
        case measure => simp [intOf]; omega
      · have ho' : ((x : Int) % 2 == 1) = false := by simp; omega
        go_wp2_with fail
        go_round
        case rel => exact ⟨j + 1, by omega, by rw [HS.out, half_not ho], by simp⟩
        case measure => simp [intOf]; omega
    · obtain rfl : j = 8 := by omega
      clear hs hsc
      go_wp2_with fail
      go_ret
      rw [HX.out]
      exact ⟨rfl, rfl⟩
set_option maxRecDepth 100000 in
theorem halved_any (n : Nat) (w : World) (hn : n < 4294967296) :
    Calls Tryz.prog 92 #[.int .u32 n] w fun e w' => e = .returned (.int .u32 (stp n : Nat)) ∧ w = w' := by
  have hlt := fun j => halves_lt j hn
  have hsc := fun j => halves_succ j n
  have h0 : halves 0 n = n := rfl
  have h8 : stp n = halves 8 n := by unfold stp; rfl
  rw [h8]
  clear h8
  generalize halves = H at *
  go_enter Tryz.func92, Tryz.ntmps92
  go_wp2_with fail
  go_loop [0, 4] (fun x i => ∃ j : Nat, j ≤ 8 ∧ x = .int .u32 (H j n : Nat) ∧ i = .int .i64 j) (fun _ i => 8 - (intOf i).toNat)
  case atStart => exact ⟨0, by omega, by rw [h0], rfl⟩
  case round =>
    obtain ⟨j, hj, rfl, rfl⟩ := hrel
    have hx := hlt j
    have hs := hsc j
    generalize hX : H j n = x at *
    have HX := Lib.hid hX
    clear hX
    by_cases hj8 : j < 8
    · have c : decide ((j : Int) < 8) = true := decide_eq_true (by omega)
      have HS := Lib.hid hs
      clear hs hsc
      have hb : bits .and .u32 (x : Int) 1 = ((x % 2 : Nat) : Int) := by
        have := u32_and_nat x 1 hx (by omega)
        rw [Nat.and_one_is_mod] at this
        exact this
      by_cases ho : x % 2 = 1
      · rw [ho] at hb
        go_wp2_with fail
        go_round
        case rel => exact ⟨j + 1, by omega, by rw [half_odd ho hx, HS.out], by simp⟩
        case measure => simp [intOf]; omega
      · have ho' : x % 2 = 0 := by omega
        rw [ho'] at hb
        go_wp2_with fail
        go_round
        case rel => exact ⟨j + 1, by omega, by rw [HS.out, half_not ho], by simp⟩
        case measure => simp [intOf]; omega
    · obtain rfl : j = 8 := by omega
      clear hs hsc
      go_wp2_with fail
      go_ret
      rw [HX.out]
      exact ⟨rfl, rfl⟩

theorem inv_bits_max (n : Nat) (h : n < 4294967296) : bits .xor .u32 IntKind.u32.max (n : Int) = (inv n : Nat) := inv_bits n h
set_option maxRecDepth 100000 in
theorem rmore_any (n : Nat) (s : ByteArray) (w : World) (hn : n < 4294967296) (hs : s.size ≤ 9223372036854775000) :
    Calls Tryz.prog 65 #[.int .u32 n, .string s] w fun e w' => e = .returned (.int .u32 (more n s.data.toList : Nat)) ∧ w = w' := by
  have hi := inv_bits_max n hn
  have hsg : IntKind.u32.signed = false := rfl
  have hL : s.data.toList.length = s.size := data_len s
  have hm : more n s.data.toList = inv (reg (inv n) s.data.toList) := rfl
  have hI := inv_lt hn
  have hlt := fun k => reg_lt (s.data.toList.take k) hI
  have hsc := fun k (h : k < s.size) => reg_take s.data.toList (inv n) k (by omega)
  have h0 : reg (inv n) (s.data.toList.take 0) = inv n := rfl
  rw [hm]
  clear hm
  have h8 : reg (inv n) s.data.toList = reg (inv n) (s.data.toList.take s.size) := by rw [List.take_of_length_le (by omega)]
  rw [h8]
  clear h8
  generalize inv n = v at *
  generalize hR : (fun k => reg v (s.data.toList.take k)) = R at *
  have hRk : ∀ k, reg v (s.data.toList.take k) = R k := fun k => by rw [← hR]
  simp only [hRk] at *
  clear hR hRk
  go_enter Tryz.func65, Tryz.ntmps65
  go_wp2_with fail
  go_loop [5, 6] (fun x i => ∃ k : Nat, k ≤ s.size ∧ x = .int .u32 (R k : Nat) ∧ i = .int .i64 k) (fun _ i => s.size - (intOf i).toNat)
  case atStart => exact ⟨0, by omega, by rw [h0], rfl⟩
  case round =>
    obtain ⟨k, hk, rfl, rfl⟩ := hrel
    have hx := hlt k
    by_cases hlk : k < s.size
    · have hsk := hsc k hlk
      have hg : s.data.toList[k]'(by omega) = s[k] := by simp; rfl
      rw [hg] at hsk
      clear hg
      have hc := s[k].toNat_lt
      have hb : bits .xor .u32 (R k : Int) (s[k].toNat : Int) = ((R k ^^^ s[k].toNat : Nat) : Int) := u32_xor_nat _ _ hx (by omega)
      have hy : R k ^^^ s[k].toNat < 4294967296 := xor_byte_lt hx _
      have q : (s[k].toNat : Int) % 4294967296 = (s[k].toNat : Int) := by omega
      have HST := Lib.hid (step_any _ w hy)
      generalize R k ^^^ s[k].toNat = y at *
      have HS := Lib.hid hsk
      clear hsk hsc hlt hy
      go_wp2_with fail
      refine HST.out.mono ?_
      rintro e w' ⟨rfl, rfl⟩
      go_wp2_with fail
      go_round
      case rel => exact ⟨k + 1, by omega, by rw [HS.out], by go_num⟩
      case measure => simp [intOf]; omega
    · obtain rfl : k = s.size := by omega
      have hi2 := inv_bits_max _ hx
      clear hsc hlt
      generalize hV : inv (R s.size) = V at *
      have HV := Lib.hid hV
      clear hV
      go_wp2_with fail
      go_ret
      rw [HV.out]
      exact ⟨rfl, rfl⟩
theorem crsum_any (s : ByteArray) (w : World) (hs : s.size ≤ 9223372036854775000) :
    Calls Tryz.prog 51 #[.string s] w fun e w' => e = .returned (.int .u32 (more 0 s.data.toList : Nat)) ∧ w = w' := by
  have h := Lib.hid (rmore_any 0 s w (by omega) hs)
  generalize more 0 s.data.toList = v at *
  go_enter Tryz.func51, Tryz.ntmps51
  go_wp2_with fail
  refine h.out.mono ?_
  rintro e w' ⟨rfl, rfl⟩
  go_wp2_with fail
  go_ret
  exact ⟨rfl, rfl⟩
/-- The entry of a number. -/
def entryV (n : Int) : Nat := if n < 0 ∨ 255 < n then 0 else stp n.toNat
end Go.Proofs.YtgooepfhapaenaaGreat
