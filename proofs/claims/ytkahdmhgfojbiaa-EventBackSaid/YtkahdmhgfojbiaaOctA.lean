/- What octet.Fixed returns. Conditions: the number fits. -/
import Derived.Test.YtkahdmhgfojbiaaRows
import Derived.Test.YtkahdmhgfojbiaaOctPlain
namespace Go.Proofs.Ytkahdmhgfojbiaa
open Go.ChangeShapes Go.WideShapes Go.ChangeAt Go.RowKit
set_option linter.unusedVariables false
set_option maxRecDepth 100000
set_option linter.unusedSimpArgs false

/-- Cells of bytes. -/
def u8s (l : List UInt8) : Array Value := (l.map fun b => Value.int .u8 b.toNat).toArray
theorem u8s_get (l : List UInt8) (i : Nat) (h : i < l.length) : (u8s l)[i]? = some (.int .u8 (l[i]).toNat) := by
  simp [u8s, h]
theorem u8s_size (l : List UInt8) : (u8s l).size = l.length := by simp [u8s]
theorem u8s_set (l r : List UInt8) (b c : UInt8) : (u8s (l ++ c :: r)).setIfInBounds l.length (.int .u8 b.toNat) = u8s (l ++ b :: r) := by
  simp [u8s, List.setIfInBounds_toArray]

/-- The array behind so many rounds. -/
def fixA (n size j : Nat) : Array Value := u8s (List.replicate (size - j) 0 ++ (fixL n j ++ List.replicate (8 - size) 0))
theorem fixA_zero (n size : Nat) (h : size ≤ 8) : fixA n size 0 = #[Value.int IntKind.u8 0, Value.int IntKind.u8 0, Value.int IntKind.u8 0, Value.int IntKind.u8 0, Value.int IntKind.u8 0, Value.int IntKind.u8 0, Value.int IntKind.u8 0, Value.int IntKind.u8 0] := by
  simp [fixA, fixL, u8s, show size + (8 - size) = 8 by omega]
theorem fixA_succ (n size j : Nat) (h : j < size) : (fixA n size j).setIfInBounds (size - 1 - j) (.int .u8 (UInt8.ofNat (n / 256 ^ j)).toNat) = fixA n size (j + 1) := by
  unfold fixA
  have e : List.replicate (size - j) (0 : UInt8) = List.replicate (size - 1 - j) 0 ++ [0] := by
    rw [show size - j = (size - 1 - j) + 1 by omega, List.replicate_succ']
  rw [e, List.append_assoc, List.singleton_append]
  have := u8s_set (List.replicate (size - 1 - j) 0) (fixL n j ++ List.replicate (8 - size) 0) (UInt8.ofNat (n / 256 ^ j)) 0
  rw [List.length_replicate] at this
  rw [this, show size - (j + 1) = size - 1 - j by omega]; rfl
theorem fixA_get (n size j i : Nat) (h : size ≤ 8) (hj : j ≤ size) (hi : i < 8) : ∃ v, (fixA n size j)[i]? = some v := by
  refine ⟨_, Array.getElem?_eq_getElem ?_⟩
  unfold fixA; rw [u8s_size]; simp [fixL_length]; omega
theorem fixA_last (n size i : Nat) (hi : i < size) : (fixA n size size)[i]? = some (.int .u8 ((fixL n size)[i]'(by rw [fixL_length]; exact hi)).toNat) := by
  unfold fixA
  rw [u8s_get _ _ (by simp [fixL_length]; omega)]
  simp [List.getElem_append, fixL_length, hi]

set_option maxRecDepth 100000 in
theorem fixed_in (n size : Nat) (w : World) (hn : n < 18446744073709551616) (h1 : 1 ≤ size) (h8 : size ≤ 8) :
    Calls Try.prog 15 #[.int .u64 n, .int .i64 size] w fun e w' => e = .returned (.string (bs (fixL n size))) ∧ Below w.heap.size w w' := by
  have d1 : decide ((size : Int) < 1) = false := decide_eq_false (by omega)
  have d2 : decide ((8 : Int) < size) = false := decide_eq_false (by omega)
  go_enter Try.func15, Try.ntmps15
  go_wp2
  go_loopw [0, 6] (fun x i wr => ∃ j : Nat, j ≤ size ∧ x = .int .u64 ((n / 256 ^ j : Nat) : Int) ∧ i = .int .i64 ((size : Int) - 1 - j) ∧ wr = w.alloc (.cells (fixA n size j) 55)) (fun _ i _ => (intOf i + 1).toNat)
  case atStart => exact ⟨0, by omega, by simp, by simp, by rw [fixA_zero n size h8]⟩
  case round =>
    obtain ⟨j, hj, rfl, rfl, rfl⟩ := hrel
    by_cases hlt : j < size
    · obtain ⟨v, hv⟩ := fixA_get n size j (size - 1 - j) h8 hj (by omega)
      go_wp2
      go_roundw
      case rel => exact ⟨j + 1, by omega, by rw [Nat.pow_succ, ← Nat.div_div_eq_div_mul]; simp, by go_num, by rw [← fixA_succ n size j hlt]; simp⟩
      case measure => simp [intOf]; omega
    · obtain rfl : j = size := by omega
      have hsl := run_sliceAt_arr_h (P := Try.prog) (w.alloc (.cells (fixA n j j) 55)) 55 5 8 1 (by kernel_rfl) (fun _ => by simp [go_sem]) ⟨w.heap.size, 0, none⟩ .i64 j (by omega) (by omega)
      have hcv := run_convert_bytes_back (P := Try.prog) (w.alloc (.cells (fixA n j j) 55)) 57 9 5 ⟨w.heap.size, 0, none⟩ 8 (fixL n j) (by kernel_rfl) (by kernel_rfl) (by kernel_rfl) (fun i hi => by
        rw [fixL_length] at hi
        have := fixA_last n j i hi
        by_cases h0 : i = 0
        · subst h0; simp [Addr.add]; exact this
        · simp [Addr.add, h0]; exact this)
      rw [fixL_length] at hcv
      go_wp2
      go_ret
      exact ⟨rfl, (Below.refl _ _).alloc (Nat.le_refl _) _⟩
def fixS (n : Nat) (size : Int) : ByteArray := if 1 ≤ size ∧ size ≤ 8 then bs (fixL n size.toNat) else bs []
set_option maxRecDepth 100000 in
theorem fixed_any (x size : Int) (w : World) (h0 : 0 ≤ x) (hx : x < 18446744073709551616) :
    Calls Try.prog 15 #[.int .u64 x, .int .i64 size] w fun e w' => e = .returned (.string (fixS x.toNat size)) ∧ Below w.heap.size w w' := by
  by_cases h : 1 ≤ size ∧ size ≤ 8
  · have := fixed_in x.toNat size.toNat w (by omega) (by omega) (by omega)
    rw [Int.toNat_of_nonneg h0, Int.toNat_of_nonneg (by omega)] at this
    unfold fixS; rw [if_pos h]; exact this
  · unfold fixS; rw [if_neg h]
    by_cases h1 : size < 1
    · go_enter Try.func15, Try.ntmps15
      go_wp2
      go_ret
      exact ⟨rfl, Below.refl _ _⟩
    · have h2 : 8 < size := by omega
      clear h
      go_enter Try.func15, Try.ntmps15
      go_wp2
      go_ret
      exact ⟨rfl, Below.refl _ _⟩
set_option maxRecDepth 100000 in
theorem rfixed_in (n size : Nat) (w : World) (hn : n < 18446744073709551616) (h1 : 1 ≤ size) (h8 : size ≤ 8) :
    Calls Try.prog 18 #[.int .u64 n, .int .i64 size] w fun e w' => e = .returned (.string (bs (fixL n size))) ∧ Below w.heap.size w w' := by
  have d1 : decide ((size : Int) < 1) = false := decide_eq_false (by omega)
  have d2 : decide ((8 : Int) < size) = false := decide_eq_false (by omega)
  go_enter Try.func18, Try.ntmps18
  go_wp2
  go_loopw [0, 5, 6] (fun x s i wr => ∃ j : Nat, j ≤ size ∧ x = .int .u64 ((n / 256 ^ j : Nat) : Int) ∧ s = .string (bs (fixL n j)) ∧ i = .int .i64 j ∧ Below w.heap.size w wr) (fun _ _ i _ => size - (intOf i).toNat)
  case atStart => exact ⟨0, by omega, by simp, rfl, by simp, Below.refl _ _⟩
  case round =>
    obtain ⟨j, hj, rfl, rfl, rfl, hb⟩ := hrel
    by_cases hlt : j < size
    · have hsz : (bs (fixL n j)).size ≤ 8 := by rw [bs_size, fixL_length]; omega
      have hcv := fun (w : World) (v : Int) => conv_new (P := Try.prog) w 57 9 5 v _ rfl (by kernel_rfl) (by kernel_rfl) (by kernel_rfl)
      have hm1 : n / 256 ^ j < 18446744073709551616 := Nat.lt_of_le_of_lt (Nat.div_le_self _ _) hn
      have hm2 : n / 256 ^ (j + 1) = n / 256 ^ j / 256 := by rw [Nat.pow_succ, Nat.div_div_eq_div_mul]
      have hm3 : bs [UInt8.ofNat (n / 256 ^ j % 256)] ++ bs (fixL n j) = bs (fixL n (j + 1)) := by
        rw [bs_append, show fixL n (j + 1) = UInt8.ofNat (n / 256 ^ j) :: fixL n j from rfl]
        rw [show UInt8.ofNat (n / 256 ^ j % 256) = UInt8.ofNat (n / 256 ^ j) by rw [← UInt8.toNat_inj]; simp]; rfl
      generalize n / 256 ^ j = m at *
      have hs1 : (bs [UInt8.ofNat (m % 256)]).size ≤ 1 := by rw [bs_size]; simp
      have HM2 := Lib.hid hm2
      have HM3 := Lib.hid hm3
      clear hm2 hm3
      go_wp2
      go_roundw
      case rel => exact ⟨j + 1, by omega, by rw [HM2.out]; simp, by rw [HM3.out], by go_num, hb.alloc hb.size _⟩
      case measure => simp [intOf]; omega
    · obtain rfl : j = size := by omega
      go_wp2
      go_ret
      exact ⟨rfl, by assumption⟩
set_option maxRecDepth 100000 in
theorem rfixed_any (x size : Int) (w : World) (h0 : 0 ≤ x) (hx : x < 18446744073709551616) :
    Calls Try.prog 18 #[.int .u64 x, .int .i64 size] w fun e w' => e = .returned (.string (fixS x.toNat size)) ∧ Below w.heap.size w w' := by
  by_cases h : 1 ≤ size ∧ size ≤ 8
  · have := rfixed_in x.toNat size.toNat w (by omega) (by omega) (by omega)
    rw [Int.toNat_of_nonneg h0, Int.toNat_of_nonneg (by omega)] at this
    unfold fixS; rw [if_pos h]; exact this
  · unfold fixS; rw [if_neg h]
    by_cases h1 : size < 1
    · go_enter Try.func18, Try.ntmps18
      go_wp2
      go_ret
      exact ⟨rfl, Below.refl _ _⟩
    · have h2 : 8 < size := by omega
      clear h
      go_enter Try.func18, Try.ntmps18
      go_wp2
      go_ret
      exact ⟨rfl, Below.refl _ _⟩
end Go.Proofs.Ytkahdmhgfojbiaa
