/- The document's Same, at slices that read the same; what must come (awake). Conditions: none. -/
import Derived.Test.YtkipgipfplejoaaFrmRef
namespace Go.Proofs.Ytkipgipfplejoaa
open Go.ChangeShapes Go.WideShapes Go.ChangeAt Go.RowKit
set_option linter.unusedVariables false
set_option maxRecDepth 100000
set_option linter.unusedSimpArgs false

set_option maxHeartbeats 1000000 in
theorem same_true (v1 v2 : Value) (xs : List ByteArray) (B : Nat) (w : World) (hn : xs.length ≤ 1000000) (h1 : Rd w B v1 (xs.map .string)) (h2 : Rd w B v2 (xs.map .string)) :
    Calls Try.prog 12 #[v1, v2] w fun e w' => e = .returned (.bool true) ∧ ∃ n, w' = w.drewN n := by
  obtain ⟨A1, c1, rfl, hc1, _⟩ := h1.form
  obtain ⟨A2, c2, rfl, hc2, _⟩ := h2.form
  have H1 := Lib.hid fun k (hk : k < xs.length) => h1.at_ (k := k) (by simpa using hk)
  have H2 := Lib.hid fun k (hk : k < xs.length) => h2.at_ (k := k) (by simpa using hk)
  have hm : (xs.map Value.string).length = xs.length := by simp
  rw [hm]
  clear h1 h2 hc1 hc2 hm
  go_enter Try.func12, Try.ntmps12
  go_wp2_with fail
  go_loopw [5] (fun i wr => ∃ k n : Nat, k ≤ xs.length ∧ i = .int .i64 k ∧ wr = w.drewN n) (fun i _ => xs.length - (intOf i).toNat)
  case atStart => exact ⟨0, 0, by omega, rfl, rfl⟩
  case round =>
    obtain ⟨k, n, hk, rfl, rfl⟩ := hrel
    by_cases hlt : k < xs.length
    · obtain ⟨b1, o1, rfl, hb1, hx1⟩ := H1.out k hlt
      obtain ⟨b2, o2, rfl, hb2, hx2⟩ := H2.out k hlt
      have g1 : w.cell? ⟨b1, o1 + k, none⟩ = some (.string xs[k]) := by have := hx1 k (by simpa using hlt); simpa using this
      have g2 : w.cell? ⟨b2, o2 + k, none⟩ = some (.string xs[k]) := by have := hx2 k (by simpa using hlt); simpa using this
      have dk : decide (k < xs.length) = true := decide_eq_true hlt
      generalize xs[k] = x at *
      clear hx1 hx2 H1 H2
      go_wp2_with fail
      go_quiet (fail)
      go_wp2_with fail
      go_roundw
      case rel => exact ⟨k + 1, _, by omega, by go_num, rfl⟩
      case measure => simp [intOf]; omega
    · have dk : decide (k < xs.length) = false := decide_eq_false hlt
      go_wp2_with fail
      go_ret
      exact ⟨rfl, _, rfl⟩

theorem aw_open : openB (sealL [97] ++ [120]) = [97] ∧ openN (sealL [97] ++ [120]) = 8 ∧ openE (sealL [97] ++ [120]) = 0 := by
  refine ⟨openB_seal _ _ (by decide), ?_, open_seal _ _ (by decide)⟩
  rw [openN_seal _ _ (by decide), sealL_length]; rfl
theorem aw_bad : openB [120] = [] ∧ openN [120] = 0 ∧ openE [120] = 2 := by decide
theorem aw_all : bodies (sealL [97] ++ (sealL [97] ++ [82])) = [[97], [97]] ∧ used (sealL [97] ++ (sealL [97] ++ [82])) = 16 := by
  have e : openE [82] ≠ 0 := by decide
  rw [bodies_seal _ _ (by decide), bodies_seal _ _ (by decide), used_seal _ _ (by decide), used_seal _ _ (by decide), bodies_end e, used_end e, sealL_length]
  exact ⟨rfl, rfl⟩
theorem aw_four : (bs (sealL [97])).extract 0 4 = ByteArray.mk #[82, 0, 1, 97] := by
  rw [← bs_of ((bs (sealL [97])).extract 0 4), extract_list, bs_list]
  have : ((sealL [97]).take 4).drop 0 = [82, 0, 1, 97] := by simp [sealL, lenL, fixL]
  rw [this]; rfl
set_option maxHeartbeats 1000000 in
theorem awake_any (w : World) : Calls Try.prog 5 #[] w fun e w' => e = .returned (.bool true) ∧ Below w.heap.size w w' := by
  have hS := fun w => fseal_any (ByteArray.mk #[97]) w (by decide)
  have e1 : sealE (ByteArray.mk #[97]) = 0 := rfl
  have e2 : sealT (ByteArray.mk #[97]) = bs (sealL [97]) := rfl
  rw [e1, e2] at hS
  have z8 : (bs (sealL [97])).size = 8 := by rw [bs_size, sealL_length]; rfl
  have x1 : bs (sealL [97]) ++ ByteArray.mk #[120] = bs (sealL [97] ++ [120]) := by rw [show ByteArray.mk #[120] = bs [120] from rfl, bs_append]
  have x2 : bs (sealL [97]) ++ bs (sealL [97]) ++ ByteArray.mk #[82] = bs (sealL [97] ++ (sealL [97] ++ [82])) := by rw [show ByteArray.mk #[82] = bs [82] from rfl, bs_append, bs_append, List.append_assoc]
  have z9 : (bs (sealL [97] ++ [120])).size = 9 := by rw [bs_size, List.length_append, sealL_length]; rfl
  have z17 : (bs (sealL [97] ++ (sealL [97] ++ [82]))).size = 17 := by rw [bs_size, List.length_append, List.length_append, sealL_length]; rfl
  have z16 : (bs (sealL [97]) ++ bs (sealL [97])).size = 16 := by rw [ByteArray.size_append, z8]
  have hO1 := fun w => fopen_any (bs (sealL [97] ++ [120])) w (by omega)
  rw [bs_list, aw_open.1, aw_open.2.1, aw_open.2.2, show bs [97] = ByteArray.mk #[97] from rfl] at hO1
  have hO2 := fun w => fopen_any (ByteArray.mk #[120]) w (by decide)
  rw [show (ByteArray.mk #[120]).data.toList = [120] from rfl, aw_bad.1, aw_bad.2.1, aw_bad.2.2] at hO2
  have hA := fun w => fall_any (bs (sealL [97] ++ (sealL [97] ++ [82]))) w (by omega)
  rw [bs_list] at hA
  unfold AllR at hA
  rw [aw_all.1, aw_all.2] at hA
  have hsl := fun w => run_slice_string_h (P := Try.prog) w 9 (bs (sealL [97])) (by kernel_rfl) .i64 (4 : Int) (by omega) (by omega)
  rw [show (4 : Int).toNat = 4 from rfl, aw_four] at hsl
  have HS := Lib.hid hS
  have HO1 := Lib.hid hO1
  have HO2 := Lib.hid hO2
  have HA := Lib.hid hA
  have X1 := Lib.hid x1
  have X2 := Lib.hid x2
  clear hS e1 e2 x1 x2 hO1 hO2 hA
  generalize bs (sealL [97] ++ [120]) = S1 at *
  generalize bs (sealL [97] ++ (sealL [97] ++ [82])) = S2 at *
  generalize bs (sealL [97]) = S8 at *
  go_enter Try.func5, Try.ntmps5
  go_wp2_with fail
  refine (HS.out _).mono ?_
  rintro e w2 ⟨rfl, b2⟩
  go_wp2_with fail
  rw [X1.out]
  refine (HO1.out _).mono ?_
  rintro e w3 ⟨rfl, b3⟩
  go_wp2_with fail
  refine (HO2.out _).mono ?_
  rintro e w4 ⟨rfl, b4⟩
  go_wp2_with fail
  rw [X2.out]
  refine (HA.out _).mono ?_
  rintro e w5 ⟨v, rfl, hr, b5⟩
  obtain ⟨A, c, rfl, _, _⟩ := hr.form
  have hb := Lib.hid (((b2.trans (b3.mono b2.size)).trans (b4.mono (Nat.le_trans b2.size b3.size))).trans (b5.mono (Nat.le_trans b2.size (Nat.le_trans b3.size b4.size))))
  clear hr b2 b3 b4 b5
  rw [show (strs [[97], [97]]).length = 2 from rfl]
  go_wp2_with fail
  go_ret
  exact ⟨rfl, hb.out⟩
end Go.Proofs.Ytkipgipfplejoaa
