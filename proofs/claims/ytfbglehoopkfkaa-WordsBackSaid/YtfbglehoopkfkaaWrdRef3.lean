/- What the document's own answers for finds and cuts come to. Conditions: texts of at most 100,000 bytes. -/
import Derived.Test.YtfbglehoopkfkaaWrdRef2
namespace Go.Proofs.Ytfbglehoopkfkaa
open Go.ChangeShapes Go.WideShapes Go.ChangeAt Go.RowKit
set_option linter.unusedVariables false
set_option maxRecDepth 100000
set_option linter.unusedSimpArgs false

set_option maxHeartbeats 1000000 in
theorem rfind_any (v : Value) (x : ByteArray) (l : List (List UInt8)) (B : Nat) (w : World) (hn : l.length ≤ 1000) (h : Rd w B v (strs l)) :
    Calls Try.prog 15 #[.string x, v] w fun e w' => e = .returned (.tuple #[.int .i64 ((findA x.data.toList l).getD 0 : Nat), .bool (findA x.data.toList l).isSome]) ∧ w = w' := by
  obtain ⟨A, c, rfl, hc, _⟩ := h.form
  have H := Lib.hid fun k (hk : k < l.length) => h.at_ (k := k) (by rw [strs_len]; exact hk)
  rw [strs_len]
  clear h hc
  go_enter Try.func15, Try.ntmps15
  go_wp2_with fail
  go_loop [6] (fun i => ∃ k : Nat, k ≤ l.length ∧ i = .int .i64 k ∧ findA x.data.toList l = (findA x.data.toList (l.drop k)).map (· + k)) (fun i => l.length - (intOf i).toNat)
  case atStart => exact ⟨0, by omega, rfl, findA_zero _ _⟩
  case round =>
    obtain ⟨k, hk, rfl, hI⟩ := hrel
    by_cases hlt : k < l.length
    · obtain ⟨b, o, rfl, hb, hx⟩ := H.out k hlt
      have g : w.cell? ⟨b, o + k, none⟩ = some (.string (bs l[k])) := by
        have := hx k (by rw [strs_len]; exact hlt)
        rw [this, strs_get]
      have dk : decide (k < l.length) = true := decide_eq_true hlt
      by_cases he : l[k] = x.data.toList
      · have hf := findA_at _ l k hlt hI he
        have HX := Lib.hid (show Ending.returned (.tuple #[.int .i64 ((findA x.data.toList l).getD 0 : Nat), .bool (findA x.data.toList l).isSome]) = Ending.returned (.tuple #[.int .i64 (k : Int), .bool true]) by rw [hf]; rfl)
        have de : ((bs l[k]).toList == x.toList) = true := by rw [Lib.toList_data, Lib.toList_data, bs_list, he]; simp
        clear hI hf he hx
        generalize bs l[k] = T at *
        go_wp2_with fail
        go_ret2
        exact ⟨HX.out.symm, rfl⟩
      · have hN := findA_next _ l k hlt hI he
        have de : ((bs l[k]).toList == x.toList) = false := by
          rw [beq_eq_false_iff_ne, Lib.toList_data, Lib.toList_data, bs_list]; exact he
        have HN := Lib.hid hN
        clear hI hN he hx
        generalize bs l[k] = T at *
        go_wp2_with fail
        go_round
        case rel => exact ⟨k + 1, by omega, by go_num, HN.out⟩
        case measure => simp [intOf]; omega
    · have hf := findA_end _ l k (by omega) hI
      have HX := Lib.hid (show Ending.returned (.tuple #[.int .i64 ((findA x.data.toList l).getD 0 : Nat), .bool (findA x.data.toList l).isSome]) = Ending.returned (.tuple #[.int .i64 0, .bool false]) by rw [hf]; rfl)
      obtain rfl : k = l.length := by omega
      have dk : decide (l.length < l.length) = false := decide_eq_false hlt
      clear hI hf
      go_wp2_with fail
      go_ret2
      exact ⟨HX.out.symm, rfl⟩
set_option maxHeartbeats 1000000 in
theorem rcut_any (s : ByteArray) (c : UInt8) (w : World) (hs : s.size ≤ 100000) :
    Calls Try.prog 8 #[.string s, .int .u8 (c.toNat : Nat)] w fun e w' => e = .returned (.tuple #[.string (bs (cutA s.data.toList c)), .string (bs (cutB s.data.toList c)), .bool (findA c s.data.toList).isSome]) ∧ ∃ n, w' = w.drewN n := by
  have hcl := c.toNat_lt
  go_enter Try.func8, Try.ntmps8
  go_wp2_with fail
  go_loop [7] (fun i => ∃ k : Nat, k ≤ s.size ∧ i = .int .i64 k ∧ findA c s.data.toList = (findA c (s.data.toList.drop k)).map (· + k)) (fun i => s.size - (intOf i).toNat)
  case atStart => exact ⟨0, by omega, rfl, findA_zero _ _⟩
  case round =>
    obtain ⟨k, hk, rfl, hI⟩ := hrel
    by_cases hlt : k < s.size
    · have dk : decide (k < s.size) = true := decide_eq_true hlt
      have hu := (s[k]'hlt).toNat_lt
      by_cases he : s[k]'hlt = c
      · have hf := findA_at _ s.data.toList k (by rw [data_len]; exact hlt) hI (by rw [wget s k hlt]; exact he)
        have e1 : cutA s.data.toList c = s.data.toList.take k := by unfold cutA; rw [hf]
        have e2 : cutB s.data.toList c = s.data.toList.drop (k + 1) := by unfold cutB; rw [hf]
        have x1 : s.extract 0 k = bs (s.data.toList.take k) := by rw [← bs_of (s.extract 0 k), extract_list]; rfl
        have x2 : s.extract (k + 1) s.size = bs (s.data.toList.drop (k + 1)) := by rw [← bs_of (s.extract (k + 1) s.size), extract_list, ← data_len, List.take_length]
        have HX := Lib.hid (show Ending.returned (.tuple #[.string (bs (cutA s.data.toList c)), .string (bs (cutB s.data.toList c)), .bool (findA c s.data.toList).isSome]) = Ending.returned (.tuple #[.string (s.extract 0 k), .string (s.extract (k + 1) s.size), .bool true]) by rw [hf, e1, e2, x1, x2]; rfl)
        have h1 := fun w => run_slice_string_h (P := Try.prog) w 9 s (by kernel_rfl) .i64 (k : Int) (by omega) (by omega)
        have h2 := fun w => run_slice_string_l (P := Try.prog) w 9 s (by kernel_rfl) .i64 ((k : Int) + 1) (by omega) (by omega)
        rw [Int.toNat_natCast] at h1
        rw [show ((k : Int) + 1).toNat = k + 1 by omega] at h2
        have de : (((s[k]'hlt).toNat : Int) == (c.toNat : Int)) = true := by rw [he]; simp
        clear hI hf e1 e2 x1 x2 he
        generalize s.extract 0 k = X1 at *
        generalize s.extract (k + 1) s.size = X2 at *
        go_wp2_with fail
        go_quiet (fail)
        go_wp2_with fail
        go_ret3
        exact ⟨HX.out.symm, _, rfl⟩
      · have hN := findA_next _ s.data.toList k (by rw [data_len]; exact hlt) hI (by rw [wget s k hlt]; exact he)
        have hne : (s[k]'hlt).toNat ≠ c.toNat := fun e => he (UInt8.toNat_inj.1 e)
        have de : (((s[k]'hlt).toNat : Int) == (c.toNat : Int)) = false := beq_false_of_ne (by omega)
        have HN := Lib.hid hN
        clear hI hN he
        go_wp2_with fail
        go_round
        case rel => exact ⟨k + 1, by omega, by go_num, HN.out⟩
        case measure => simp [intOf]; omega
    · have hf := findA_end _ s.data.toList k (by rw [data_len]; omega) hI
      have HX := Lib.hid (show Ending.returned (.tuple #[.string (bs (cutA s.data.toList c)), .string (bs (cutB s.data.toList c)), .bool (findA c s.data.toList).isSome]) = Ending.returned (.tuple #[.string ⟨#[]⟩, .string ⟨#[]⟩, .bool false]) by unfold cutA cutB; rw [hf]; rfl)
      obtain rfl : k = s.size := by omega
      have dk : decide (s.size < s.size) = false := decide_eq_false hlt
      clear hI hf
      go_wp2_with fail
      go_ret3
      exact ⟨HX.out.symm, 0, rfl⟩
end Go.Proofs.Ytfbglehoopkfkaa
