/- What must come of package row, whatever the arguments are; which names are few. Conditions: the library's table holds what it was laid with. -/
import Derived.Test.YtlmijhladbinjaaDoorRow
import Derived.Test.YtlmijhladbinjaaDoorCame
import Derived.Test.YtlmijhladbinjaaDoorSame
namespace Go.Proofs.YtlmijhladbinjaaDoor
open Go.ChangeShapes Go.WideShapes Go.ChangeAt Go.RowKit
set_option linter.unusedVariables false
set_option maxRecDepth 100000
set_option linter.unusedSimpArgs false

theorem isames (v1 v2 : Value) (ns : List Int) (B : Nat) (w : World) (hn : ns.length ≤ 1000000) (h1 : Rd w B v1 (ints ns)) (h2 : Rd w B v2 (ints ns)) :
    Calls Tryd.prog 11 #[v1, v2] w fun e w' => e = .returned (.bool true) ∧ Below w.heap.size w w' := by
  refine (isame_true v1 v2 ns B w hn h1 h2).mono ?_
  rintro e w' ⟨rfl, n, rfl⟩
  exact ⟨rfl, ⟨rfl, rfl, rfl, Nat.le_refl _, fun _ _ => rfl⟩⟩
/-- Few names, of few bytes. -/
def fewB (ks : List (List UInt8)) : Bool := ks.all (fun a => decide (a.length ≤ 60)) && decide (ks.length ≤ 16)
theorem few_any (v : Value) (ks : List (List UInt8)) (w : World) (hm : ∀ a ∈ ks, a.length ≤ maxLen) (h : Rd w w.heap.size v (strs ks)) :
    Calls Tryd.prog 5 #[v] w fun e w' => e = .returned (.bool (fewB ks)) ∧ w = w' := by
  obtain ⟨A, c, rfl, hc1, hc2⟩ := h.form
  rw [strs_len] at hc1 ⊢
  have H1 := Lib.hid fun k (hk : k < ks.length) => h.at_ (k := k) (by rw [strs_len]; exact hk)
  have HMX := Lib.hid hm
  have hlm : ks.length ≤ maxLen := by omega
  unfold maxLen at hlm
  clear h hm hc1 hc2
  go_enter Tryd.func5, Tryd.ntmps5
  go_wp2_with fail
  go_loop [3] (fun i => ∃ k : Nat, k ≤ ks.length ∧ i = .int .i64 k ∧ ∀ j (hj : j < ks.length), j < k → ks[j].length ≤ 60) (fun i => ks.length - (intOf i).toNat)
  case atStart => exact ⟨0, Nat.zero_le _, rfl, fun j _ h => absurd h (by omega)⟩
  case round =>
    obtain ⟨k, hk, rfl, hall⟩ := hrel
    have HA := Lib.hid hall
    clear hall
    by_cases hlt : k < ks.length
    · obtain ⟨b, o, rfl, hb, hx⟩ := H1.out k hlt
      have g : w.cell? ⟨b, o + k, none⟩ = some (.string (bs ks[k])) := by
        rw [hx k (by rw [strs_len]; exact hlt), strs_get]
      have dk : decide (k < ks.length) = true := decide_eq_true hlt
      have hz : (bs ks[k]).size ≤ maxLen := by rw [bs_size]; exact HMX.out _ (List.getElem_mem hlt)
      unfold maxLen at hz
      clear hx H1
      by_cases hc : 60 < ks[k].length
      · have dc : decide ((60 : Int) < ((bs ks[k]).size : Int)) = true := decide_eq_true (by rw [bs_size]; omega)
        have HX := Lib.hid (show fewB ks = false by
          unfold fewB
          rw [Bool.and_eq_false_iff]
          left
          rw [List.all_eq_false]
          exact ⟨ks[k], List.getElem_mem hlt, by simp; omega⟩)
        clear hc
        generalize bs ks[k] = T at *
        go_wp2_with fail
        go_ret
        exact ⟨by rw [HX.out]; rfl, rfl⟩
      · have dc : decide ((60 : Int) < ((bs ks[k]).size : Int)) = false := decide_eq_false (by rw [bs_size]; omega)
        have HN := Lib.hid (show ∀ j (hj : j < ks.length), j < k + 1 → ks[j].length ≤ 60 from fun j hj h => by
          rcases Nat.lt_or_ge j k with h2 | h2
          · exact HA.out j hj h2
          · obtain rfl : j = k := by omega
            omega)
        clear hc
        generalize bs ks[k] = T at *
        go_wp2_with fail
        go_round
        case rel => exact ⟨k + 1, by omega, by go_num, HN.out⟩
        case measure => simp [intOf]; omega
    · obtain rfl : k = ks.length := by omega
      have dk : decide (ks.length < ks.length) = false := decide_eq_false hlt
      have HX := Lib.hid (show fewB ks = decide ((ks.length : Int) ≤ 16) by
        unfold fewB
        have : ks.all (fun a => decide (a.length ≤ 60)) = true := List.all_eq_true.2 fun a ha => by
          obtain ⟨j, hj, rfl⟩ := List.getElem_of_mem ha
          exact decide_eq_true (HA.out j hj hj)
        rw [this, Bool.true_and]
        by_cases h : ks.length ≤ 16
        · rw [decide_eq_true h, decide_eq_true (by omega)]
        · rw [decide_eq_false h, decide_eq_false (by omega)])
      go_wp2_with fail
      go_ret
      exact ⟨by rw [HX.out]; rfl, rfl⟩
theorem rt_1 : textL 1 = [49] := by unfold textL; rw [if_neg (by omega), show (1 : Int).natAbs = 1 from rfl, decL_lt (by omega)]; rfl
theorem rt_m2 : textL (-2) = [45, 50] := by unfold textL; rw [if_pos (by omega), show (-2 : Int).natAbs = 2 from rfl, decL_lt (by omega)]; rfl
/-- node id=1 inc=-2 -/
def awRow : List UInt8 := [110, 111, 100, 101, 32, 105, 100, 61, 49, 32, 105, 110, 99, 61, 45, 50]
theorem aw_row : rowL [110, 111, 100, 101] [[105, 100], [105, 110, 99]] [1, -2] = awRow := by
  unfold rowL rowParts
  simp [partL, rt_1, rt_m2, joinW, joinS, awRow]
theorem aw_rwords : wordsL ([32] ++ awRow ++ [9, 35, 32, 120]) = [[110, 111, 100, 101], [105, 100, 61, 49], [105, 110, 99, 61, 45, 50]] := by decide
theorem aw_rwords2 : wordsL awRow = [[110, 111, 100, 101], [105, 100, 61, 49], [105, 110, 99, 61, 45, 50]] := by decide
theorem aw_parse : rowE ([32] ++ awRow ++ [9, 35, 32, 120]) [110, 111, 100, 101] [[105, 100], [105, 110, 99]] = 0 ∧ rowV ([32] ++ awRow ++ [9, 35, 32, 120]) [110, 111, 100, 101] [[105, 100], [105, 110, 99]] = [1, -2] := by
  refine row_some ?_
  rw [rowO_parts aw_rwords]
  have h := parts_back [[105, 100], [105, 110, 99]] [1, -2] (by decide) (by intro n hn; simp at hn; unfold inI; omega)
  have e : List.zipWith partL [[105, 100], [105, 110, 99]] [1, -2] = [[105, 100, 61, 49], [105, 110, 99, 61, 45, 50]] := by simp [partL, rt_1, rt_m2]
  rw [e] at h
  exact h
theorem aw_parse2 : rowE awRow [110, 111, 100, 101] [[105, 100]] = 2 ∧ rowV awRow [110, 111, 100, 101] [[105, 100]] = [] := row_none (rowO_len (by rw [aw_rwords2]; decide))
theorem aw_rword : rowW awRow = [110, 111, 100, 101] := by unfold rowW; rw [aw_rwords2]; rfl
set_option maxHeartbeats 2000000 in
theorem row_awake (w : World) (ht : Tb w) : Calls Tryd.prog 6 #[] w fun e w' => e = .returned (.bool true) ∧ Below w.heap.size w w' := by
  have HT := Lib.hid ht
  clear ht
  have hz0 : (bs awRow).size = 16 := rfl
  have hap : ByteArray.mk #[32] ++ bs awRow ++ ByteArray.mk #[9, 35, 32, 120] = bs ([32] ++ awRow ++ [9, 35, 32, 120]) := by
    rw [show ByteArray.mk #[32] = bs [32] from rfl, show ByteArray.mk #[9, 35, 32, 120] = bs [9, 35, 32, 120] from rfl, bs_append, bs_append]
  have HAP := Lib.hid hap
  have hz1 : (ByteArray.mk #[32] ++ bs awRow).size = 17 := by rw [ByteArray.size_append, hz0]; rfl
  have hz2 : (bs ([32] ++ awRow ++ [9, 35, 32, 120])).size = 21 := rfl
  have P1 := fun (w : World) v h (t : Tb w) => kparse_any (bs ([32] ++ awRow ++ [9, 35, 32, 120])) (ByteArray.mk #[110, 111, 100, 101]) v [[105, 100], [105, 110, 99]] w (by rw [hz2]; omega) (by decide) (by intro a ha; simp at ha; rcases ha with rfl | rfl <;> decide) h t
  have P2 := fun (w : World) v h (t : Tb w) => kparse_any (bs awRow) (ByteArray.mk #[110, 111, 100, 101]) v [[105, 100]] w (by rw [hz0]; omega) (by decide) (by intro a ha; simp at ha; subst ha; decide) h t
  have K1 := fun w => kword_any (bs awRow) w (by rw [hz0]; omega)
  have L1 := fun (w : World) va vn h1 h2 (t : Tb w) => kline_any (ByteArray.mk #[110, 111, 100, 101]) va vn [[105, 100], [105, 110, 99]] [1, -2] w (by decide) (by decide) (by decide) (by decide) (by intro n hn; simp at hn; unfold inI; omega) h1 h2 t
  unfold RowR at P1 P2
  rw [bs_list, show (ByteArray.mk #[110, 111, 100, 101]).data.toList = [110, 111, 100, 101] from rfl, aw_parse.1, aw_parse.2] at P1
  rw [bs_list, show (ByteArray.mk #[110, 111, 100, 101]).data.toList = [110, 111, 100, 101] from rfl, aw_parse2.1, aw_parse2.2] at P2
  rw [bs_list, aw_rword, show bs [110, 111, 100, 101] = ByteArray.mk #[110, 111, 100, 101] from rfl] at K1
  rw [show (ByteArray.mk #[110, 111, 100, 101]).data.toList = [110, 111, 100, 101] from rfl, aw_row] at L1
  have P1 := Lib.hid P1
  have P2 := Lib.hid P2
  have K1 := Lib.hid K1
  have L1 := Lib.hid L1
  have hse : (bs awRow).toList = awRow := bs_toList _
  have hcmp : ((bs awRow).toList == [110, 111, 100, 101, 32, 105, 100, 61, 49, 32, 105, 110, 99, 61, 45, 50]) = true := by rw [hse]; decide
  clear hap hse
  generalize bs ([32] ++ awRow ++ [9, 35, 32, 120]) = S2 at *
  generalize bs awRow = S1 at *
  go_enter Tryd.func6, Tryd.ntmps6
  go_wp2_with fail
  have h1 := rd_lit w [[105, 100], [105, 110, 99]] #[.string ⟨#[105, 100]⟩, .string ⟨#[105, 110, 99]⟩] rfl (by decide)
  have hba := (Below.refl (w.alloc (.cells #[.string ⟨#[105, 100]⟩, .string ⟨#[105, 110, 99]⟩] 9)).heap.size (w.alloc (.cells #[.string ⟨#[105, 100]⟩, .string ⟨#[105, 110, 99]⟩] 9))).alloc (Nat.le_refl _) (.cells #[.int .i64 1, .int .i64 (-2)] 3)
  have h2 := rd_liti (w.alloc (.cells #[.string ⟨#[105, 100]⟩, .string ⟨#[105, 110, 99]⟩] 9)) [1, -2] #[.int .i64 1, .int .i64 (-2)] rfl (by decide)
  have h3 := (h1.below (by simpa using hba)).more (show w.heap.size + 1 ≤ w.heap.size + 1 + 1 by omega)
  have HB0 := Lib.hid (((Below.refl _ w).alloc (Nat.le_refl _) (.cells #[.string ⟨#[105, 100]⟩, .string ⟨#[105, 110, 99]⟩] 9)).alloc (by simp) (.cells #[.int .i64 1, .int .i64 (-2)] 3))
  have L2 := L1.out _ _ _ (by simpa using h3) (by simpa using h2) (tb_below HT.out HB0.out)
  refine L2.mono ?_; rintro e w1 ⟨rfl, b1⟩
  have HB1 := Lib.hid (HB0.out.trans (b1.mono HB0.out.size))
  clear h1 hba h2 h3 L2 b1
  go_wp2_with fail
  rw [HAP.out]
  have h4 := rd_lit w1 [[105, 100], [105, 110, 99]] #[.string ⟨#[105, 100]⟩, .string ⟨#[105, 110, 99]⟩] rfl (by decide)
  have HB2 := Lib.hid (HB1.out.alloc HB1.out.size (.cells #[.string ⟨#[105, 100]⟩, .string ⟨#[105, 110, 99]⟩] 9))
  have Q1 := P1.out _ _ (by simpa using h4) (tb_below HT.out HB2.out)
  refine Q1.mono ?_; rintro e w2 ⟨v2, rfl, r2, b2⟩
  have HB3 := Lib.hid (HB2.out.trans (b2.mono HB2.out.size))
  have HR := Lib.hid r2
  clear h4 Q1 b2 r2
  go_wp2_with fail
  have h5 := rd_lit w2 [[105, 100]] #[.string ⟨#[105, 100]⟩] rfl (by decide)
  have hb5 := (Below.refl w2.heap.size w2).alloc (Nat.le_refl _) (.cells #[.string ⟨#[105, 100]⟩] 9)
  have HB4 := Lib.hid (HB3.out.alloc HB3.out.size (.cells #[.string ⟨#[105, 100]⟩] 9))
  have Q2 := P2.out _ _ (by simpa using h5) (tb_below HT.out HB4.out)
  refine Q2.mono ?_; rintro e w3 ⟨v3, rfl, r3, b3⟩
  have HB5 := Lib.hid (HB4.out.trans (b3.mono HB4.out.size))
  have HR2 := Lib.hid ((HR.out.below (hb5.trans (b3.mono (by simp)))).more (Nat.le_trans hb5.size b3.size))
  clear h5 hb5 Q2 b3 r3
  go_wp2_with fail
  have h6 := rd_liti w3 [1, -2] #[.int .i64 1, .int .i64 (-2)] rfl (by decide)
  have hb6 := (Below.refl w3.heap.size w3).alloc (Nat.le_refl _) (.cells #[.int .i64 1, .int .i64 (-2)] 3)
  have HB6 := Lib.hid (HB5.out.alloc HB5.out.size (.cells #[.int .i64 1, .int .i64 (-2)] 3))
  have S := isames v2 _ [1, -2] (w3.heap.size + 1) _ (by decide) ((HR2.out.below hb6).more (by omega)) h6
  refine S.mono ?_; rintro e w4 ⟨rfl, b4⟩
  have HB7 := Lib.hid (HB6.out.trans (b4.mono HB6.out.size))
  clear h6 hb6 S b4
  go_wp2_with fail
  refine (K1.out _).mono ?_; rintro e w5 ⟨rfl, b5⟩
  have HB8 := Lib.hid (HB7.out.trans (b5.mono HB7.out.size))
  clear b5
  go_wp2_with fail
  go_ret
  exact ⟨rfl, HB8.out⟩
end Go.Proofs.YtlmijhladbinjaaDoor
