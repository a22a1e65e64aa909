/- What the document's own answers for numbers as texts come to. Conditions: texts of at most 1,000 bytes, lists of at most 1,000 numbers. -/
import Derived.Test.YthpijibcfkcenaaDoorRows
import Derived.Test.YthpijibcfkcenaaDoorPlains
import Derived.Test.YthpijibcfkcenaaDoorSlices
import Derived.Test.YthpijibcfkcenaaDoorSame
namespace Go.Proofs.YthpijibcfkcenaaDoor
open Go.ChangeShapes Go.WideShapes Go.ChangeAt Go.RowKit
set_option linter.unusedVariables false
set_option maxRecDepth 100000
set_option linter.unusedSimpArgs false

theorem dig_slice : ∀ k : Nat, k < 10 → (ByteArray.mk #[48, 49, 50, 51, 52, 53, 54, 55, 56, 57]).extract k (k + 1) = bs [digC k] := by decide
theorem rtext_dig (k : Nat) (h : k < 10) (w : World) :
    Calls Tryd.prog 44 #[.int .i64 (k : Int)] w fun e w' => e = .returned (.string (bs [digC k])) ∧ w = w' := by
  have hsl := fun w => run_slice_string (P := Tryd.prog) w 9 (ByteArray.mk #[48, 49, 50, 51, 52, 53, 54, 55, 56, 57]) .i64 .i64 (k : Int) ((k : Int) + 1) (by kernel_rfl) (by omega) (by omega) (by show (k : Int) + 1 ≤ 10; omega)
  rw [show ((k : Int) + 1).toNat = k + 1 by omega, Int.toNat_natCast, dig_slice k h] at hsl
  have d1 : decide (-10 < (k : Int)) = true := decide_eq_true (by omega)
  have d2 : decide ((k : Int) < 0) = false := decide_eq_false (by omega)
  have d3 : decide (0 ≤ (k : Int)) = true := decide_eq_true (by omega)
  have d4 : decide ((k : Int) < 10) = true := decide_eq_true (by omega)
  generalize bs [digC k] = T at *
  go_enter Tryd.func44, Tryd.ntmps44
  go_wp2_with fail
  go_ret
  exact ⟨rfl, rfl⟩
theorem rtext_neg (k : Nat) (h : k < 10) (h0 : 0 < k) (w : World) :
    Calls Tryd.prog 44 #[.int .i64 (-(k : Int))] w fun e w' => e = .returned (.string (bs (45 :: [digC k]))) ∧ w = w' := by
  have H := Lib.hid fun w => rtext_dig k h w
  have d1 : decide (-10 < -(k : Int)) = true := decide_eq_true (by omega)
  have d2 : decide (-(k : Int) < 0) = true := decide_eq_true (by omega)
  have q : IntKind.i64.wrap (-(-(k : Int))) = (k : Int) := by rw [IntWalk.i64_in _ (by omega)]; omega
  have hz : (bs [digC k]).size = 1 := rfl
  have hap : ByteArray.mk #[45] ++ bs [digC k] = bs (45 :: [digC k]) := by rw [show ByteArray.mk #[45] = bs [45] from rfl, bs_append]; rfl
  have HAP := Lib.hid hap
  clear hap
  generalize bs [digC k] = T at *
  go_enter Tryd.func44, Tryd.ntmps44
  go_wp2_with fail
  refine (H.out _).mono ?_
  rintro e w' ⟨rfl, rfl⟩
  go_wp2_with fail
  rw [HAP.out]
  go_ret
  exact ⟨rfl, rfl⟩

theorem textL_nat (k : Nat) : textL (k : Int) = decL k := by unfold textL; rw [if_neg (by omega), Int.natAbs_natCast]
theorem textL_neg (k : Nat) (h : 0 < k) : textL (-(k : Int)) = 45 :: decL k := by unfold textL; rw [if_pos (by omega), Int.natAbs_neg, Int.natAbs_natCast]
theorem rtext_nat (k : Nat) : k ≤ 9223372036854775807 → ∀ w : World,
    Calls Tryd.prog 44 #[.int .i64 (k : Int)] w fun e w' => e = .returned (.string (bs (decL k))) ∧ w = w' := by
  induction k using Nat.strongRecOn with
  | ind k ih =>
    intro hk w
    by_cases h : k < 10
    · rw [decL_lt h]; exact rtext_dig k h w
    · have H1 := Lib.hid fun w => ih (k / 10) (by omega) (by omega) w
      have H2 := Lib.hid fun w => rtext_dig (k % 10) (by omega) w
      have hz1 := decL_len (k / 10) 19 (by have : 10 ^ 19 = 10000000000000000000 := by decide
                                           omega) (by omega)
      rw [← bs_size] at hz1
      have hz2 : (bs [digC (k % 10)]).size = 1 := rfl
      have hap : bs (decL (k / 10)) ++ bs [digC (k % 10)] = bs (decL k) := by rw [bs_append, ← decL_ge h]
      have HAP := Lib.hid hap
      have d1 : decide (-10 < (k : Int)) = true := decide_eq_true (by omega)
      have d2 : decide ((k : Int) < 0) = false := decide_eq_false (by omega)
      have d3 : decide (0 ≤ (k : Int)) = true := decide_eq_true (by omega)
      have d4 : decide ((k : Int) < 10) = false := decide_eq_false (by omega)
      have d5 : decide (((k : Int) % 10) < 0) = false := decide_eq_false (by omega)
      have t1 : (k : Int).tmod 10 = ((k % 10 : Nat) : Int) := by rw [Int.tmod_eq_emod_of_nonneg (by omega)]; rfl
      have t2 : (k : Int).tdiv 10 = ((k / 10 : Nat) : Int) := by rw [Int.tdiv_eq_ediv_of_nonneg (by omega)]; rfl
      clear hap
      generalize bs (decL (k / 10)) = T1 at *
      generalize bs [digC (k % 10)] = T2 at *
      go_enter Tryd.func44, Tryd.ntmps44
      go_wp2_with fail
      refine (H1.out _).mono ?_
      rintro e w1 ⟨rfl, rfl⟩
      go_wp2_with fail
      refine (H2.out _).mono ?_
      rintro e w1 ⟨rfl, rfl⟩
      go_wp2_with fail
      rw [HAP.out]
      go_ret
      exact ⟨rfl, rfl⟩
theorem rtext_int (k : Nat) : 0 < k → k ≤ 9223372036854775808 → ∀ w : World,
    Calls Tryd.prog 44 #[.int .i64 (-(k : Int))] w fun e w' => e = .returned (.string (bs (45 :: decL k))) ∧ w = w' := by
  induction k using Nat.strongRecOn with
  | ind k ih =>
    intro h0 hk w
    by_cases h : k < 10
    · rw [decL_lt h]; exact rtext_neg k h h0 w
    · have H1 := Lib.hid fun w => ih (k / 10) (by omega) (by omega) (by omega) w
      have H2 := Lib.hid fun w => rtext_dig (k % 10) (by omega) w
      have hz1 := decL_len (k / 10) 19 (by have : 10 ^ 19 = 10000000000000000000 := by decide
                                           omega) (by omega)
      have hz1' : (bs (45 :: decL (k / 10))).size ≤ 20 := by rw [bs_size]; simp; omega
      have hz2 : (bs [digC (k % 10)]).size = 1 := rfl
      have hap : bs (45 :: decL (k / 10)) ++ bs [digC (k % 10)] = bs (45 :: decL k) := by rw [bs_append, decL_ge h]; rfl
      have HAP := Lib.hid hap
      have d1 : decide (-10 < -(k : Int)) = false := decide_eq_false (by omega)
      have d3 : decide (0 ≤ -(k : Int)) = false := decide_eq_false (by omega)
      have t1 : (-(k : Int)).tmod 10 = -((k % 10 : Nat) : Int) := by rw [Int.neg_tmod, Int.tmod_eq_emod_of_nonneg (by omega)]; rfl
      have t2 : (-(k : Int)).tdiv 10 = -((k / 10 : Nat) : Int) := by rw [Int.neg_tdiv, Int.tdiv_eq_ediv_of_nonneg (by omega)]; rfl
      have q2 : IntKind.i64.wrap (-((k / 10 : Nat) : Int)) = -((k / 10 : Nat) : Int) := IntWalk.i64_in _ (by omega)
      have q1 : IntKind.i64.wrap (-(-((k % 10 : Nat) : Int))) = ((k % 10 : Nat) : Int) := by rw [IntWalk.i64_in _ (by omega)]; omega
      have hm : k % 10 < 10 := by omega
      have hd : k / 10 ≤ 922337203685477580 := by omega
      clear hap hz1
      generalize bs (45 :: decL (k / 10)) = T1 at *
      generalize bs [digC (k % 10)] = T2 at *
      generalize k % 10 = m at *
      generalize k / 10 = d at *
      by_cases hm0 : m = 0
      · subst hm0
        go_enter Tryd.func44, Tryd.ntmps44
        go_wp2_with fail
        refine (H1.out _).mono ?_
        rintro e w1 ⟨rfl, rfl⟩
        go_wp2_with fail
        refine (H2.out _).mono ?_
        rintro e w1 ⟨rfl, rfl⟩
        go_wp2_with fail
        rw [HAP.out]
        go_ret
        exact ⟨rfl, rfl⟩
      · have d5 : decide (-(m : Int) < 0) = true := decide_eq_true (by omega)
        go_enter Tryd.func44, Tryd.ntmps44
        go_wp2_with fail
        refine (H1.out _).mono ?_
        rintro e w1 ⟨rfl, rfl⟩
        go_wp2_with fail
        refine (H2.out _).mono ?_
        rintro e w1 ⟨rfl, rfl⟩
        go_wp2_with fail
        rw [HAP.out]
        go_ret
        exact ⟨rfl, rfl⟩
theorem rtext_any (n : Int) (hn : inI n) (w : World) :
    Calls Tryd.prog 44 #[.int .i64 n] w fun e w' => e = .returned (.string (bs (textL n))) ∧ w = w' := by
  unfold inI at hn
  by_cases h : n < 0
  · obtain ⟨k, rfl⟩ : ∃ k : Nat, n = -(k : Int) := ⟨n.natAbs, by omega⟩
    rw [textL_neg k (by omega)]
    exact rtext_int k (by omega) (by omega) w
  · obtain ⟨k, rfl⟩ : ∃ k : Nat, n = (k : Int) := ⟨n.natAbs, by omega⟩
    rw [textL_nat k]
    exact rtext_nat k (by omega) w

/-- What the characters behind the sign come to, as the machine reckons. -/
def ParI (l : List UInt8) (k : Nat) (n : Int) : Prop := n = IntKind.i64.wrap (valD (l.take k)) ∧ (0 < k → ∀ h : 0 < l.length, l[0] = 45 ∨ isDig l[0])
theorem parI_lo (l : List UInt8) (k : Nat) (n : Int) (h : ParI l k n) : -9223372036854775808 ≤ n ∧ n ≤ 9223372036854775807 := by
  obtain ⟨rfl, _⟩ := h
  rw [IntKind.wrap_i64]; omega
theorem lget (s : ByteArray) (k : Nat) (h : k < s.size) : s.data.toList[k]'(by rw [data_len]; exact h) = s[k] := by simp; rfl
theorem ltake (s : ByteArray) (k : Nat) (h : k < s.size) : s.data.toList.take (k + 1) = s.data.toList.take k ++ [s[k]] := by
  rw [List.take_succ_eq_append_getElem (by rw [data_len]; exact h), lget s k h]
theorem u8_eq {c d : UInt8} (h : c.toNat = d.toNat) : c = d := UInt8.toNat_inj.1 h
theorem parI_skip (s : ByteArray) (h : 0 < s.size) (v : Int) (hI : ParI s.data.toList 0 v) (h45 : (s[0]'h).toNat = 45) : ParI s.data.toList 1 v := by
  obtain ⟨h1, h2⟩ := hI
  have e : s[0]'h = 45 := u8_eq h45
  refine ⟨?_, fun _ hl => Or.inl ?_⟩
  · rw [h1, ltake s 0 h, e]; rfl
  · rw [lget s 0 h]; exact e
theorem parI_step (s : ByteArray) (k : Nat) (h0 : 0 < s.size) (h : k < s.size) (v : Int) (hI : ParI s.data.toList k v) (hm : ¬ (k = 0 ∧ (s[0]'h0).toNat = 45)) (hd : 48 ≤ (s[k]'h).toNat ∧ (s[k]'h).toNat ≤ 57) (n : Int)
    (hn : n = IntKind.i64.wrap (IntKind.i64.wrap (v * 10) + (if (s[0]'h0).toNat = 45 then -(((s[k]'h).toNat : Int) - 48) else ((s[k]'h).toNat : Int) - 48))) : ParI s.data.toList (k + 1) n := by
  obtain ⟨h1, h2⟩ := hI
  have hnil : s.data.toList.take k = [] → s[k]'h ≠ 45 := fun e e2 => by
    have := congrArg List.length e
    rw [List.length_take, data_len] at this
    simp only [List.length_nil] at this
    have hk : k = 0 := by omega
    subst hk
    exact hm ⟨rfl, by rw [e2]; rfl⟩
  have hhead : (s.data.toList.take k).head? = some 45 ↔ (s[0]'h0).toNat = 45 := by
    by_cases hk : k = 0
    · subst hk
      constructor
      · intro e; simp at e
      · intro e; exact absurd ⟨rfl, e⟩ hm
    · rw [List.head?_take, if_neg hk, List.head?_eq_getElem?, List.getElem?_eq_getElem (by rw [data_len]; exact h0), lget s 0 h0]
      constructor
      · intro e; simp at e; rw [e]; rfl
      · intro e; rw [u8_eq (d := 45) e]
  refine ⟨?_, fun _ hl => ?_⟩
  · rw [hn, h1, ltake s k h, valD_snoc _ _ hnil]
    by_cases e : (s[0]'h0).toNat = 45
    · rw [if_pos e, if_pos (hhead.2 e)]
      simp only [IntKind.wrap_i64]; omega
    · rw [if_neg e, if_neg (fun x => e (hhead.1 x))]
      simp only [IntKind.wrap_i64]; omega
  · rw [lget s 0 h0]
    by_cases hk : k = 0
    · subst hk; exact Or.inr hd
    · have := h2 (Nat.pos_of_ne_zero hk) hl
      rw [lget s 0 h0] at this; exact this
theorem parI_bad (s : ByteArray) (k : Nat) (h0 : 0 < s.size) (h : k < s.size) (hm : ¬ (k = 0 ∧ (s[0]'h0).toNat = 45)) (hd : ¬ (48 ≤ (s[k]'h).toNat ∧ (s[k]'h).toNat ≤ 57)) : parE s.data.toList = 2 ∧ parV s.data.toList = 0 := by
  refine parE_char _ k (by rw [data_len]; exact h) ?_ (by rw [lget s k h]; exact hd)
  by_cases hk : k = 0
  · right
    rw [lget s 0 h0]
    intro e
    exact hm ⟨hk, by rw [e]; rfl⟩
  · exact Or.inl hk
theorem parI_end (s : ByteArray) (v : Int) (hI : ParI s.data.toList s.size v) :
    (bs (textL v) = s ∧ parE s.data.toList = 0 ∧ parV s.data.toList = v) ∨ (bs (textL v) ≠ s ∧ parE s.data.toList = 2 ∧ parV s.data.toList = 0) := by
  have hv := parI_lo _ _ _ hI
  obtain ⟨h1, _⟩ := hI
  rw [List.take_of_length_le (by rw [data_len]; exact Nat.le_refl _)] at h1
  by_cases e : bs (textL v) = s
  · have := parE_iff s.data.toList v hv (by rw [← e, bs_list])
    exact Or.inl ⟨e, this.1, this.2⟩
  · refine Or.inr ⟨e, par_bad fun h0 => e ?_⟩
    obtain ⟨h2, h3⟩ := par_ok h0
    have hpv : parV s.data.toList = valD s.data.toList := by unfold parV; rw [if_pos h0]
    rw [hpv] at h2 h3
    have : v = valD s.data.toList := by rw [h1]; exact IntWalk.i64_in _ h3
    rw [this, h2, bs_of]
set_option maxHeartbeats 1000000 in
theorem rparse_any (s : ByteArray) (w : World) (hs : s.size ≤ 100000) :
    Calls Tryd.prog 50 #[.string s] w fun e w' => e = .returned (.tuple #[.int .i64 (parV s.data.toList), .int .i64 (parE s.data.toList)]) ∧ w = w' := by
  have hl : s.data.toList.length = s.size := data_len s
  have hbad : parE s.data.toList = 2 ∧ parV s.data.toList = 0 → Ending.returned (.tuple #[.int .i64 (parV s.data.toList), .int .i64 (parE s.data.toList)]) = Ending.returned (.tuple #[.int .i64 0, .int .i64 2]) := fun h => by rw [h.1, h.2]; rfl
  by_cases c1 : s.size = 0
  · have e : s.data.toList = [] := List.eq_nil_of_length_eq_zero (by omega)
    have HX := Lib.hid (hbad (by rw [e]; exact parE_nil))
    have d1 : ((s.size : Int) == 0) = true := by rw [c1]; rfl
    clear hbad e hl
    have C1 := Lib.hid c1
    clear c1
    go_enter Tryd.func50, Tryd.ntmps50
    go_wp2_with fail
    go_ret2
    exact ⟨HX.out.symm, rfl⟩
  have d1 : ((s.size : Int) == 0) = false := beq_false_of_ne (by omega)
  by_cases c2 : 20 < s.size
  · have HX := Lib.hid (hbad (parE_long _ (by omega)))
    have d2 : decide ((20 : Int) < s.size) = true := decide_eq_true (by omega)
    clear hbad hl
    go_enter Tryd.func50, Tryd.ntmps50
    go_wp2_with fail
    go_ret2
    exact ⟨HX.out.symm, rfl⟩
  have d2 : decide ((20 : Int) < s.size) = false := decide_eq_false (by omega)
  have hp0 : 0 < s.size := by omega
  have HBAD := Lib.hid hbad
  have HL := Lib.hid hl
  clear hbad hl
  go_enter Tryd.func50, Tryd.ntmps50
  go_wp2_with fail
  go_loop [4, 5] (fun n i => ∃ (k : Nat) (v : Int), k ≤ s.size ∧ i = .int .i64 k ∧ n = .int .i64 v ∧ ParI s.data.toList k v) (fun _ i => s.size - (intOf i).toNat)
  case atStart => exact ⟨0, 0, by omega, rfl, rfl, by rw [List.take_zero]; rfl, fun h => absurd h (by omega)⟩
  case round =>
    obtain ⟨k, v, hk, rfl, rfl, hI⟩ := hrel
    have hv := parI_lo _ _ _ hI
    obtain ⟨hv1, hv2⟩ := hv
    have HI := Lib.hid hI
    clear hI
    by_cases hlt : k < s.size
    · have dk : decide (k < s.size) = true := decide_eq_true hlt
      have hu := (s[k]'hlt).toNat_lt
      by_cases hm : k = 0 ∧ (s[0]'hp0).toNat = 45
      · obtain ⟨hk0, h45⟩ := hm
        subst hk0
        have d3 : (((s[0]'hp0).toNat : Int) == 45) = true := by rw [h45]; rfl
        have HN := Lib.hid (parI_skip s hp0 v HI.out h45)
        clear h45
        go_wp2_with fail
        go_round
        case rel => exact ⟨1, v, by omega, by go_num, rfl, HN.out⟩
        case measure => simp [intOf]; omega
      · have dm : ((k : Int) == 0) = false ∨ (((k : Int) == 0) = true ∧ (((s[0]'hp0).toNat : Int) == 45) = false) := by
          by_cases hk0 : k = 0
          · subst hk0; exact Or.inr ⟨rfl, beq_false_of_ne (by omega)⟩
          · exact Or.inl (beq_false_of_ne (by omega))
        by_cases hd : 48 ≤ (s[k]'hlt).toNat ∧ (s[k]'hlt).toNat ≤ 57
        · have HN := Lib.hid fun n => parI_step s k hp0 hlt v HI.out hm hd n
          obtain ⟨hd1, hd2⟩ := hd
          have e1 : decide (((s[k]'hlt).toNat : Int) < 48) = false := decide_eq_false (by omega)
          have e2 : decide ((57 : Int) < ((s[k]'hlt).toNat : Int)) = false := decide_eq_false (by omega)
          by_cases h45 : (s[0]'hp0).toNat = 45
          · have hk0 : ¬ k = 0 := fun e => hm ⟨e, h45⟩
            have d3 : (((s[0]'hp0).toNat : Int) == 45) = true := by rw [h45]; rfl
            have d4 : ((k : Int) == 0) = false := beq_false_of_ne (by omega)
            rw [if_pos h45] at HN
            clear h45 dm hm
            go_wp2_with fail
            go_round
            case rel => exact ⟨k + 1, _, by omega, by go_num, rfl, HN.out _ (by simp only [IntKind.wrap_i64, wrap64] <;> omega)⟩
            case measure => simp [intOf]; omega
          · rw [if_neg h45] at HN
            have d3 : (((s[0]'hp0).toNat : Int) == 45) = false := beq_false_of_ne (by omega)
            clear hm
            rcases dm with dm1 | ⟨dm1, dm2⟩
            all_goals
              go_wp2_with fail
              go_round
              case rel => exact ⟨k + 1, _, by omega, by go_num, rfl, HN.out _ (by simp only [IntKind.wrap_i64, wrap64] <;> omega)⟩
              case measure => simp [intOf]; omega
        · have HX := Lib.hid (HBAD.out (parI_bad s k hp0 hlt hm hd))
          have d8 : decide (((s[k]'hlt).toNat : Int) < 48) = true ∨ (decide (((s[k]'hlt).toNat : Int) < 48) = false ∧ decide ((57 : Int) < ((s[k]'hlt).toNat : Int)) = true) := by
            by_cases h48 : (s[k]'hlt).toNat < 48
            · exact Or.inl (decide_eq_true (by omega))
            · exact Or.inr ⟨decide_eq_false (by omega), decide_eq_true (by omega)⟩
          clear hd hm
          rcases dm with dm1 | ⟨dm1, dm2⟩
          all_goals rcases d8 with e1 | ⟨e1, e2⟩
          all_goals go_wp2_with fail
          all_goals go_ret2
          all_goals exact ⟨HX.out.symm, rfl⟩
    · obtain rfl : k = s.size := by omega
      have dk : decide (s.size < s.size) = false := decide_eq_false hlt
      have HT := Lib.hid fun w => rtext_any v ⟨hv1, hv2⟩ w
      have hz := textL_len v ⟨hv1, hv2⟩
      rcases parI_end s v HI.out with ⟨he, h1, h2⟩ | ⟨he, h1, h2⟩
      · rw [he] at HT
        have HX := Lib.hid (show Ending.returned (.tuple #[.int .i64 (parV s.data.toList), .int .i64 (parE s.data.toList)]) = Ending.returned (.tuple #[.int .i64 v, .int .i64 0]) by rw [h1, h2]; rfl)
        clear he h1 h2 HBAD
        go_wp2_with fail
        refine (HT.out _).mono ?_
        rintro e w1 ⟨rfl, rfl⟩
        go_wp2_with fail
        go_ret2
        exact ⟨HX.out.symm, rfl⟩
      · have HX := Lib.hid (HBAD.out ⟨h1, h2⟩)
        have hne : ((bs (textL v)).toList == s.toList) = false := by
          rw [beq_eq_false_iff_ne]
          intro e
          rw [Lib.toList_data, Lib.toList_data] at e
          exact he (by rw [← bs_of (bs (textL v)), e, bs_of])
        clear he h1 h2 HBAD
        generalize bs (textL v) = T at *
        go_wp2_with fail
        refine (HT.out _).mono ?_
        rintro e w1 ⟨rfl, rfl⟩
        go_wp2_with fail
        go_ret2
        exact ⟨HX.out.symm, rfl⟩
end Go.Proofs.YthpijibcfkcenaaDoor
/- What the document's own answers for lists of numbers and for bytes as signs come to. Conditions: texts of at most 100,000 bytes, lists of at most 1,000 numbers. -/
namespace Go.Proofs.YthpijibcfkcenaaDoor
open Go.ChangeShapes Go.WideShapes Go.ChangeAt Go.RowKit
set_option linter.unusedVariables false
set_option maxRecDepth 100000
set_option linter.unusedSimpArgs false

theorem listL_snoc (p : List Int) (n : Int) : listL (p ++ [n]) = if p = [] then textL n else listL p ++ 44 :: textL n := by
  unfold listL
  rw [List.map_append, List.map_cons, List.map_nil, joinS_snoc]
  by_cases h : p = []
  · rw [if_pos h, if_pos (by simp [h])]
  · rw [if_neg h, if_neg (by simpa using h)]
theorem listL_len (ns : List Int) (hi : ∀ n ∈ ns, inI n) : ∀ k, (listL (ns.take k)).length ≤ 21 * k := by
  intro k
  induction k with
  | zero => simp [listL, joinS]
  | succ k ih =>
    by_cases h : k < ns.length
    · rw [List.take_succ_eq_append_getElem h, listL_snoc]
      have := textL_len ns[k] (hi _ (List.getElem_mem h))
      split
      · omega
      · simp; omega
    · rw [List.take_of_length_le (by omega)]
      rw [List.take_of_length_le (by omega)] at ih
      omega
/-- What is behind so many bytes of a text of numbers: done, and what is open. -/
def PlI (l : List UInt8) (i f : Nat) (out : List Int) : Prop :=
  f ≤ i ∧ f ≤ l.length ∧ out.length ≤ f ∧ (44 : UInt8) ∉ (l.drop f).take (i - f) ∧ ∃ done : List (List UInt8), done.map parV = out ∧ (∀ p ∈ done, parE p = 0) ∧ splitS 44 l = done ++ splitS 44 (l.drop f)
theorem plI_zero (l : List UInt8) : PlI l 0 0 [] := ⟨Nat.le_refl _, Nat.zero_le _, Nat.zero_le _, by simp, [], rfl, by simp, rfl⟩
theorem plI_more {l : List UInt8} {i f : Nat} {out : List Int} (h : PlI l i f out) (hi : i < l.length) (hc : l[i] ≠ 44) : PlI l (i + 1) f out := by
  obtain ⟨h1, h2, h3, h4, h5⟩ := h
  refine ⟨by omega, h2, h3, ?_, h5⟩
  rw [show i + 1 - f = (i - f) + 1 by omega, List.take_succ_eq_append_getElem (by rw [List.length_drop]; omega)]
  intro hm
  rcases List.mem_append.1 hm with hm | hm
  · exact h4 hm
  · rw [List.getElem_drop] at hm
    simp only [show f + (i - f) = i by omega, List.mem_singleton] at hm
    exact hc hm.symm
/-- The part that ends at a comma. -/
theorem plI_part {l : List UInt8} {i f : Nat} {out : List Int} (h : PlI l i f out) (hi : i < l.length) (hc : l[i] = 44) :
    splitS 44 (l.drop f) = (l.drop f).take (i - f) :: splitS 44 (l.drop (i + 1)) := by
  obtain ⟨h1, h2, h3, h4, h5⟩ := h
  have e : l.drop f = (l.drop f).take (i - f) ++ 44 :: l.drop (i + 1) := by
    conv => lhs; rw [← List.take_append_drop (i - f) (l.drop f)]
    rw [List.drop_drop, show f + (i - f) = i by omega, List.drop_eq_getElem_cons hi, hc]
  conv => lhs; rw [e]
  exact splitS_at 44 _ _ h4
theorem plI_last {l : List UInt8} {f : Nat} {out : List Int} (h : PlI l l.length f out) : splitS 44 (l.drop f) = [(l.drop f).take (l.length - f)] := by
  obtain ⟨h1, h2, h3, h4, h5⟩ := h
  have e : (l.drop f).take (l.length - f) = l.drop f := List.take_of_length_le (by rw [List.length_drop]; omega)
  rw [e] at h4 ⊢
  exact splitS_end 44 _ h4
theorem plI_next {l : List UInt8} {i f : Nat} {out : List Int} (h : PlI l i f out) (hi : i < l.length) (hc : l[i] = 44) (hp : parE ((l.drop f).take (i - f)) = 0) : PlI l (i + 1) (i + 1) (out ++ [parV ((l.drop f).take (i - f))]) := by
  have hpart := plI_part h hi hc
  obtain ⟨h1, h2, h3, h4, done, h5, h6, h7⟩ := h
  refine ⟨Nat.le_refl _, by omega, by simp; omega, by simp, done ++ [(l.drop f).take (i - f)], by simp [h5], ?_, ?_⟩
  · intro p hp2
    rcases List.mem_append.1 hp2 with hp2 | hp2
    · exact h6 p hp2
    · obtain rfl : p = _ := by simpa using hp2
      exact hp
  · rw [h7, hpart]; simp
theorem pl_bad {l : List UInt8} {i f : Nat} {out : List Int} (h : PlI l i f out) (part : List UInt8) (hm : part ∈ splitS 44 (l.drop f)) (hp : ¬ parE part = 0) (many : Int) : plE l many = 2 ∧ plV l many = [] := by
  have e : plE l many = 2 := by
    unfold plE
    rw [if_neg]
    rintro ⟨h1, _⟩
    obtain ⟨_, _, _, _, done, _, _, h7⟩ := h
    exact hp (h1 part (by rw [h7]; exact List.mem_append_right _ hm))
  exact ⟨e, by unfold plV; rw [e, if_neg (by omega)]⟩
theorem pl_done {l : List UInt8} {f : Nat} {out : List Int} (h : PlI l l.length f out) (hp : parE ((l.drop f).take (l.length - f)) = 0) (many : Int) :
    (((out ++ [parV ((l.drop f).take (l.length - f))]).length : Int) = many → plE l many = 0 ∧ plV l many = out ++ [parV ((l.drop f).take (l.length - f))]) ∧
    (((out ++ [parV ((l.drop f).take (l.length - f))]).length : Int) ≠ many → plE l many = 2 ∧ plV l many = []) := by
  have hlast := plI_last h
  obtain ⟨_, _, _, _, done, h5, h6, h7⟩ := h
  have hs : splitS 44 l = done ++ [(l.drop f).take (l.length - f)] := by rw [h7, hlast]
  have hall : ∀ p ∈ splitS 44 l, parE p = 0 := by
    rw [hs]
    intro p hp2
    rcases List.mem_append.1 hp2 with hp2 | hp2
    · exact h6 p hp2
    · obtain rfl : p = _ := by simpa using hp2
      exact hp
  have hlen : (splitS 44 l).length = (out ++ [parV ((l.drop f).take (l.length - f))]).length := by rw [hs, ← h5]; simp
  refine ⟨fun hm => ?_, fun hm => ?_⟩
  · have e : plE l many = 0 := by unfold plE; rw [if_pos ⟨hall, by rw [hlen]; exact hm⟩]
    exact ⟨e, by unfold plV; rw [if_pos e, hs, ← h5]; simp⟩
  · have e : plE l many = 2 := by
      unfold plE; rw [if_neg]
      rintro ⟨_, h2⟩
      rw [hlen] at h2; exact hm h2
    exact ⟨e, by unfold plV; rw [e, if_neg (by omega)]⟩

def PlR (l : List UInt8) (many : Int) (w : World) (e : Ending) (w' : World) : Prop :=
  ∃ v, e = .returned (.tuple #[v, .int .i64 (plE l many)]) ∧ Rd w' w'.heap.size v (ints (plV l many)) ∧ Below w.heap.size w w'
theorem plR_bad {l : List UInt8} {many : Int} {w w' : World} (h : plE l many = 2 ∧ plV l many = []) (hb : Below w.heap.size w w') : PlR l many w (.returned (.tuple #[.slice none 0 0, .int .i64 2])) w' :=
  ⟨.slice none 0 0, by rw [h.1]; rfl, by rw [h.2]; exact Rd.nil _ _, hb⟩
def PlJ (l : List UInt8) (many : Int) (k f : Nat) (out : List Int) : Prop :=
  (k ≤ l.length ∧ PlI l k f out) ∨ (k = l.length + 1 ∧ out.length ≤ k ∧ ((out.length : Int) = many → plE l many = 0 ∧ plV l many = out) ∧ ((out.length : Int) ≠ many → plE l many = 2 ∧ plV l many = []))
end Go.Proofs.YthpijibcfkcenaaDoor
