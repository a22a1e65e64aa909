/- What the document's takers return. Conditions: the text is no longer than any text. -/
import Derived.Test.YtkahdmhgfojbiaaOctC
namespace Go.Proofs.Ytkahdmhgfojbiaa
open Go.ChangeShapes Go.WideShapes Go.ChangeAt Go.RowKit
set_option linter.unusedVariables false
set_option maxRecDepth 100000
set_option linter.unusedSimpArgs false

theorem take_snoc (s : ByteArray) (k : Nat) (h : k < s.size) : s.data.toList.take (k + 1) = s.data.toList.take k ++ [s[k]] := by
  rw [List.take_succ_eq_append_getElem (by simpa using h)]; rfl
def tfE (l : List UInt8) (size : Int) : Nat := if ¬ (1 ≤ size ∧ size ≤ 8) then 1 else if (l.length : Int) < size then 3 else 0
def tfV (l : List UInt8) (size : Int) : Nat := if tfE l size = 0 then bigV (l.take size.toNat) 0 else 0
def tfM (l : List UInt8) (size : Int) : Nat := if tfE l size = 0 then size.toNat else 0
theorem tvE_ne {l : List UInt8} (h : tvE l ≠ 0) : tvV l = 0 ∧ tvM l = 0 := by
  unfold tvV tvM; rw [if_neg h, if_neg h]; exact ⟨rfl, rfl⟩
theorem drop_val (s : ByteArray) (e j : Nat) (hj : j ≤ e) (he : e < s.size) :
    val ((s.data.toList.take (e + 1)).drop j) = (s[j]'(by omega)).toNat % 128 + 128 * val ((s.data.toList.take (e + 1)).drop (j + 1)) := by
  have hlen : j < (s.data.toList.take (e + 1)).length := by rw [List.length_take, data_len]; omega
  rw [List.drop_eq_getElem_cons hlen, List.getElem_take]; rfl
theorem tv_true (s : ByteArray) (k m : Nat) (he : leadN s.data.toList = k) (hk : k < s.size) (h9 : k < 9) (hV : val (s.data.toList.take (k + 1)) = m)
    (hq : ((bs (varL m)).toList == (s.extract 0 (k + 1)).toList) = true) : tvE s.data.toList = 0 ∧ tvV s.data.toList = m ∧ tvM s.data.toList = k + 1 := by
  subst he; subst hV
  rw [bs_toList, Lib.toList_data, extract_list, List.drop_zero, beq_iff_eq] at hq
  have h := (varL_iff s.data.toList (by rw [data_len]; exact hk) h9).1 hq
  have e := tvE_ok (l := s.data.toList) (by rw [data_len]; exact hk) (fun g => g.elim (fun g => by omega) h)
  refine ⟨e, ?_, ?_⟩
  · rw [tvV, if_pos e]
  · rw [tvM, if_pos e]
theorem tv_false (s : ByteArray) (k m : Nat) (he : leadN s.data.toList = k) (hk : k < s.size) (h9 : k < 9) (hV : val (s.data.toList.take (k + 1)) = m)
    (hq : ((bs (varL m)).toList == (s.extract 0 (k + 1)).toList) = false) : tvE s.data.toList = 2 := by
  subst he; subst hV
  rw [bs_toList, Lib.toList_data, extract_list, List.drop_zero, beq_eq_false_iff_ne] at hq
  refine tvE_form (by rw [data_len]; exact hk) (Or.inr ?_)
  by_cases h0 : 0 < leadN s.data.toList ∧ s.data.toList[leadN s.data.toList]? = some 0
  · exact h0
  · exact absurd ((varL_iff s.data.toList (by rw [data_len]; exact hk) h9).2 h0) hq
theorem tv_nine (s : ByteArray) (k : Nat) (hk : k < s.size) (h9 : 9 ≤ k) : ((bs (varL 0)).toList == (s.extract 0 (k + 1)).toList) = false := by
  rw [bs_toList, Lib.toList_data, extract_list, List.drop_zero, beq_eq_false_iff_ne]
  intro h
  have := congrArg List.length h
  rw [List.length_take, data_len, varL_lt (by omega), List.length_singleton] at this
  omega
set_option maxRecDepth 100000 in
theorem rtakeVar_any (s : ByteArray) (w : World) (hs : s.size ≤ 9223372036854775000) :
    Calls Try.prog 26 #[.string s] w fun e w' => e = .returned (.tuple #[.int .i64 (tvV s.data.toList), .int .i64 (tvM s.data.toList), .int .i64 (tvE s.data.toList)]) ∧ Below w.heap.size w w' := by
  obtain ⟨e, he⟩ : ∃ e, leadN s.data.toList = e := ⟨_, rfl⟩
  have hle : e ≤ s.size := by rw [← he, ← data_len]; exact leadN_le s.data.toList
  have HGE := Lib.hid (show ∀ k (h : k < s.size), k < e → 128 ≤ (s[k]).toNat from fun k h hk => leadN_ge s.data.toList k (by rw [data_len]; exact h) (by omega))
  have HAT := Lib.hid (show ∀ (h : e < s.size), (s[e]).toNat < 128 from fun h => by subst he; exact leadN_at s.data.toList (by rw [data_len]; omega))
  have HE := Lib.hid he
  clear he
  go_enter Try.func26, Try.ntmps26
  go_wp2_with fail
  go_loop [5] (fun x => ∃ k : Nat, k ≤ e ∧ x = .int .i64 k) (fun x => s.size - (intOf x).toNat)
  case atStart => exact ⟨0, by omega, rfl⟩
  case round =>
    obtain ⟨k, hk, rfl⟩ := hrel
    by_cases hlt : k < e
    · have hg := HGE.out k (by omega) hlt
      have hk2 : k < s.size := by omega
      go_wp2_with fail
      go_round
      case rel => exact ⟨k + 1, by omega, by go_num⟩
      case measure => simp [intOf]; omega
    · obtain rfl : k = e := by omega
      by_cases hsz : s.size ≤ k
      · have he := HE.out
        have e1 : tvE s.data.toList = 3 := tvE_short (by rw [data_len]; omega)
        have e2 := (tvE_ne (l := s.data.toList) (by omega)).1
        have e3 := (tvE_ne (l := s.data.toList) (by omega)).2
        have E1 := Lib.hid e1
        have E2 := Lib.hid e2
        have E3 := Lib.hid e3
        clear e1 e2 e3 he HGE HAT HE
        go_wp2_with fail
        go_ret3
        exact ⟨by rw [E1.out, E2.out, E3.out]; rfl, Below.refl _ _⟩
      · have hat := HAT.out (by omega)
        have hk2 : k < s.size := by omega
        clear HAT HGE hlt hk
        by_cases h9 : 9 ≤ k
        · have he := HE.out
          have hq := tv_nine s k hk2 h9
          have e1 := tvE_form (l := s.data.toList) (by rw [data_len]; omega) (Or.inl (by omega))
          have e2 := (tvE_ne (l := s.data.toList) (by omega)).1
          have e3 := (tvE_ne (l := s.data.toList) (by omega)).2
          have E1 := Lib.hid e1
          have E2 := Lib.hid e2
          have E3 := Lib.hid e3
          have HQ := Lib.hid hq
          have hvar := fun w => Lib.hid (show Calls Try.prog 20 #[.int .i64 0] w fun e w' => e = .returned (.string (bs (varL 0))) ∧ Below w.heap.size w w' from rvar_in 0 w (by omega))
          have d9 : decide ((k : Int) < 9) = false := decide_eq_false (by omega)
          clear e1 e2 e3 he hq HE
          go_wp2_with fail
          refine wp_loop_rounds 1 ?_
          rw [rounds_succ]
          go_wp2_with fail
          have q1 : IntKind.i64.wrap ((k : Int) + 1) = (k : Int) + 1 := IntWalk.i64_in _ (by omega)
          have q2 : (0 : Int) ≤ (k : Int) + 1 := by omega
          have q3 : ((k : Int) + 1).toNat = k + 1 := by omega
          have q4 : (k : Int) + 1 ≤ (s.size : Int) := by omega
          go_region_with (go_at_call 20; (with_reducible refine (hvar _).out.mono ?_); rintro e w1 ⟨rfl, hb⟩)
          clear q1 q2 q3 q4
          all_goals have hq := HQ.out
          all_goals have hq2 : (!((bs (varL 0)).toList == (s.extract 0 (k + 1)).toList)) = true := by rw [hq]; rfl
          all_goals go_wp2_with fail
          all_goals try (exfalso; rename_i h; rw [hq2] at h; cases h; done)
          all_goals go_ret3
          all_goals exact ⟨by rw [E1.out, E2.out, E3.out]; rfl, (Below.refl _ _).drew.trans hb⟩
        · go_wp2_with fail
          go_loop [6, 7] (fun n i => ∃ j : Nat, j ≤ k + 1 ∧ n = .int .i64 ((val ((s.data.toList.take (k + 1)).drop j) : Nat) : Int) ∧ i = .int .i64 ((j : Int) - 1)) (fun _ i => (intOf i + 1).toNat)
          case atStart => exact ⟨k + 1, by omega, by rw [List.drop_eq_nil_of_le (by rw [List.length_take]; omega)]; rfl, by go_num⟩
          case round =>
            obtain ⟨j, hj, rfl, rfl⟩ := hrel
            by_cases hj0 : 0 < j
            · obtain ⟨i, rfl⟩ : ∃ i, j = i + 1 := ⟨j - 1, by omega⟩
              have hv := drop_val s k i (by omega) (by omega)
              have hl := val_lt ((s.data.toList.take (k + 1)).drop (i + 1))
              have hp : 128 ^ ((s.data.toList.take (k + 1)).drop (i + 1)).length ≤ 128 ^ 8 := Nat.pow_le_pow_right (by omega) (by rw [List.length_drop, List.length_take]; omega)
              have e8 : 128 ^ 8 = 72057594037927936 := by decide
              have hm : val ((s.data.toList.take (k + 1)).drop (i + 1)) < 72057594037927936 := by omega
              have hb := (s[i]'(by omega)).toNat_lt
              have HV := Lib.hid hv
              clear hv hl hp e8
              generalize val ((s.data.toList.take (k + 1)).drop (i + 1)) = m at *
              have hi : i < s.size := by omega
              go_wp2_with fail
              go_round
              case rel => exact ⟨i, by omega, by rw [HV.out]; go_num, by go_num⟩
              case measure => simp [intOf]
            · obtain rfl : j = 0 := by omega
              rw [List.drop_zero]
              have hlv := val_lt (s.data.toList.take (k + 1))
              have hp : 128 ^ (s.data.toList.take (k + 1)).length ≤ 128 ^ 9 := Nat.pow_le_pow_right (by omega) (by rw [List.length_take]; omega)
              have e9 : 128 ^ 9 = 9223372036854775808 := by decide
              have hm : val (s.data.toList.take (k + 1)) < 9223372036854775808 := by omega
              generalize hV : val (s.data.toList.take (k + 1)) = m at *
              have HV := Lib.hid hV
              clear hlv hp e9 hV
              have hvar := fun w => Lib.hid (rvar_in m w hm)
              have he := HE.out
              have hV := HV.out
              cases hq : ((bs (varL m)).toList == (s.extract 0 (k + 1)).toList)
              · have e1 := tv_false s k m he hk2 (by omega) hV hq
                have e2 := (tvE_ne (l := s.data.toList) (by omega)).1
                have e3 := (tvE_ne (l := s.data.toList) (by omega)).2
                have E1 := Lib.hid e1
                have E2 := Lib.hid e2
                have E3 := Lib.hid e3
                have HQ := Lib.hid hq
                clear e1 e2 e3 he hV hq HE HV
                have q1 : IntKind.i64.wrap ((k : Int) + 1) = (k : Int) + 1 := IntWalk.i64_in _ (by omega)
                have q2 : (0 : Int) ≤ (k : Int) + 1 := by omega
                have q3 : ((k : Int) + 1).toNat = k + 1 := by omega
                have q4 : (k : Int) + 1 ≤ (s.size : Int) := by omega
                go_wp2_with fail
                go_region_with (go_at_call 20; (with_reducible refine (hvar _).out.mono ?_); rintro e w1 ⟨rfl, hb⟩)
                clear q1 q2 q3 q4
                all_goals have hq := HQ.out
                all_goals have hq2 : (!((bs (varL m)).toList == (s.extract 0 (k + 1)).toList)) = true := by rw [hq]; rfl
                all_goals go_wp2_with fail
                all_goals try (exfalso; rename_i h; rw [hq2] at h; cases h; done)
                all_goals go_ret3
                all_goals exact ⟨by rw [E1.out, E2.out, E3.out]; rfl, (Below.refl _ _).drew.trans hb⟩
              · obtain ⟨e1, e2, e3⟩ := tv_true s k m he hk2 (by omega) hV hq
                have E1 := Lib.hid e1
                have E2 := Lib.hid e2
                have E3 := Lib.hid e3
                have HQ := Lib.hid hq
                clear e1 e2 e3 he hV hq HE HV
                have q1 : IntKind.i64.wrap ((k : Int) + 1) = (k : Int) + 1 := IntWalk.i64_in _ (by omega)
                have q2 : (0 : Int) ≤ (k : Int) + 1 := by omega
                have q3 : ((k : Int) + 1).toNat = k + 1 := by omega
                have q4 : (k : Int) + 1 ≤ (s.size : Int) := by omega
                go_wp2_with fail
                go_region_with (go_at_call 20; (with_reducible refine (hvar _).out.mono ?_); rintro e w1 ⟨rfl, hb⟩)
                clear q1 q2 q3 q4
                all_goals have hq := HQ.out
                all_goals have hq2 : (!((bs (varL m)).toList == (s.extract 0 (k + 1)).toList)) = false := by rw [hq]; rfl
                all_goals go_wp2_with fail
                all_goals try (exfalso; rename_i h; rw [hq2] at h; cases h; done)
                all_goals go_ret3
                all_goals exact ⟨by rw [E1.out, E2.out, E3.out]; simp, (Below.refl _ _).drew.trans hb⟩
end Go.Proofs.Ytkahdmhgfojbiaa
