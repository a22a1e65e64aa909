/- What the document's own answers for frames come to. Conditions: texts of at most 100,000 bytes. -/
import Derived.Test.YtgooepfhapaenaaGreatFrmS
import Derived.Test.YtgooepfhapaenaaGreatCrcRef
namespace Go.Proofs.YtgooepfhapaenaaGreat
open Go.ChangeShapes Go.WideShapes Go.ChangeAt Go.RowKit
set_option linter.unusedVariables false
set_option maxRecDepth 100000
set_option linter.unusedSimpArgs false

set_option maxHeartbeats 1000000 in
theorem rseal_any (s : ByteArray) (w : World) (hs : s.size ≤ 9223372036854775000) :
    Calls Tryz.prog 19 #[.string s] w fun e w' => e = .returned (.tuple #[.string (sealT s), .int .i64 (sealE s)]) ∧ Below w.heap.size w w' := by
  unfold sealE sealT
  by_cases h : 200 < s.size
  · rw [if_pos h, if_pos h]
    have d1 : decide ((200 : Int) < s.size) = true := decide_eq_true (by omega)
    go_enter Tryz.func19, Tryz.ntmps19
    go_wp2
    go_ret2
    exact ⟨rfl, Below.refl _ _⟩
  · rw [if_neg h, if_neg h]
    have d1 : decide ((200 : Int) < s.size) = false := decide_eq_false (by omega)
    have hl : s.data.toList.length = s.size := data_len s
    have F2 := Lib.hid (fun w => rfixed_in s.size 2 w (by omega) (by omega) (by omega))
    have z2 : (bs (fixL s.size 2)).size = 2 := by rw [bs_size, fixL_length]
    have e1 : bs (fixL s.size 2) ++ s = bs (lenL s.data.toList) := by
      conv => lhs; rw [← bs_of s]
      rw [bs_append, lenL, hl, bs_of]
    have hL : (bs (lenL s.data.toList)).size = s.size + 2 := by rw [bs_size, lenL_length, hl]
    have S3 := fun w => crsum_any (bs (lenL s.data.toList)) w (by omega)
    rw [bs_list] at S3
    have hm := more_lt (show 0 < 4294967296 by omega) (lenL s.data.toList)
    have F4 := Lib.hid (fun w => rfixed_in (more 0 (lenL s.data.toList)) 4 w (by omega) (by omega) (by omega))
    have z4 : (bs (fixL (more 0 (lenL s.data.toList)) 4)).size = 4 := by rw [bs_size, fixL_length]
    have e2 : ByteArray.mk #[82] ++ bs (lenL s.data.toList) ++ bs (fixL (more 0 (lenL s.data.toList)) 4) = bs (sealL s.data.toList) := by
      rw [show ByteArray.mk #[82] = bs [82] from rfl, bs_append, bs_append]
      congr 1
    have z3 : (ByteArray.mk #[82] ++ bs (lenL s.data.toList)).size = s.size + 3 := by rw [ByteArray.size_append, hL]; show 1 + _ = _; omega
    have S3 := Lib.hid S3
    have E1 := Lib.hid e1
    have E2 := Lib.hid e2
    clear e1 e2 hl
    generalize bs (fixL s.size 2) = T2 at *
    generalize bs (fixL (more 0 (lenL s.data.toList)) 4) = T4 at *
    generalize more 0 (lenL s.data.toList) = m at *
    generalize bs (lenL s.data.toList) = TL at *
    generalize bs (sealL s.data.toList) = TS at *
    go_enter Tryz.func19, Tryz.ntmps19
    go_wp2_with fail
    refine (F2.out _).mono ?_
    rintro e w2 ⟨rfl, b2⟩
    go_wp2_with fail
    rw [E1.out]
    refine (S3.out _).mono ?_
    rintro e w3 ⟨rfl, rfl⟩
    go_wp2_with fail
    refine (F4.out _).mono ?_
    rintro e w4 ⟨rfl, b4⟩
    go_wp2_with fail
    rw [E2.out]
    go_ret2
    exact ⟨rfl, b2.trans (b4.mono b2.size)⟩

/-- What the document's Open says, in its order. -/
theorem byte_one (l : List UInt8) (h : 0 < l.length) : bigV (l.take 1) 0 = (l[0]).toNat := by
  cases l with
  | nil => simp at h
  | cons b l => simp [bigV]
theorem byte_two (l : List UInt8) (h : 2 < l.length) : told l = (l[1]).toNat * 256 + (l[2]).toNat := by
  match l, h with
  | a :: b :: c :: l, _ => simp [told, bigV]
set_option maxHeartbeats 1000000 in
theorem ropen_any (s : ByteArray) (w : World) (hs : s.size ≤ 9223372036854775000) :
    Calls Tryz.prog 31 #[.string s] w fun e w' => e = .returned (.tuple #[.string (bs (openB s.data.toList)), .int .i64 (openN s.data.toList), .int .i64 (openE s.data.toList)]) ∧ Below w.heap.size w w' := by
  have hl : s.data.toList.length = s.size := data_len s
  have hE : openE s.data.toList = if s.data.toList.length < 1 then 3 else if bigV (s.data.toList.take 1) 0 ≠ 82 then 2 else if s.data.toList.length < 3 then 3 else if 200 < told s.data.toList then 9 else if s.data.toList.length < told s.data.toList + 7 then 3
  else if (s.data.toList.drop (told s.data.toList + 3)).take 4 ≠ fixL (more 0 ((s.data.toList.drop 1).take (told s.data.toList + 2))) 4 then 4 else 0 := rfl
  rw [hl] at hE
  have hbad : ∀ n : Nat, openE s.data.toList = n → n ≠ 0 → Ending.returned (.tuple #[.string (bs (openB s.data.toList)), .int .i64 (openN s.data.toList), .int .i64 (openE s.data.toList)]) = Ending.returned (.tuple #[.string ⟨#[]⟩, .int .i64 0, .int .i64 n]) := by
    intro n h1 h2
    unfold openB openN
    rw [h1, if_neg h2, if_neg h2]; rfl
  by_cases c1 : s.size < 1
  · rw [if_pos c1] at hE
    have d1 : ((s.size : Int) == 0) = true := by rw [show s.size = 0 by omega]; rfl
    have HX := Lib.hid (hbad 3 hE (by omega))
    clear hbad hE hl
    go_enter Tryz.func31, Tryz.ntmps31
    go_wp2
    go_ret3
    exact ⟨HX.out.symm, Below.refl _ _⟩
  rw [if_neg c1] at hE
  have d1 : ((s.size : Int) == 0) = false := beq_false_of_ne (by omega)
  have hp0 : 0 < s.size := by omega
  rw [byte_one _ (by omega)] at hE
  have hg0 : s.data.toList[0]'(by omega) = s[0]'hp0 := by simp; rfl
  rw [hg0] at hE
  clear hg0
  by_cases c2 : (s[0]'hp0).toNat ≠ 82
  · rw [if_pos c2] at hE
    have d2 : (((s[0]'hp0).toNat : Int) != 82) = true := by simp; omega
    have HX := Lib.hid (hbad 2 hE (by omega))
    clear hbad hE hl
    go_enter Tryz.func31, Tryz.ntmps31
    go_wp2
    go_ret3
    exact ⟨HX.out.symm, Below.refl _ _⟩
  rw [if_neg c2] at hE
  have c2 := Classical.not_not.1 c2
  have d2 : (((s[0]'hp0).toNat : Int) != 82) = false := by simp; omega
  have h82 : bigV (s.data.toList.take 1) 0 = 82 := by
    rw [byte_one _ (by omega)]
    rw [show s.data.toList[0]'(by omega) = s[0]'hp0 by simp; rfl]
    exact c2
  clear c2
  by_cases c3 : s.size < 3
  · rw [if_pos c3] at hE
    have d3 : decide ((s.size : Int) < 3) = true := decide_eq_true (by omega)
    have HX := Lib.hid (hbad 3 hE (by omega))
    clear hbad hE hl h82
    go_enter Tryz.func31, Tryz.ntmps31
    go_wp2
    go_ret3
    exact ⟨HX.out.symm, Below.refl _ _⟩
  rw [if_neg c3] at hE
  have d3 : decide ((s.size : Int) < 3) = false := decide_eq_false (by omega)
  have hp1 : 1 < s.size := by omega
  have hp2 : 2 < s.size := by omega
  have ht := byte_two s.data.toList (by omega)
  rw [show s.data.toList[1]'(by omega) = s[1]'hp1 by simp; rfl, show s.data.toList[2]'(by omega) = s[2]'hp2 by simp; rfl] at ht
  have hu1 := (s[1]'hp1).toNat_lt
  have hu2 := (s[2]'hp2).toNat_lt
  have htl := told_lt s.data.toList
  have hI : ((s[1]'hp1).toNat : Int) * (256 : Int) + ((s[2]'hp2).toNat : Int) = (told s.data.toList : Int) := by omega
  have HI := Lib.hid hI
  have hx1 : ∀ w, (Instr.index 9 (.string s) (.int .i64 1)).run Tryz.prog w = .ok (.int .u8 (s[1]'hp1).toNat) w := fun w => ix_at (P := Tryz.prog) w 9 s 1 hp1 (by kernel_rfl)
  have hx2 : ∀ w, (Instr.index 9 (.string s) (.int .i64 2)).run Tryz.prog w = .ok (.int .u8 (s[2]'hp2).toNat) w := fun w => ix_at (P := Tryz.prog) w 9 s 2 hp2 (by kernel_rfl)
  have hsi := seal_iff s.data.toList (by omega) h82
  have HL := Lib.hid hl
  clear ht hI hl h82
  by_cases c4 : 200 < told s.data.toList
  · rw [if_pos c4] at hE
    have d4 : decide ((200 : Int) < (told s.data.toList : Int)) = true := decide_eq_true (by omega)
    have HX := Lib.hid (hbad 9 hE (by omega))
    clear hbad hE hsi
    generalize told s.data.toList = n at *
    go_enter Tryz.func31, Tryz.ntmps31
    go_wp2_with fail
    go_quiet (fail)
    rw [HI.out]
    go_wp2
    go_ret3
    exact ⟨HX.out.symm, below_drewN (Below.refl _ _) _⟩
  rw [if_neg c4] at hE
  have d4 : decide ((200 : Int) < (told s.data.toList : Int)) = false := decide_eq_false (by omega)
  by_cases c5 : s.size < told s.data.toList + 7
  · rw [if_pos c5] at hE
    have d5 : decide ((s.size : Int) < (told s.data.toList : Int) + 7) = true := decide_eq_true (by omega)
    have HX := Lib.hid (hbad 3 hE (by omega))
    clear hbad hE hsi
    generalize told s.data.toList = n at *
    go_enter Tryz.func31, Tryz.ntmps31
    go_wp2_with fail
    go_quiet (fail)
    rw [HI.out]
    go_wp2
    go_ret3
    exact ⟨HX.out.symm, below_drewN (Below.refl _ _) _⟩
  have d5 : decide ((s.size : Int) < (told s.data.toList : Int) + 7) = false := decide_eq_false (by omega)
  have hsi := hsi (by omega) (by rw [HL.out]; omega)
  have hx3 : (s.extract 3 (told s.data.toList + 3)).data.toList = (s.data.toList.drop 3).take (told s.data.toList) := by
    rw [extract_list, List.drop_take]; congr 1
  have hx7 : (s.extract 0 (told s.data.toList + 7)).data.toList = s.data.toList.take (told s.data.toList + 7) := by
    rw [extract_list]; rfl
  have hz3 : (s.extract 3 (told s.data.toList + 3)).size = told s.data.toList := by rw [← data_len, hx3, List.length_take, List.length_drop, HL.out]; omega
  have hS := fun w => rseal_any (s.extract 3 (told s.data.toList + 3)) w (by omega)
  have eS : sealE (s.extract 3 (told s.data.toList + 3)) = 0 := by unfold sealE; rw [if_neg (by omega)]
  have tS : sealT (s.extract 3 (told s.data.toList + 3)) = bs (sealL ((s.data.toList.drop 3).take (told s.data.toList))) := by unfold sealT; rw [if_neg (by omega), hx3]
  have tX : s.extract 0 (told s.data.toList + 7) = bs (s.data.toList.take (told s.data.toList + 7)) := by rw [← hx7, bs_of]
  have hcase : (bs (sealL ((s.data.toList.drop 3).take (told s.data.toList))) = bs (s.data.toList.take (told s.data.toList + 7)) ∧ openE s.data.toList = 0) ∨ (bs (sealL ((s.data.toList.drop 3).take (told s.data.toList))) ≠ bs (s.data.toList.take (told s.data.toList + 7)) ∧ openE s.data.toList = 4) := by
    by_cases h0 : openE s.data.toList = 0
    · exact Or.inl ⟨by rw [hsi.2 h0], h0⟩
    · refine Or.inr ⟨fun e => h0 (hsi.1 ?_), ?_⟩
      · rw [← bs_list (sealL _), e, bs_list]
      · rw [if_neg c5] at hE
        by_cases hs4 : (s.data.toList.drop (told s.data.toList + 3)).take 4 ≠ fixL (more 0 ((s.data.toList.drop 1).take (told s.data.toList + 2))) 4
        · rw [if_pos hs4] at hE; exact hE
        · rw [if_neg hs4] at hE; exact absurd hE h0
  have hgood : openE s.data.toList = 0 → Ending.returned (.tuple #[.string (bs (openB s.data.toList)), .int .i64 (openN s.data.toList), .int .i64 (openE s.data.toList)]) = Ending.returned (.tuple #[.string (s.extract 3 (told s.data.toList + 3)), .int .i64 ((told s.data.toList : Int) + 7), .int .i64 0]) := by
    intro h
    unfold openB openN
    rw [if_pos h, if_pos h, h, ← hx3, bs_of]; rfl
  rw [eS, tS] at hS
  rw [← tX] at hcase
  have hsl1 := fun w => run_slice_string (P := Tryz.prog) w 9 s .i64 .i64 (3 : Int) ((told s.data.toList : Int) + 3) (by kernel_rfl) (by omega) (by omega) (by omega)
  have hsl2 := fun w => run_slice_string_h (P := Tryz.prog) w 9 s (by kernel_rfl) .i64 ((told s.data.toList : Int) + 7) (by omega) (by omega)
  have t3 : ((told s.data.toList : Int) + 3).toNat = told s.data.toList + 3 := by omega
  have t7 : ((told s.data.toList : Int) + 7).toNat = told s.data.toList + 7 := by omega
  rw [t3, show (3 : Int).toNat = 3 from rfl] at hsl1
  rw [t7] at hsl2
  have HS := Lib.hid hS
  clear hx3 hx7 hz3 hS eS tS tX hsi hE t3 t7
  generalize bs (sealL ((s.data.toList.drop 3).take (told s.data.toList))) = X at *
  generalize s.extract 0 (told s.data.toList + 7) = Y at *
  generalize s.extract 3 (told s.data.toList + 3) = V at *
  rcases hcase with ⟨rfl, h0⟩ | ⟨hne, h4⟩
  · have HX := Lib.hid (hgood h0)
    clear hgood hbad h0
    generalize told s.data.toList = n at *
    go_enter Tryz.func31, Tryz.ntmps31
    go_wp2_with fail
    go_quiet (fail)
    rw [HI.out]
    go_wp2_with fail
    refine (HS.out _).mono ?_
    rintro e w3 ⟨rfl, b3⟩
    have HB := Lib.hid ((below_drewN (Below.refl w.heap.size w) nq).trans (b3.mono (Nat.le_refl _)))
    clear b3
    go_wp2_with fail
    go_ret3
    exact ⟨HX.out.symm, HB.out⟩
  · have HX := Lib.hid (hbad 4 h4 (by omega))
    have hxy : (X.toList == Y.toList) = false := by
      rw [beq_eq_false_iff_ne]
      intro e
      rw [Lib.toList_data, Lib.toList_data] at e
      exact hne (by rw [← bs_of X, e, bs_of])
    clear hgood hbad h4 hne
    generalize told s.data.toList = n at *
    go_enter Tryz.func31, Tryz.ntmps31
    go_wp2_with fail
    go_quiet (fail)
    rw [HI.out]
    go_wp2_with fail
    refine (HS.out _).mono ?_
    rintro e w3 ⟨rfl, b3⟩
    have HB := Lib.hid ((below_drewN (Below.refl w.heap.size w) nq).trans (b3.mono (Nat.le_refl _)))
    clear b3
    go_wp2_with fail
    go_ret3
    exact ⟨HX.out.symm, HB.out⟩

end Go.Proofs.YtgooepfhapaenaaGreat
