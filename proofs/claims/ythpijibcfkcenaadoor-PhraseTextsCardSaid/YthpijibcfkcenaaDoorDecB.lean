/- dec's Text and Parse. Conditions: texts of at most 100,000 bytes; the library's table holds what it was laid with. -/
import Derived.Test.YthpijibcfkcenaaDoorDecA
import Derived.Test.YthpijibcfkcenaaDoorTab
namespace Go.Proofs.YthpijibcfkcenaaDoor
open Go.ChangeShapes Go.WideShapes Go.ChangeAt Go.RowKit
set_option linter.unusedVariables false
set_option maxRecDepth 100000
set_option linter.unusedSimpArgs false

theorem dtext_any (n : Int) (hn : inI n) (w : World) (ht : Tb w) :
    Calls Tryd.prog 42 #[.int .i64 n] w fun e w' => e = .returned (.string (bs (textL n))) ∧ Below w.heap.size w w' := by
  have H := Lib.hid (itoa_any n hn w ht)
  clear ht
  go_enter Tryd.func42, Tryd.ntmps42
  go_wp2_with fail
  refine H.out.mono ?_; rintro e w' ⟨rfl, hb⟩
  have HB := Lib.hid hb
  clear hb
  go_wp2_with fail
  go_ret
  exact ⟨rfl, HB.out⟩

/-- Digits, and what they count. -/
def good10 (c : UInt8) : Bool := decide (48 ≤ c.toNat ∧ c.toNat ≤ 57)
def val10 (c : UInt8) : Nat := c.toNat - 48
theorem good10_dig {c : UInt8} : good10 c = true ↔ isDig c := by simp [good10, isDig]
theorem num10 (l : List UInt8) : ∀ a : Nat, numW 10 val10 (IntKind.i64.wrap (a : Int)) l = IntKind.i64.wrap ((digV a l : Nat) : Int) := by
  induction l with
  | nil => intro a; rfl
  | cons c l ih =>
    intro a
    show numW 10 val10 (IntKind.i64.wrap (IntKind.i64.wrap (IntKind.i64.wrap (a : Int) * 10) + (val10 c : Int))) l = _
    have e : IntKind.i64.wrap (IntKind.i64.wrap (IntKind.i64.wrap (a : Int) * 10) + (val10 c : Int)) = IntKind.i64.wrap (((a * 10 + (c.toNat - 48) : Nat)) : Int) := by
      unfold val10
      simp only [IntKind.wrap_i64]; omega
    rw [e, ih]; rfl
/-- The digits behind a sign. -/
def digs (l : List UInt8) : List UInt8 := if l.head? = some 45 then l.tail else l
theorem digs_trim (l : List UInt8) : Lib.trimPrefix l [45] = digs l := by
  unfold Lib.trimPrefix Lib.hasPrefix digs
  cases l with
  | nil => rfl
  | cons c l =>
    by_cases h : c = 45
    · subst h; rfl
    · have h2 : ¬ (45 : UInt8) = c := fun e => h e.symm
      simp [h, h2, List.isPrefixOf]
theorem digs_has (l : List UInt8) : Lib.hasPrefix l [45] = decide (l.head? = some 45) := by
  unfold Lib.hasPrefix
  cases l with
  | nil => rfl
  | cons c l =>
    by_cases h : c = 45
    · subst h; rfl
    · have h2 : ¬ (45 : UInt8) = c := fun e => h e.symm
      simp [h, h2, List.isPrefixOf]
theorem digs_text (n : Int) : digs (textL n) = decL n.natAbs := by
  unfold digs textL
  by_cases h : n < 0
  · rw [if_pos h]; rfl
  · rw [if_neg h, if_neg (decL_head _)]
theorem digs_len (l : List UInt8) : (digs l).length ≤ l.length := by
  unfold digs; split
  · rw [List.length_tail]; omega
  · omega
theorem par_nodig (l : List UInt8) (h : (digs l).all good10 = false) : parE l = 2 ∧ parV l = 0 := by
  refine par_bad fun e => ?_
  have h1 := (par_ok e).1
  rw [← h1, digs_text] at h
  rw [List.all_eq_false] at h
  obtain ⟨c, hc, h2⟩ := h
  exact h2 (good10_dig.2 (decL_dig _ c hc))
theorem val_digs (l : List UInt8) : IntKind.i64.wrap (valD l) = if l.head? = some 45 then IntKind.i64.wrap (-(numW 10 val10 0 (digs l))) else numW 10 val10 0 (digs l) := by
  have h0 := num10 (digs l) 0
  rw [show IntKind.i64.wrap ((0 : Nat) : Int) = 0 from rfl] at h0
  unfold valD
  by_cases h : l.head? = some 45
  · rw [if_pos h, if_pos h, h0]
    unfold digs; rw [if_pos h]
    simp only [IntKind.wrap_i64]; omega
  · rw [if_neg h, if_neg h, h0]
    unfold digs; rw [if_neg h]
theorem par_end (s : ByteArray) (v : Int) (h : v = IntKind.i64.wrap (valD s.data.toList)) :
    inI v ∧ ((bs (textL v) = s ∧ parE s.data.toList = 0 ∧ parV s.data.toList = v) ∨ (bs (textL v) ≠ s ∧ parE s.data.toList = 2 ∧ parV s.data.toList = 0)) := by
  have hv : inI v := by subst h; unfold inI; rw [IntKind.wrap_i64]; omega
  refine ⟨hv, ?_⟩
  by_cases e : bs (textL v) = s
  · have := parE_iff s.data.toList v hv (by rw [← e, bs_list])
    exact Or.inl ⟨e, this.1, this.2⟩
  · refine Or.inr ⟨e, par_bad fun h0 => e ?_⟩
    obtain ⟨h2, h3⟩ := par_ok h0
    have hpv : parV s.data.toList = valD s.data.toList := by unfold parV; rw [if_pos h0]
    rw [hpv] at h2 h3
    have : v = valD s.data.toList := by rw [h]; exact IntWalk.i64_in _ h3
    rw [this, h2, bs_of]
theorem dig_yes (c : UInt8) (h : good10 c = true) (w : World) :
    Calls Tryd.prog 65 #[.int .i32 (c.toNat : Nat)] w fun e w' => e = .returned (.tuple #[.int .i64 (val10 c : Nat), .bool true]) ∧ Below w.heap.size w w' := by
  have hd := good10_dig.1 h
  obtain ⟨h1, h2⟩ := hd
  have hv : val10 c + 48 = c.toNat := by unfold val10; omega
  clear h
  generalize val10 c = v at *
  generalize c.toNat = r at *
  have d1 : decide ((48 : Int) ≤ (r : Int)) = true := decide_eq_true (by omega)
  have d2 : decide ((r : Int) ≤ 57) = true := decide_eq_true (by omega)
  have d3 : decide (48 ≤ r) = true := decide_eq_true (by omega)
  have d4 : decide (r ≤ 57) = true := decide_eq_true (by omega)
  have q1 : IntKind.i32.wrap ((r : Int) - 48) = (v : Int) := by rw [IntKind.wrap_i32]; omega
  go_enter Tryd.func65, Tryd.ntmps65
  go_wp2_with fail
  go_ret2
  exact ⟨rfl, Below.refl _ _⟩
theorem dig_no (r : Nat) (hr : r ≤ 2147483647) (h : r < 128 → good10 (UInt8.ofNat r) = false) (w : World) :
    Calls Tryd.prog 65 #[.int .i32 (r : Nat)] w fun e w' => (∃ d : Int, e = .returned (.tuple #[.int .i64 d, .bool false])) ∧ Below w.heap.size w w' := by
  have hx : r < 48 ∨ 57 < r := by
    by_cases h1 : r < 128
    · have h2 := h h1
      have h3 : (UInt8.ofNat r).toNat = r := by simp; omega
      simp [good10, h3] at h2
      omega
    · omega
  clear h
  rcases hx with hx | hx
  · have d1 : decide ((48 : Int) ≤ (r : Int)) = false := decide_eq_false (by omega)
    have d3 : decide (48 ≤ r) = false := decide_eq_false (by omega)
    go_enter Tryd.func65, Tryd.ntmps65
    go_wp2_with fail
    go_ret2
    exact ⟨⟨_, rfl⟩, Below.refl _ _⟩
  · have d1 : decide ((48 : Int) ≤ (r : Int)) = true := decide_eq_true (by omega)
    have d2 : decide ((r : Int) ≤ 57) = false := decide_eq_false (by omega)
    have d3 : decide (48 ≤ r) = true := decide_eq_true (by omega)
    have d4 : decide (r ≤ 57) = false := decide_eq_false (by omega)
    go_enter Tryd.func65, Tryd.ntmps65
    go_wp2_with fail
    go_ret2
    exact ⟨⟨_, rfl⟩, Below.refl _ _⟩
theorem dparse_any (s : ByteArray) (w : World) (hs : s.size ≤ 100000) (ht : Tb w) :
    Calls Tryd.prog 49 #[.string s] w fun e w' => e = .returned (.tuple #[.int .i64 (parV s.data.toList), .int .i64 (parE s.data.toList)]) ∧ Below w.heap.size w w' := by
  have C1 := fun w => Tryd.strings_CutPrefix s ⟨#[45]⟩ w
  rw [show (ByteArray.mk #[45]).data.toList = [45] from rfl, digs_trim, digs_has] at C1
  have C1 := Lib.hid C1
  have N1 := fun w => number_dec 10 val10 good10 (bs (digs s.data.toList)) w (by rw [bs_size]; have := digs_len s.data.toList; rw [data_len] at this; omega) (by omega) (by omega) (fun c => by have := c.toNat_lt; unfold val10; omega) (fun c h => by have := good10_dig.1 h; unfold isDig at this; omega) dig_yes dig_no
  rw [bs_list] at N1
  have hwr := val_digs s.data.toList
  have HT := Lib.hid ht
  have hnd := par_nodig s.data.toList
  clear ht
  unfold numV at N1
  have hin : inI (numW 10 val10 0 (digs s.data.toList)) := numW_in _ _ _ _ (by unfold inI; omega)
  unfold inI at hin
  obtain ⟨hin1, hin2⟩ := hin
  generalize hD : digs s.data.toList = D at *
  clear hD
  have hwd : ∀ x : Int, wrap64 x = IntKind.i64.wrap x := fun x => by rw [IntKind.wrap_i64]; unfold wrap64; omega
  by_cases hg : D.all good10 = true
  · rw [if_pos hg, hg] at N1
    have N1 := Lib.hid N1
    clear hnd
    obtain ⟨hv, hE⟩ := par_end s _ rfl
    rw [hwr] at hv hE
    have HT1 := Lib.hid fun w (h : Tb w) => dtext_any _ hv w h
    clear hwr hg
    rcases Decidable.em (s.data.toList.head? = some 45) with hm | hm
    · rw [if_pos hm] at hE HT1
      rw [decide_eq_true hm] at C1
      have q1 := hwd (-(numW 10 val10 0 D))
      clear hm hwd hv
      generalize IntKind.i64.wrap (-(numW 10 val10 0 D)) = v at *
      generalize numW 10 val10 0 D = n0 at *
      rcases hE with ⟨he, h1, h2⟩ | ⟨he, h1, h2⟩
      · rw [he] at HT1
        have HX := Lib.hid (show Ending.returned (.tuple #[.int .i64 (parV s.data.toList), .int .i64 (parE s.data.toList)]) = Ending.returned (.tuple #[.int .i64 v, .int .i64 0]) by rw [h1, h2]; rfl)
        clear he h1 h2
        go_enter Tryd.func49, Tryd.ntmps49
        go_wp2_with fail
        refine (C1.out _).mono ?_; rintro e w1 ⟨rfl, rfl⟩
        go_wp2_with fail
        refine (N1.out _).mono ?_; rintro e w2 ⟨rfl, b2⟩
        have HB := Lib.hid b2
        have HT2 := Lib.hid (tb_below HT.out b2)
        clear b2
        go_wp2_with fail
        refine (HT1.out _ HT2.out).mono ?_; rintro e w3 ⟨rfl, b3⟩
        have HB3 := Lib.hid (HB.out.trans (b3.mono HB.out.size))
        clear b3
        go_wp2_with fail
        go_ret2
        exact ⟨HX.out.symm, HB3.out⟩
      · have HX := Lib.hid (show Ending.returned (.tuple #[.int .i64 (parV s.data.toList), .int .i64 (parE s.data.toList)]) = Ending.returned (.tuple #[.int .i64 0, .int .i64 2]) by rw [h1, h2]; rfl)
        have hne : ((bs (textL v)).toList == s.toList) = false := by
          rw [beq_eq_false_iff_ne]
          intro e
          rw [Lib.toList_data, Lib.toList_data] at e
          exact he (by rw [← bs_of (bs (textL v)), e, bs_of])
        clear he h1 h2
        generalize bs (textL v) = T at *
        go_enter Tryd.func49, Tryd.ntmps49
        go_wp2_with fail
        refine (C1.out _).mono ?_; rintro e w1 ⟨rfl, rfl⟩
        go_wp2_with fail
        refine (N1.out _).mono ?_; rintro e w2 ⟨rfl, b2⟩
        have HB := Lib.hid b2
        have HT2 := Lib.hid (tb_below HT.out b2)
        clear b2
        go_wp2_with fail
        refine (HT1.out _ HT2.out).mono ?_; rintro e w3 ⟨rfl, b3⟩
        have HB3 := Lib.hid (HB.out.trans (b3.mono HB.out.size))
        clear b3
        go_wp2_with fail
        go_ret2
        exact ⟨HX.out.symm, HB3.out⟩
    · rw [if_neg hm] at hE HT1
      rw [decide_eq_false hm] at C1
      clear hm hwd hv
      generalize numW 10 val10 0 D = v at *
      rcases hE with ⟨he, h1, h2⟩ | ⟨he, h1, h2⟩
      · rw [he] at HT1
        have HX := Lib.hid (show Ending.returned (.tuple #[.int .i64 (parV s.data.toList), .int .i64 (parE s.data.toList)]) = Ending.returned (.tuple #[.int .i64 v, .int .i64 0]) by rw [h1, h2]; rfl)
        clear he h1 h2
        go_enter Tryd.func49, Tryd.ntmps49
        go_wp2_with fail
        refine (C1.out _).mono ?_; rintro e w1 ⟨rfl, rfl⟩
        go_wp2_with fail
        refine (N1.out _).mono ?_; rintro e w2 ⟨rfl, b2⟩
        have HB := Lib.hid b2
        have HT2 := Lib.hid (tb_below HT.out b2)
        clear b2
        go_wp2_with fail
        refine (HT1.out _ HT2.out).mono ?_; rintro e w3 ⟨rfl, b3⟩
        have HB3 := Lib.hid (HB.out.trans (b3.mono HB.out.size))
        clear b3
        go_wp2_with fail
        go_ret2
        exact ⟨HX.out.symm, HB3.out⟩
      · have HX := Lib.hid (show Ending.returned (.tuple #[.int .i64 (parV s.data.toList), .int .i64 (parE s.data.toList)]) = Ending.returned (.tuple #[.int .i64 0, .int .i64 2]) by rw [h1, h2]; rfl)
        have hne : ((bs (textL v)).toList == s.toList) = false := by
          rw [beq_eq_false_iff_ne]
          intro e
          rw [Lib.toList_data, Lib.toList_data] at e
          exact he (by rw [← bs_of (bs (textL v)), e, bs_of])
        clear he h1 h2
        generalize bs (textL v) = T at *
        go_enter Tryd.func49, Tryd.ntmps49
        go_wp2_with fail
        refine (C1.out _).mono ?_; rintro e w1 ⟨rfl, rfl⟩
        go_wp2_with fail
        refine (N1.out _).mono ?_; rintro e w2 ⟨rfl, b2⟩
        have HB := Lib.hid b2
        have HT2 := Lib.hid (tb_below HT.out b2)
        clear b2
        go_wp2_with fail
        refine (HT1.out _ HT2.out).mono ?_; rintro e w3 ⟨rfl, b3⟩
        have HB3 := Lib.hid (HB.out.trans (b3.mono HB.out.size))
        clear b3
        go_wp2_with fail
        go_ret2
        exact ⟨HX.out.symm, HB3.out⟩
  · have hg2 : D.all good10 = false := by simpa using hg
    obtain ⟨h1, h2⟩ := hnd hg2
    rw [hg2] at N1
    simp only [Bool.false_eq_true, if_false] at N1
    have N1 := Lib.hid N1
    have HX := Lib.hid (show Ending.returned (.tuple #[.int .i64 (parV s.data.toList), .int .i64 (parE s.data.toList)]) = Ending.returned (.tuple #[.int .i64 0, .int .i64 2]) by rw [h1, h2]; rfl)
    clear hnd hg hg2 h1 h2 hwr hwd hin1 hin2
    rcases Decidable.em (s.data.toList.head? = some 45) with hm | hm
    · rw [decide_eq_true hm] at C1
      clear hm
      go_enter Tryd.func49, Tryd.ntmps49
      go_wp2_with fail
      refine (C1.out _).mono ?_; rintro e w1 ⟨rfl, rfl⟩
      go_wp2_with fail
      refine (N1.out _).mono ?_; rintro e w2 ⟨rfl, b2⟩
      have HB := Lib.hid b2
      clear b2
      go_wp2_with fail
      go_ret2
      exact ⟨HX.out.symm, HB.out⟩
    · rw [decide_eq_false hm] at C1
      clear hm
      go_enter Tryd.func49, Tryd.ntmps49
      go_wp2_with fail
      refine (C1.out _).mono ?_; rintro e w1 ⟨rfl, rfl⟩
      go_wp2_with fail
      refine (N1.out _).mono ?_; rintro e w2 ⟨rfl, b2⟩
      have HB := Lib.hid b2
      clear b2
      go_wp2_with fail
      go_ret2
      exact ⟨HX.out.symm, HB.out⟩
end Go.Proofs.YthpijibcfkcenaaDoor
