/- The law WordsBack of the repository answers true for every input. No conditions. -/
import Derived.Test.YtfbglehoopkfkaaWrdAwake
import Derived.Test.YtfbglehoopkfkaaRows
import Derived.WalkKit
import Derived.ProofKit
import Derived.OpenShut
import Derived.Below
import Derived.ShutString
import Derived.Carry
import Derived.Test.YtfbglehoopkfkaaArgs
namespace Go.Proofs.Ytfbglehoopkfkaa.wordsBack
open Go.ChangeShapes Go.WideShapes Go.ChangeAt Go.RowKit
open Go.ChangeMaps (open_string shut_string)
set_option linter.unusedVariables false
set_option linter.unusedSimpArgs false

theorem own : ownKnob Try.prog.godebug = none := by kernel_rfl
theorem laidOut : laidOutB Try.prog = true := by kernel_rfl
theorem op9 : Opens Try.prog 9 .str := opens_str Try.underlying9
theorem op26 : Opens Try.prog 26 (.slice .str) := opens_slice Try.underlying26 (by kernel_rfl) (by decide) op9

theorem allLen_le (l : List (List UInt8)) (m : Nat) (h : ∀ j (hj : j < l.length), l[j].length ≤ m) : allLen l ≤ m * l.length := by
  induction l with
  | nil => simp [allLen]
  | cons a l ih =>
    have h0 : a.length ≤ m := h 0 (by simp)
    have h1 := ih (fun j hj => h (j + 1) (by simpa using hj))
    have e : allLen (a :: l) = a.length + allLen l := by simp [allLen]
    rw [e, List.length_cons, Nat.mul_add]; omega
def lnB (c : UInt8) : Bool := (c.toNat : Int) != 10
def wcB (c : UInt8) : Bool := ((c.toNat : Int) != 32) && ((c.toNat : Int) != 9) && ((c.toNat : Int) != 35)
def lineB (l : List UInt8) : Bool := l.all lnB
def plainB (l : List UInt8) : Bool := (!l.isEmpty) && l.all wcB
theorem lnB_ok {l : List UInt8} (h : lineB l = true) : (10 : UInt8) ∉ l := fun hm => by
  have := List.all_eq_true.1 h 10 hm
  simp [lnB] at this
theorem plainB_ok {l : List UInt8} (h : plainB l = true) : l ≠ [] ∧ ∀ c ∈ l, wchar c := by
  simp only [plainB, Bool.and_eq_true, Bool.not_eq_true', List.isEmpty_eq_false_iff] at h
  refine ⟨h.1, fun c hc => ?_⟩
  have h1 := List.all_eq_true.1 h.2 c hc
  simp only [wcB, Bool.and_eq_true, bne_iff_ne, ne_eq] at h1
  obtain ⟨⟨h2, h3⟩, h4⟩ := h1
  exact ⟨fun e => h4 (by rw [e]; rfl), fun e => h2 (by rw [e]; rfl), fun e => h3 (by rw [e]; rfl)⟩
theorem all_next {α : Type} (p : α → Bool) (l : List α) (k : Nat) (h : k < l.length) (b : Bool) : (b && (l.take (k + 1)).all p) = ((b && (l.take k).all p) && p l[k]) := by
  rw [List.take_succ_eq_append_getElem h, List.all_append]
  simp [Bool.and_assoc]

set_option maxRecDepth 100000 in
set_option maxHeartbeats 4000000 in
theorem walk (a0 : Option Addr) (len0 cap0 : Nat) (w : World) (w0 : Has w (.slice .str) [.slice a0 len0 cap0]) :
    Calls Try.prog 5 #[.slice a0 len0 cap0] w fun e w' => e = .returned (.bool true) ∧ Below w.heap.size w w' := by
  obtain ⟨BL, hBL, hrd, hmx⟩ := rd_came w0
  subst hBL
  clear w0
  by_cases hg1 : 30 < BL.length
  · have d1 : decide ((30 : Int) < BL.length) = true := decide_eq_true (by omega)
    clear hrd hmx
    go_enter Try.func5, Try.ntmps5
    go_wp2_with (go_at_call 6; refine (words_awake _).mono ?_; rintro e w' ⟨rfl, hb⟩)
    go_ret
    exact ⟨rfl, by assumption⟩
  have d1 : decide ((30 : Int) < BL.length) = false := decide_eq_false (by omega)
  have H1 := Lib.hid fun k (hk : k < BL.length) => hrd.at_ (k := k) (by rw [strs_len]; exact hk)
  have HR := Lib.hid hrd
  have HMX := Lib.hid hmx
  clear hrd hmx
  go_enter Try.func5, Try.ntmps5
  go_wp2_with fail
  go_loop [3, 4, 5] (fun a b i => ∃ (k : Nat) (lv pv : Bool), k ≤ BL.length ∧ a = .bool lv ∧ b = .bool pv ∧ i = .int .i64 k ∧ lv = (BL.take k).all lineB ∧ pv = (BL.take k).all plainB ∧ ∀ j (hj : j < BL.length), j < k → BL[j].length ≤ 100) (fun _ _ i => BL.length - (intOf i).toNat)
  case atStart => exact ⟨0, true, true, Nat.zero_le _, rfl, rfl, rfl, rfl, rfl, fun j _ h => absurd h (by omega)⟩
  case round =>
    obtain ⟨k, lv, pv, hk, rfl, rfl, rfl, hlv, hpv, hall⟩ := hrel
    have HA := Lib.hid hall
    have HLV := Lib.hid hlv
    have HPV := Lib.hid hpv
    clear hall hlv hpv
    by_cases hlt : k < BL.length
    · obtain ⟨b, o, rfl, hb, hx⟩ := H1.out k hlt
      have g : w.cell? ⟨b, o + k, none⟩ = some (.string (bs BL[k])) := by
        rw [hx k (by rw [strs_len]; exact hlt), strs_get]
      have dk : decide (k < BL.length) = true := decide_eq_true hlt
      clear hx H1
      by_cases hc : 100 < BL[k].length
      · have dc : decide ((100 : Int) < ((bs BL[k]).size : Int)) = true := decide_eq_true (by rw [bs_size]; omega)
        have hz : (bs BL[k]).size ≤ maxLen := by rw [bs_size]; exact HMX.out _ (List.getElem_mem hlt)
        unfold maxLen at hz
        clear hc
        generalize bs BL[k] = T at *
        go_wp2_with (go_at_call 6; refine (words_awake _).mono ?_; rintro e w' ⟨rfl, hb⟩)
        go_ret
        exact ⟨rfl, by assumption⟩
      · have dc : decide ((100 : Int) < ((bs BL[k]).size : Int)) = false := decide_eq_false (by rw [bs_size]; omega)
        have hz : (bs BL[k]).size ≤ 100 := by rw [bs_size]; omega
        have HN := Lib.hid (show ∀ j (hj : j < BL.length), j < k + 1 → BL[j].length ≤ 100 from fun j hj h => by
          rcases Nat.lt_or_ge j k with h2 | h2
          · exact HA.out j hj h2
          · obtain rfl : j = k := by omega
            omega)
        have hE : ((bs BL[k]).toList == []) = BL[k].isEmpty := by rw [bs_toList]; cases BL[k] <;> rfl
        have hNL := all_next lineB BL k hlt true
        have hNP := all_next plainB BL k hlt true
        simp only [Bool.true_and] at hNL hNP
        rw [← HLV.out] at hNL
        rw [← HPV.out] at hNP
        have HNL := Lib.hid hNL
        have HNP := Lib.hid hNP
        have hdl : (bs BL[k]).data.toList = BL[k] := bs_list _
        have HDL := Lib.hid hdl
        clear hc hNL hNP hdl
        generalize hT : bs BL[k] = T at *
        generalize hTL : BL[k] = TL at *
        clear hT hTL
        have HF := Lib.hid (show ∀ l2 p2 pe : Bool, pe = (pv && !TL.isEmpty) → l2 = (lv && (TL.take T.size).all lnB) → p2 = (pe && (TL.take T.size).all wcB) → l2 = (BL.take (k + 1)).all lineB ∧ p2 = (BL.take (k + 1)).all plainB from fun l2 p2 pe h0 h1 h2 => by
          have hlen : T.size = TL.length := by rw [← data_len, HDL.out]
          rw [List.take_of_length_le (by omega)] at h1 h2
          refine ⟨by rw [h1, HNL.out]; rfl, by rw [h2, h0, HNP.out]; simp [plainB, Bool.and_assoc]⟩)
        have hie : ∃ ie : Bool, ie = TL.isEmpty := ⟨_, rfl⟩
        obtain ⟨ie, hie⟩ := hie
        rw [← hie] at hE HF
        have hE2 : ((T.toList) != []) = !ie := by show (!(T.toList == [])) = !ie; rw [hE]
        have HIE := Lib.hid hie
        clear hie HNL HNP
        have hcs : ∃ pe : Bool, pe = (pv && !ie) := ⟨_, rfl⟩
        obtain ⟨pe, hpe⟩ := hcs
        have HPE := Lib.hid hpe
        have HLEN := Lib.hid (show T.size = TL.length by rw [← data_len, HDL.out])
        have HEL := Lib.hid (show ∀ m (h : m < T.size), TL[m]'(by have := HLEN.out; omega) = T[m] from fun m h => by
          exact (List.getElem_of_eq HDL.out.symm _).trans (wget T m h))
        have h3 : (pv = false ∧ pe = false) ∨ (pv = true ∧ ie = true ∧ pe = false) ∨ (pv = true ∧ ie = false ∧ pe = true) := by
          subst hpe
          cases pv <;> cases ie <;> simp
        clear hpe HDL
        rcases h3 with ⟨rfl, hp⟩ | ⟨rfl, rfl, hp⟩ | ⟨rfl, rfl, hp⟩
        all_goals
          have HP := Lib.hid hp
          clear hp
          try simp only [Bool.not_true, Bool.not_false] at hE2
          go_wp2_with fail
          go_loop [3, 4, 6] (fun a b i => ∃ (m : Nat) (l2 p2 : Bool), m ≤ T.size ∧ a = .bool l2 ∧ b = .bool p2 ∧ i = .int .i64 m ∧ l2 = (lv && (TL.take m).all lnB) ∧ p2 = (pe && (TL.take m).all wcB)) (fun _ _ i => T.size - (intOf i).toNat)
          case atStart => exact ⟨0, lv, _, Nat.zero_le _, rfl, rfl, rfl, by simp, by rw [HP.out]; rfl⟩
          case round =>
            obtain ⟨m, l2, p2, hm, rfl, rfl, rfl, hl2, hp2⟩ := hrel
            have HL2 := Lib.hid hl2
            have HP2 := Lib.hid hp2
            clear hl2 hp2
            by_cases hml : m < T.size
            · have dm : decide (m < T.size) = true := decide_eq_true hml
              have hel := HEL.out m hml
              have hn1 := all_next lnB TL m (by have := HLEN.out; omega) lv
              have hn2 := all_next wcB TL m (by have := HLEN.out; omega) pe
              rw [← HL2.out, hel] at hn1
              rw [← HP2.out, hel] at hn2
              have HN1 := Lib.hid (show (lv && (TL.take (m + 1)).all lnB) = (l2 && (((T[m]'hml).toNat : Int) != 10)) from hn1)
              have HN2 := Lib.hid (show (pe && (TL.take (m + 1)).all wcB) = (p2 && ((((T[m]'hml).toNat : Int) != 32) && (((T[m]'hml).toNat : Int) != 9) && (((T[m]'hml).toNat : Int) != 35))) from hn2)
              have hu := (T[m]'hml).toNat_lt
              clear hn1 hn2 hel
              have hcs : ((((T[m]'hml).toNat : Int) == 32) = true ∧ (((T[m]'hml).toNat : Int) != 32) = false) ∨ ((((T[m]'hml).toNat : Int) == 32) = false ∧ (((T[m]'hml).toNat : Int) != 32) = true ∧ (((T[m]'hml).toNat : Int) == 9) = true ∧ (((T[m]'hml).toNat : Int) != 9) = false) ∨ ((((T[m]'hml).toNat : Int) == 32) = false ∧ (((T[m]'hml).toNat : Int) != 32) = true ∧ (((T[m]'hml).toNat : Int) == 9) = false ∧ (((T[m]'hml).toNat : Int) != 9) = true) := by
                by_cases h1 : (T[m]'hml).toNat = 32
                · rw [h1]; exact Or.inl ⟨rfl, rfl⟩
                · by_cases h2 : (T[m]'hml).toNat = 9
                  · rw [h2]; exact Or.inr (Or.inl ⟨rfl, rfl, rfl, rfl⟩)
                  · refine Or.inr (Or.inr ⟨beq_false_of_ne (by omega), ?_, beq_false_of_ne (by omega), ?_⟩)
                    · simp; omega
                    · simp; omega
              have hl3 : l2 = false ∨ l2 = true := by cases l2 <;> simp
              have hp3 : p2 = false ∨ p2 = true := by cases p2 <;> simp
              rcases hcs with ⟨c1, c2⟩ | ⟨c1, c2, c3, c4⟩ | ⟨c1, c2, c3, c4⟩
              all_goals rcases hl3 with rfl | rfl
              all_goals rcases hp3 with rfl | rfl
              all_goals
                go_wp2_with fail
                go_round
                case rel =>
                  refine ⟨m + 1, _, _, by omega, rfl, rfl, by go_num, ?_, ?_⟩
                  · rw [HN1.out]; simp
                  · rw [HN2.out]; simp [*]
                case measure => simp [intOf]; omega
            · obtain rfl : m = T.size := by omega
              have dm : decide (T.size < T.size) = false := decide_eq_false hml
              obtain ⟨hf1, hf2⟩ := HF.out l2 p2 pe HPE.out HL2.out HP2.out
              have HF1 := Lib.hid hf1
              have HF2 := Lib.hid hf2
              clear hf1 hf2
              go_wp2_with fail
              go_round
              case rel => exact ⟨k + 1, l2, p2, by omega, rfl, rfl, by go_num, HF1.out, HF2.out, HN.out⟩
              case measure => simp [intOf]; omega
    · obtain rfl : k = BL.length := by omega
      have dk : decide (BL.length < BL.length) = false := decide_eq_false hlt
      have hal := allLen_le BL 100 (fun j hj => HA.out j hj hj)
      have hlv := HLV.out
      have hpv := HPV.out
      rw [List.take_length] at hlv hpv
      have hjl := joinW_len BL BL.length (Nat.le_refl _)
      have htl := textW_len BL BL.length (Nat.le_refl _)
      rw [List.take_length] at hjl htl
      have J1 := Lib.hid fun w h => wjoin_any (.slice a0 BL.length cap0) BL w (by omega) (by omega) h
      have T1 := Lib.hid fun w h => wtext_any (.slice a0 BL.length cap0) BL w (by omega) (by omega) h
      have hL1 : lv = true → ∀ w, Calls Try.prog 10 #[.string (bs (textW BL))] w fun e w' => ∃ v, e = .returned v ∧ Rd w' w'.heap.size v (strs BL) ∧ Below w.heap.size w w' := fun h w => by
        have := wlines_any (bs (textW BL)) w (by rw [bs_size]; omega)
        unfold StrsR at this
        rw [bs_list, lines_back BL (fun p hp => lnB_ok (List.all_eq_true.1 (hlv ▸ h) p hp))] at this
        exact this
      have hW1 : pv = true → ∀ w, Calls Try.prog 12 #[.string (bs ([9] ++ joinW BL ++ [32, 35, 32, 120]))] w fun e w' => ∃ v, e = .returned v ∧ Rd w' w'.heap.size v (strs BL) ∧ Below w.heap.size w w' := fun h w => by
        have := wwords_any (bs ([9] ++ joinW BL ++ [32, 35, 32, 120])) w (by rw [bs_size]; simp; omega)
        unfold StrsR at this
        rw [bs_list, words_back BL (fun p hp => plainB_ok (List.all_eq_true.1 (hpv ▸ h) p hp))] at this
        exact this
      have HAP := Lib.hid (show ByteArray.mk #[9] ++ bs (joinW BL) ++ ByteArray.mk #[32, 35, 32, 120] = bs ([9] ++ joinW BL ++ [32, 35, 32, 120]) by rw [show ByteArray.mk #[9] = bs [9] from rfl, show ByteArray.mk #[32, 35, 32, 120] = bs [32, 35, 32, 120] from rfl, bs_append, bs_append])
      have hz1 : (bs (joinW BL)).size ≤ 10000 := by rw [bs_size]; omega
      have hz2 : (ByteArray.mk #[9] ++ bs (joinW BL)).size ≤ 10001 := by rw [ByteArray.size_append]; show 1 + _ ≤ _; omega
      clear hal hlv hpv hjl htl HLV HPV H1
      generalize bs ([9] ++ joinW BL ++ [32, 35, 32, 120]) = JX at *
      generalize bs (textW BL) = TX at *
      generalize bs (joinW BL) = JJ at *
      have hl3 : lv = false ∨ lv = true := by cases lv <;> simp
      have hp3 : pv = false ∨ pv = true := by cases pv <;> simp
      rcases hl3 with hl | hl
      all_goals rcases hp3 with hp | hp
      · clear hL1
        clear hW1
        subst hl
        subst hp
        go_wp2_with fail
        refine (words_awake _).mono ?_; rintro e x9 ⟨rfl, b9⟩
        have HB9 := Lib.hid b9
        clear b9
        go_wp2_with fail
        go_ret
        exact ⟨rfl, HB9.out⟩
      · clear hL1
        have W1 := Lib.hid (hW1 hp)
        clear hW1
        subst hl
        subst hp
        go_wp2_with fail
        refine (J1.out _ HR.out).mono ?_; rintro e x4 ⟨rfl, b4⟩
        have HB4 := Lib.hid b4
        have HR4 := Lib.hid ((HR.out.below b4).more b4.size)
        clear b4
        go_wp2_with fail
        rw [HAP.out]
        go_wp2_with fail
        refine (W1.out _).mono ?_; rintro e x5 ⟨v5, rfl, r5, b5⟩
        have HB5 := Lib.hid (HB4.out.trans (b5.mono HB4.out.size))
        have HR5 := Lib.hid ((HR4.out.below b5).more b5.size)
        have SM := Lib.hid (sames v5 _ BL _ x5 (by omega) r5 HR5.out)
        clear b5 r5
        go_wp2_with fail
        refine SM.out.mono ?_; rintro e x6 ⟨rfl, b6⟩
        have HB6 := Lib.hid (HB5.out.trans (b6.mono HB5.out.size))
        clear b6 SM
        go_wp2_with fail
        refine (words_awake _).mono ?_; rintro e x9 ⟨rfl, b9⟩
        have HB9 := Lib.hid (HB6.out.trans (b9.mono HB6.out.size))
        clear b9
        go_wp2_with fail
        go_ret
        exact ⟨rfl, HB9.out⟩
      · have L1 := Lib.hid (hL1 hl)
        clear hW1
        clear hL1
        subst hl
        subst hp
        go_wp2_with fail
        refine (T1.out _ HR.out).mono ?_; rintro e x1 ⟨rfl, b1⟩
        have HB1 := Lib.hid b1
        have HR1 := Lib.hid ((HR.out.below b1).more b1.size)
        clear b1
        go_wp2_with fail
        refine (L1.out _).mono ?_; rintro e x2 ⟨v2, rfl, r2, b2⟩
        have HB2 := Lib.hid (HB1.out.trans (b2.mono HB1.out.size))
        have HR2 := Lib.hid ((HR1.out.below b2).more b2.size)
        have SM := Lib.hid (sames v2 _ BL _ x2 (by omega) r2 HR2.out)
        clear b2 r2
        go_wp2_with fail
        refine SM.out.mono ?_; rintro e x3 ⟨rfl, b3⟩
        have HB3 := Lib.hid (HB2.out.trans (b3.mono HB2.out.size))
        have HR3 := Lib.hid ((HR2.out.below b3).more b3.size)
        clear b3 SM
        go_wp2_with fail
        refine (words_awake _).mono ?_; rintro e x9 ⟨rfl, b9⟩
        have HB9 := Lib.hid (HB3.out.trans (b9.mono HB3.out.size))
        clear b9
        go_wp2_with fail
        go_ret
        exact ⟨rfl, HB9.out⟩
      · have L1 := Lib.hid (hL1 hl)
        have W1 := Lib.hid (hW1 hp)
        clear hL1
        clear hW1
        subst hl
        subst hp
        go_wp2_with fail
        refine (T1.out _ HR.out).mono ?_; rintro e x1 ⟨rfl, b1⟩
        have HB1 := Lib.hid b1
        have HR1 := Lib.hid ((HR.out.below b1).more b1.size)
        clear b1
        go_wp2_with fail
        refine (L1.out _).mono ?_; rintro e x2 ⟨v2, rfl, r2, b2⟩
        have HB2 := Lib.hid (HB1.out.trans (b2.mono HB1.out.size))
        have HR2 := Lib.hid ((HR1.out.below b2).more b2.size)
        have SM := Lib.hid (sames v2 _ BL _ x2 (by omega) r2 HR2.out)
        clear b2 r2
        go_wp2_with fail
        refine SM.out.mono ?_; rintro e x3 ⟨rfl, b3⟩
        have HB3 := Lib.hid (HB2.out.trans (b3.mono HB2.out.size))
        have HR3 := Lib.hid ((HR2.out.below b3).more b3.size)
        clear b3 SM
        go_wp2_with fail
        refine (J1.out _ HR3.out).mono ?_; rintro e x4 ⟨rfl, b4⟩
        have HB4 := Lib.hid (HB3.out.trans (b4.mono HB3.out.size))
        have HR4 := Lib.hid ((HR3.out.below b4).more b4.size)
        clear b4
        go_wp2_with fail
        rw [HAP.out]
        go_wp2_with fail
        refine (W1.out _).mono ?_; rintro e x5 ⟨v5, rfl, r5, b5⟩
        have HB5 := Lib.hid (HB4.out.trans (b5.mono HB4.out.size))
        have HR5 := Lib.hid ((HR4.out.below b5).more b5.size)
        have SM := Lib.hid (sames v5 _ BL _ x5 (by omega) r5 HR5.out)
        clear b5 r5
        go_wp2_with fail
        refine SM.out.mono ?_; rintro e x6 ⟨rfl, b6⟩
        have HB6 := Lib.hid (HB5.out.trans (b6.mono HB5.out.size))
        clear b6 SM
        go_wp2_with fail
        refine (words_awake _).mono ?_; rintro e x9 ⟨rfl, b9⟩
        have HB9 := Lib.hid (HB6.out.trans (b9.mono HB6.out.size))
        clear b9
        go_wp2_with fail
        go_ret
        exact ⟨rfl, HB9.out⟩

set_option maxRecDepth 100000 in
theorem lifted (os : Os) (started : os.Started) (H : Type) (enc : TypeId × Value → H) :
    ReturnsInHanded {} Try.checked os 5 .any (Rows.wordsBackSpec.pre6 enc Try.prog Try.f5 Rows.wordsBackRow.domain false) (Rows.wordsBackSpec.post enc Try.prog Try.f5 false true false false) := by
  refine returnsInHanded_of_change (C := Try.checked) own started (by kernel_rfl) Try.func5
    (ChangeSpec.witness6 (enc := enc) (C := Try.checked) false ⟨#[], #[.slice none 0 0], []⟩ 8 (by kernel_rfl) (by kernel_rfl) (by kernel_rfl) (by kernel_rfl)) ?_
  intro W base args ds gs before hval0 hW hcnd _
  have hval : ∀ (j : Nat) t v, Try.f5.params[j]? = some t → args[j]? = some v → Value.okWide Try.prog W .any base t v := hval0
  have hW' := hW
  obtain ⟨p, q, hA0, hV, rfl, hfz, hnd⟩ := hW
  have hA : DataW.TrodAll enc Try.prog W 0 (fun _ => true) true Try.f5.params.toList args.toList ds p := hA0
  rw [Try.params5] at hA hval
  obtain ⟨v0, vs0, d0, ds0, p0, q0, hargs, rfl, rfl, h0, r0⟩ := trodAll_cons hA
  obtain ⟨rfl, rfl, rfl⟩ := trodAll_nil r0
  obtain rfl : args = #[v0] := by cases args; simp_all
  obtain ⟨rfl, rfl⟩ := trodVars_none hV
  obtain ⟨a0, len0, cap0, rfl⟩ := okWide_slice Try.underlying26 (hval 0 26 v0 rfl rfl)
  have k0 := h0
  have lt0 : ∀ x ∈ p0, x.block < W.heap.size := by obtain ⟨m, hm⟩ := k0; exact DataW.trod_lt m _ _ _ hm
  have w0 : Has W (.slice .str) [.slice a0 len0 cap0] := by obtain ⟨m, hm⟩ := h0; exact op26 _ _ _ _ _ _ _ _ _ hm
  clear hA0 hval0
  refine (walk a0 len0 cap0 W w0).mono fun e W' ⟨he, bel⟩ => ?_
  subst he
  exact ⟨_, rfl, _, _, _, [], _, [], hW', trodAll_mk1 (shut_bool Try.underlying4 _), (trodAll_cons_mk (Below.trod laidOut (by kernel_rfl) (of_decide_eq_true (by kernel_rfl)) k0 bel lt0) trodAll_mk0), rfl, bel.frame _, fun h => by cases h⟩

theorem over : Rows.wordsBackRow.holds Try.pinned (OpenSpec.ofChange Rows.wordsBackSpec) :=
  OpenClaim.holds_of_wide 5 Try.f5 rfl rfl rfl rfl rfl rfl rfl ⟨rfl, rfl, rfl, rfl, rfl⟩ rfl rfl rfl rfl rfl (by kernel_rfl) Try.func5 (by kernel_rfl)
    (of_decide_eq_true (by kernel_rfl)) (by unfold Func.isWrapper; first | (rw [if_pos (by decide +kernel)]; kernel_rfl) | (rw [if_neg (by decide +kernel)]; exact ⟨rfl, rfl⟩))
    (fun os started H enc _ => lifted os started H enc)

/-- ████ THE STATEMENT ████ -/
theorem proved : Rows.WordsBackSaid := over
end Go.Proofs.Ytfbglehoopkfkaa.wordsBack
