/- The law RowBack of the repository answers true for every input. No conditions. -/
import Derived.Test.YtlmijhladbinjaaDoorRowAwake
import Derived.Test.YtlmijhladbinjaaDoorDecArgs
import Derived.Test.YtlmijhladbinjaaDoorRows
import Derived.Test.YtlmijhladbinjaaDoorCards
import Derived.Test.YtlmijhladbinjaaDoorTie
import Derived.SevenTiedAt
import Derived.LaidMore
import Derived.Stop.LaidErr
import Derived.Stop.Joined
import Derived.MakeChecks
import Derived.Lib.LaidTab
import Derived.WalkKit
import Derived.ProofKit
import Derived.OpenShut
import Derived.Below
import Derived.ShutString
import Derived.Carry
import Derived.Test.YtlmijhladbinjaaDoorArgs
namespace Go.Proofs.YtlmijhladbinjaaDoor.rowBack
open Go.ChangeShapes Go.WideShapes Go.ChangeAt Go.RowKit
open Go.ChangeMaps (open_string shut_string)
set_option linter.unusedVariables false
set_option linter.unusedSimpArgs false

theorem own : ownKnob Tryd.prog.godebug = none := by kernel_rfl
theorem laidOut : laidOutB Tryd.prog = true := by kernel_rfl
theorem op9 : Opens Tryd.prog 9 .str := opens_str Tryd.underlying9
theorem op23 : Opens Tryd.prog 23 (.slice .str) := opens_slice Tryd.underlying23 (by kernel_rfl) (by decide) op9
theorem op3 : Opens Tryd.prog 3 (.int .i64) := opens_int Tryd.underlying3
theorem op24 : Opens Tryd.prog 24 (.slice (.int .i64)) := opens_slice Tryd.underlying24 (by kernel_rfl) (by decide) op3

theorem allLen_few (l : List (List UInt8)) (h : fewB l = true) : l.length ≤ 16 ∧ allLen l ≤ 60 * l.length ∧ ∀ a ∈ l, a.length ≤ 60 := by
  unfold fewB at h
  rw [Bool.and_eq_true] at h
  have h1 : ∀ a ∈ l, a.length ≤ 60 := fun a ha => by simpa using List.all_eq_true.1 h.1 a ha
  refine ⟨by simpa using h.2, ?_, h1⟩
  clear h
  induction l with
  | nil => simp [allLen]
  | cons a l ih =>
    have h0 := h1 a (by simp)
    have h2 := ih (fun b hb => h1 b (by simp [hb]))
    have e : allLen (a :: l) = a.length + allLen l := by simp [allLen]
    rw [e, List.length_cons, Nat.mul_add]; omega
theorem rowL_len (x : List UInt8) (ks : List (List UInt8)) (ns : List Int) (hi : ∀ n ∈ ns, inI n) : (rowL x ks ns).length ≤ x.length + allLen ks + 22 * ks.length + 1 := by
  have h1 := joinW_len (rowParts x ks ns) (rowParts x ks ns).length (Nat.le_refl _)
  rw [List.take_length] at h1
  have h2 := allLen_parts x ks ns hi
  have h3 : (rowParts x ks ns).length ≤ ks.length + 1 := by unfold rowParts; simp; omega
  unfold rowL; omega
theorem wch (c : UInt8) (h1 : ¬ c.toNat = 32) (h2 : ¬ c.toNat = 9) (h3 : ¬ c.toNat = 35) : wchar c := ⟨fun e => h3 (by rw [e]; rfl), fun e => h1 (by rw [e]; rfl), fun e => h2 (by rw [e]; rfl)⟩
theorem take_wch (s : ByteArray) (k : Nat) (hk : k < s.size) (h : ∀ c ∈ s.data.toList.take k, wchar c) (hc : wchar (s[k]'hk)) : ∀ c ∈ s.data.toList.take (k + 1), wchar c := by
  intro c hm
  rw [List.take_succ_eq_append_getElem (by rw [data_len]; exact hk)] at hm
  rcases List.mem_append.1 hm with hm | hm
  · exact h c hm
  · obtain rfl : c = s.data.toList[k]'(by rw [data_len]; exact hk) := by simpa using hm
    rw [wget s k hk]; exact hc

theorem door_met (os : Os) (args : Array Value) : laidMetH Tryd.prog Rows.rowBackRow.laid ((World.doorLaid Tryd.prog 24 os).forCall (fun _ _ => 0) ⟨#[], args, []⟩).memory :=
  laidMetH_of_parts3 (fuel := 8) (laidMet_of_run' 8 (by kernel_rfl) (by kernel_rfl)) (by kernel_rfl) (by kernel_rfl)
theorem tb_of_laid {W : World} (h0 : laidMetH Tryd.prog Rows.rowBackRow.laid W) : Tb W := by
  rw [MakeChecks.laidMetH_plain _ _ _ (by kernel_rfl)] at h0
  have h : laidMet Tryd.prog [("math/bits.deBruijn32tab", Rows.laid_math_bits_deBruijn32tab), ("math/bits.deBruijn64tab", Rows.laid_math_bits_deBruijn64tab), ("internal/strconv.uint64pow10", Rows.laid_internal_strconv_uint64pow10)] W := h0
  have e : (Rows.laid_internal_strconv_uint64pow10 : DataW Unit) = Lib.tabData .u64 Lib.pow10Tab := by kernel_rfl
  have h2 := h.tail.tail
  rw [e] at h2
  exact Lib.tabIs_of_head (g := 0) (t := 77) (e := 67) (n := 20) (by kernel_rfl) (by kernel_rfl) (by kernel_rfl) (by kernel_rfl) (by kernel_rfl) (by kernel_rfl) h2

set_option maxRecDepth 100000 in
set_option maxHeartbeats 4000000 in
theorem walk (a0 : ByteArray) (a1 : Option Addr) (len1 cap1 : Nat) (a2 : Option Addr) (len2 cap2 : Nat) (w : World) (w0 : a0.size ≤ maxLen) (w1 : Has w (.slice .str) [.slice a1 len1 cap1]) (w2 : Has w (.slice (.int .i64)) [.slice a2 len2 cap2]) (ht : Tb w) :
    Calls Tryd.prog 4 #[.string a0, .slice a1 len1 cap1, .slice a2 len2 cap2] w fun e w' => e = .returned (.bool true) ∧ Below w.heap.size w w' := by
  have HT := Lib.hid ht
  clear ht
  obtain ⟨ks, hks, hrd, hmx⟩ := rd_came w1
  obtain ⟨ns, hns, hrn, hin⟩ := rd_ints w2
  subst hks
  subst hns
  clear w1 w2
  have hsz2 : ns.length ≤ maxLen := by
    obtain ⟨A, c, h1, h2, h3⟩ := hrn.form
    rw [ints_len] at h2; omega
  unfold maxLen at w0 hsz2
  have HR := Lib.hid hrd
  have HN := Lib.hid hrn
  have HI := Lib.hid hin
  have HMX := Lib.hid hmx
  have FW := Lib.hid (few_any (.slice a1 ks.length cap1) ks w hmx hrd)
  clear hrd hrn hin hmx
  by_cases hg1 : 60 < a0.size
  · have d1 : decide ((60 : Int) < a0.size) = true := decide_eq_true (by omega)
    go_enter Tryd.func4, Tryd.ntmps4
    go_wp2_with (go_at_call 6; refine (row_awake _ HT.out).mono ?_; rintro e w' ⟨rfl, hb⟩)
    go_ret
    exact ⟨rfl, by assumption⟩
  have d1 : decide ((60 : Int) < a0.size) = false := decide_eq_false (by omega)
  by_cases hg3 : fewB ks = true
  case neg =>
    have hf : fewB ks = false := by simpa using hg3
    rw [hf] at FW
    clear hg3 hf
    go_enter Tryd.func4, Tryd.ntmps4
    go_wp2_with fail
    refine FW.out.mono ?_; rintro e x1 ⟨rfl, rfl⟩
    go_wp2_with (go_at_call 6; refine (row_awake _ HT.out).mono ?_; rintro e w' ⟨rfl, hb⟩)
    go_ret
    exact ⟨rfl, by assumption⟩
  obtain ⟨hk, hal, hks⟩ := allLen_few ks hg3
  rw [hg3] at FW
  clear hg3
  by_cases hg4 : ns.length < ks.length
  · have d4 : decide (ns.length < ks.length) = true := decide_eq_true (by omega)
    clear hks
    go_enter Tryd.func4, Tryd.ntmps4
    go_wp2_with fail
    refine FW.out.mono ?_; rintro e x1 ⟨rfl, rfl⟩
    go_wp2_with (go_at_call 6; refine (row_awake _ HT.out).mono ?_; rintro e w' ⟨rfl, hb⟩)
    go_ret
    exact ⟨rfl, by assumption⟩
  have d4 : decide (ns.length < ks.length) = false := decide_eq_false (by omega)
  have H1 := Lib.hid fun k (hk : k < ks.length) => HR.out.at_ (k := k) (by rw [strs_len]; exact hk)
  have HKS := Lib.hid hks
  clear hks
  go_enter Tryd.func4, Tryd.ntmps4
  go_wp2_with fail
  refine FW.out.mono ?_; rintro e x1 ⟨rfl, rfl⟩
  go_wp2_with fail
  go_loop [7] (fun i => i = .int .i64 (-1) ∨ ∃ j : Nat, i = .int .i64 j ∧ j ≤ ks.length ∧ (∀ c ∈ a0.data.toList, wchar c) ∧ ∀ q (hq : q < ks.length), q < j → ∀ c ∈ ks[q], wchar c) (fun i => ks.length + 1 - (intOf i + 1).toNat)
  case atStart => exact Or.inl rfl
  case round =>
    rcases hrel with rfl | ⟨j, rfl, hj, hwx, hwk⟩
    · have dm : decide ((-1 : Int) < (ks.length : Int)) = true := decide_eq_true (by omega)
      go_wp2_with fail
      go_loop [9] (fun i => ∃ m : Nat, m ≤ a0.size ∧ i = .int .i64 m ∧ ∀ c ∈ a0.data.toList.take m, wchar c) (fun i => a0.size - (intOf i).toNat)
      case atStart => exact ⟨0, Nat.zero_le _, rfl, fun c hc => by rw [List.take_zero] at hc; cases hc⟩
      case round =>
        obtain ⟨m, hm, rfl, hw⟩ := hrel
        have HW := Lib.hid hw
        clear hw
        by_cases hml : m < a0.size
        · have dml : decide (m < a0.size) = true := decide_eq_true hml
          have hu := (a0[m]'hml).toNat_lt
          by_cases h1 : (a0[m]'hml).toNat = 32
          · have e1 : (((a0[m]'hml).toNat : Int) == 32) = true := by rw [h1]; rfl
            clear h1
            go_wp2_with (go_at_call 6; refine (row_awake _ HT.out).mono ?_; rintro e w' ⟨rfl, hb⟩)
            go_ret
            exact ⟨rfl, by assumption⟩
          have e1 : (((a0[m]'hml).toNat : Int) == 32) = false := beq_false_of_ne (by omega)
          by_cases h2 : (a0[m]'hml).toNat = 9
          · have e2 : (((a0[m]'hml).toNat : Int) == 9) = true := by rw [h2]; rfl
            clear h1 h2
            go_wp2_with (go_at_call 6; refine (row_awake _ HT.out).mono ?_; rintro e w' ⟨rfl, hb⟩)
            go_ret
            exact ⟨rfl, by assumption⟩
          have e2 : (((a0[m]'hml).toNat : Int) == 9) = false := beq_false_of_ne (by omega)
          by_cases h3 : (a0[m]'hml).toNat = 35
          · have e3 : (((a0[m]'hml).toNat : Int) == 35) = true := by rw [h3]; rfl
            clear h1 h2 h3
            go_wp2_with (go_at_call 6; refine (row_awake _ HT.out).mono ?_; rintro e w' ⟨rfl, hb⟩)
            go_ret
            exact ⟨rfl, by assumption⟩
          have e3 : (((a0[m]'hml).toNat : Int) == 35) = false := beq_false_of_ne (by omega)
          have HNX := Lib.hid (take_wch a0 m hml HW.out (wch _ h1 h2 h3))
          clear h1 h2 h3
          go_wp2_with fail
          go_round
          case rel => exact ⟨m + 1, by omega, by go_num, HNX.out⟩
          case measure => first | (simp [intOf]; done) | (simp [intOf]; omega)
        · obtain rfl : m = a0.size := by omega
          have dml : decide (a0.size < a0.size) = false := decide_eq_false hml
          have HWA := Lib.hid (show ∀ c ∈ a0.data.toList, wchar c from fun c hc => HW.out c (by rw [List.take_of_length_le (by rw [data_len]; exact Nat.le_refl _)]; exact hc))
          go_wp2_with fail
          go_round
          case rel => exact Or.inr ⟨0, rfl, Nat.zero_le _, HWA.out, fun q hq h => absurd h (by omega)⟩
          case measure => first | (simp [intOf]; done) | (simp [intOf]; omega)
    · have HWX := Lib.hid hwx
      have HWK := Lib.hid hwk
      clear hwx hwk
      by_cases hjl : j < ks.length
      · obtain ⟨b, o, rfl, hb, hx⟩ := H1.out j hjl
        have g : w.cell? ⟨b, o + j, none⟩ = some (.string (bs ks[j])) := by
          rw [hx j (by rw [strs_len]; exact hjl), strs_get]
        have dm : decide (j < ks.length) = true := decide_eq_true hjl
        have dj0 : decide ((0 : Int) ≤ (j : Int)) = true := decide_eq_true (by omega)
        have hz : (bs ks[j]).size ≤ 60 := by rw [bs_size]; exact HKS.out _ (List.getElem_mem hjl)
        have HTL := Lib.hid (show (bs ks[j]).data.toList = ks[j] from bs_list _)
        have HNK := Lib.hid (show (∀ c ∈ (bs ks[j]).data.toList, wchar c) → ∀ q (hq : q < ks.length), q < j + 1 → ∀ c ∈ ks[q], wchar c from fun h q hq hlt c hc => by
          rcases Nat.lt_or_ge q j with h2 | h2
          · exact HWK.out q hq h2 c hc
          · obtain rfl : q = j := by omega
            exact h c (by rw [bs_list]; exact hc))
        clear hx
        generalize bs ks[j] = T at *
        go_wp2_with fail
        go_loop [9] (fun i => ∃ m : Nat, m ≤ T.size ∧ i = .int .i64 m ∧ ∀ c ∈ T.data.toList.take m, wchar c) (fun i => T.size - (intOf i).toNat)
        case atStart => exact ⟨0, Nat.zero_le _, rfl, fun c hc => by rw [List.take_zero] at hc; cases hc⟩
        case round =>
          obtain ⟨m, hm, rfl, hw⟩ := hrel
          have HW := Lib.hid hw
          clear hw
          by_cases hml : m < T.size
          · have dml : decide (m < T.size) = true := decide_eq_true hml
            have hu := (T[m]'hml).toNat_lt
            by_cases h1 : (T[m]'hml).toNat = 32
            · have e1 : (((T[m]'hml).toNat : Int) == 32) = true := by rw [h1]; rfl
              clear h1
              go_wp2_with (go_at_call 6; refine (row_awake _ HT.out).mono ?_; rintro e w' ⟨rfl, hb⟩)
              go_ret
              exact ⟨rfl, by assumption⟩
            have e1 : (((T[m]'hml).toNat : Int) == 32) = false := beq_false_of_ne (by omega)
            by_cases h2 : (T[m]'hml).toNat = 9
            · have e2 : (((T[m]'hml).toNat : Int) == 9) = true := by rw [h2]; rfl
              clear h1 h2
              go_wp2_with (go_at_call 6; refine (row_awake _ HT.out).mono ?_; rintro e w' ⟨rfl, hb⟩)
              go_ret
              exact ⟨rfl, by assumption⟩
            have e2 : (((T[m]'hml).toNat : Int) == 9) = false := beq_false_of_ne (by omega)
            by_cases h3 : (T[m]'hml).toNat = 35
            · have e3 : (((T[m]'hml).toNat : Int) == 35) = true := by rw [h3]; rfl
              clear h1 h2 h3
              go_wp2_with (go_at_call 6; refine (row_awake _ HT.out).mono ?_; rintro e w' ⟨rfl, hb⟩)
              go_ret
              exact ⟨rfl, by assumption⟩
            have e3 : (((T[m]'hml).toNat : Int) == 35) = false := beq_false_of_ne (by omega)
            by_cases h4 : (T[m]'hml).toNat = 61
            · have e4 : (((T[m]'hml).toNat : Int) == 61) = true := by rw [h4]; rfl
              clear h1 h2 h3 h4
              go_wp2_with (go_at_call 6; refine (row_awake _ HT.out).mono ?_; rintro e w' ⟨rfl, hb⟩)
              go_ret
              exact ⟨rfl, by assumption⟩
            have e4 : (((T[m]'hml).toNat : Int) == 61) = false := beq_false_of_ne (by omega)
            have HNX := Lib.hid (take_wch T m hml HW.out (wch _ h1 h2 h3))
            clear h1 h2 h3 h4
            go_wp2_with fail
            go_round
            case rel => exact ⟨m + 1, by omega, by go_num, HNX.out⟩
            case measure => first | (simp [intOf]; done) | (simp [intOf]; omega)
          · obtain rfl : m = T.size := by omega
            have dml : decide (T.size < T.size) = false := decide_eq_false hml
            have HWA := Lib.hid (show ∀ c ∈ T.data.toList, wchar c from fun c hc => HW.out c (by rw [List.take_of_length_le (by rw [data_len]; exact Nat.le_refl _)]; exact hc))
            go_wp2_with fail
            go_round
            case rel => exact Or.inr ⟨j + 1, by go_num, by omega, HWX.out, HNK.out HWA.out⟩
            case measure => first | (simp [intOf]; done) | (simp [intOf]; omega)
      · obtain rfl : j = ks.length := by omega
        have dm : decide (ks.length < ks.length) = false := decide_eq_false hjl
        by_cases hx0 : a0.size = 0
        · have de : (a0.toList == ([] : List UInt8)) = true := by
            have : a0.toList = [] := by rw [Lib.toList_data]; exact List.eq_nil_of_length_eq_zero (by rw [data_len]; exact hx0)
            rw [this]; rfl
          clear hx0
          go_wp2_with (go_at_call 6; refine (row_awake _ HT.out).mono ?_; rintro e w' ⟨rfl, hb⟩)
          go_ret
          exact ⟨rfl, by assumption⟩
        have hne : a0.data.toList ≠ [] := fun e => hx0 (by rw [← data_len, e]; rfl)
        have de : (a0.toList == ([] : List UInt8)) = false := by
          rw [beq_eq_false_iff_ne, Lib.toList_data]; exact hne
        have hwk2 : ∀ a ∈ ks, ∀ c ∈ a, wchar c := fun a ha => by
          obtain ⟨q, hq, rfl⟩ := List.getElem_of_mem ha
          exact HWK.out q hq hq
        obtain ⟨hb1, hb2, hb3⟩ := row_back a0.data.toList ks ns ⟨hne, HWX.out⟩ hwk2 (by omega) HI.out
        have hrl := rowL_len a0.data.toList ks ns HI.out
        rw [data_len] at hrl
        have hit : ∀ n ∈ ns.take ks.length, inI n := fun n hn => HI.out n (List.mem_of_mem_take hn)
        have L1 := Lib.hid fun w h1 h2 (t : Tb w) => kline_any a0 (.slice a1 ks.length cap1) (.slice a2 ns.length cap2) ks ns w (by omega) (by omega) (by omega) (by omega) HI.out h1 h2 t
        have L2 := fun w v h1 h2 (t : Tb w) => kline_any a0 (.slice a1 ks.length cap1) v ks (ns.take ks.length) w (by omega) (by omega) (by omega) (by rw [List.length_take]; omega) hit h1 h2 t
        rw [row_take] at L2
        have L2 := Lib.hid L2
        have P1 := fun w (h : Rd w w.heap.size (.slice a1 ks.length cap1) (strs ks)) (t : Tb w) => kparse_any (bs (rowL a0.data.toList ks ns)) a0 (.slice a1 ks.length cap1) ks w (by rw [bs_size]; omega) (by omega) (fun a ha => Nat.le_trans (HKS.out a ha) (by omega)) h t
        unfold RowR at P1
        rw [bs_list, hb1, hb2] at P1
        have P1 := Lib.hid P1
        have K1 := fun w => kword_any (bs (rowL a0.data.toList ks ns)) w (by rw [bs_size]; omega)
        rw [bs_list, hb3, bs_of] at K1
        have K1 := Lib.hid K1
        have hsl := fun w => run_slice_h (P := Tryd.prog) w 24 a2 ns.length cap2 (by kernel_rfl) .i64 (ks.length : Int) (by omega) (by
          obtain ⟨A, c, h1, h2, h3⟩ := HN.out.form
          rw [ints_len] at h1 h2
          simp only [Value.slice.injEq] at h1
          omega)
        rw [Int.toNat_natCast] at hsl
        clear hne hx0 hwk2 hb1 hb2 hb3 hrl hit hal
        generalize bs (rowL a0.data.toList ks ns) = RL at *
        go_wp2_with fail
        refine (L1.out _ HR.out HN.out HT.out).mono ?_; rintro e x2 ⟨rfl, b2⟩
        have HB2 := Lib.hid b2
        have HR2 := Lib.hid ((HR.out.below b2).more b2.size)
        have HN2 := Lib.hid ((HN.out.below b2).more b2.size)
        clear b2
        go_wp2_with fail
        refine (P1.out _ HR2.out (tb_below HT.out HB2.out)).mono ?_; rintro e x3 ⟨v3, rfl, r3, b3⟩
        have HB3 := Lib.hid (HB2.out.trans (b3.mono HB2.out.size))
        have HR3 := Lib.hid ((HR2.out.below b3).more b3.size)
        have HN3 := Lib.hid ((HN2.out.below b3).more b3.size)
        have HV3 := Lib.hid r3
        have hns := (HN3.out.take ks.length (by rw [ints_len]; omega))
        rw [ints_take] at hns
        have SM := Lib.hid (isames v3 _ (ns.take ks.length) _ x3 (by rw [List.length_take]; omega) r3 hns)
        clear b3 r3 hns
        go_wp2_with fail
        refine SM.out.mono ?_; rintro e x4 ⟨rfl, b4⟩
        have HB4 := Lib.hid (HB3.out.trans (b4.mono HB3.out.size))
        have HR4 := Lib.hid ((HR3.out.below b4).more b4.size)
        have HV4 := Lib.hid ((HV3.out.below b4).more b4.size)
        clear b4 SM
        go_wp2_with fail
        refine (L2.out _ _ HR4.out HV4.out (tb_below HT.out HB4.out)).mono ?_; rintro e x5 ⟨rfl, b5⟩
        have HB5 := Lib.hid (HB4.out.trans (b5.mono HB4.out.size))
        clear b5
        go_wp2_with fail
        refine (K1.out _).mono ?_; rintro e x6 ⟨rfl, b6⟩
        have HB6 := Lib.hid (HB5.out.trans (b6.mono HB5.out.size))
        clear b6
        go_wp2_with fail
        refine (row_awake _ (tb_below HT.out HB6.out)).mono ?_; rintro e x7 ⟨rfl, b7⟩
        have HB7 := Lib.hid (HB6.out.trans (b7.mono HB6.out.size))
        clear b7
        go_wp2_with fail
        go_ret
        exact ⟨rfl, HB7.out⟩

set_option maxRecDepth 100000 in
theorem lifted (os : Os) (started : os.Started) (H : Type) (enc : TypeId × Value → H) :
    ReturnsInHanded {} Tryd.checked os 4 .any (fun w args => (Rows.rowBackSpec.pre enc Tryd.prog Tryd.f4 [] false w args ∧ laidMetH Tryd.prog Rows.rowBackRow.laid w) ∧ sizedMet enc Tryd.prog Tryd.f4 (OpenSpec.ofChange Rows.rowBackSpec) false w args)
      (Rows.rowBackSpec.post enc Tryd.prog Tryd.f4 false true false false) := by
  refine returnsInHanded_of_change_and (C := Tryd.checked) (X := fun w _ => laidMetH Tryd.prog Rows.rowBackRow.laid w) (fun _ _ _ hh h => h.of_heap hh) own started (by kernel_rfl) Tryd.func4
    (ChangeSpec.witness_shaped (enc := enc) (C := Tryd.checked) (os := os) (X := fun w _ => laidMetH Tryd.prog Rows.rowBackRow.laid w) false (World.doorLaid Tryd.prog 24 os) #[.string ByteArray.empty, .slice none 0 0, .slice none 0 0] 8 rfl (World.shaped_of_RefB (by kernel_rfl) (by kernel_rfl)) (by kernel_rfl) (by kernel_rfl) (by kernel_rfl) (door_met os _)) ?_
  intro W base args ds gs before hval0 hW hcnd _ hL _
  have hval : ∀ (j : Nat) t v, Tryd.f4.params[j]? = some t → args[j]? = some v → Value.okWide Tryd.prog W .any base t v := hval0
  have hW' := hW
  obtain ⟨p, q, hA0, hV, rfl, hfz, hnd⟩ := hW
  have hA : DataW.TrodAll enc Tryd.prog W 0 (fun _ => true) true Tryd.f4.params.toList args.toList ds p := hA0
  rw [Tryd.params4] at hA hval
  obtain ⟨v0, vs0, d0, ds0, p0, q0, hargs, rfl, rfl, h0, r0⟩ := trodAll_cons hA
  obtain ⟨v1, vs1, d1, ds1, p1, q1, rfl, rfl, rfl, h1, r1⟩ := trodAll_cons r0
  obtain ⟨v2, vs2, d2, ds2, p2, q2, rfl, rfl, rfl, h2, r2⟩ := trodAll_cons r1
  obtain ⟨rfl, rfl, rfl⟩ := trodAll_nil r2
  obtain rfl : args = #[v0, v1, v2] := by cases args; simp_all
  obtain ⟨rfl, rfl⟩ := trodVars_none hV
  obtain ⟨a0, rfl, rfl, rfl, w0⟩ := open_string Tryd.underlying9 (hval 0 9 v0 rfl rfl) h0
  obtain ⟨a1, len1, cap1, rfl⟩ := okWide_slice Tryd.underlying23 (hval 1 23 v1 rfl rfl)
  have k1 := h1
  have lt1 : ∀ x ∈ p1, x.block < W.heap.size := by obtain ⟨m, hm⟩ := k1; exact DataW.trod_lt m _ _ _ hm
  have w1 : Has W (.slice .str) [.slice a1 len1 cap1] := by obtain ⟨m, hm⟩ := h1; exact op23 _ _ _ _ _ _ _ _ _ hm
  obtain ⟨a2, len2, cap2, rfl⟩ := okWide_slice Tryd.underlying24 (hval 2 24 v2 rfl rfl)
  have k2 := h2
  have lt2 : ∀ x ∈ p2, x.block < W.heap.size := by obtain ⟨m, hm⟩ := k2; exact DataW.trod_lt m _ _ _ hm
  have w2 : Has W (.slice (.int .i64)) [.slice a2 len2 cap2] := by obtain ⟨m, hm⟩ := h2; exact op24 _ _ _ _ _ _ _ _ _ hm
  clear hA0 hval0
  refine (walk a0 a1 len1 cap1 a2 len2 cap2 W w0 w1 w2 (tb_of_laid hL)).mono fun e W' ⟨he, bel⟩ => ?_
  subst he
  exact ⟨_, rfl, _, _, _, [], _, [], hW', trodAll_mk1 (shut_bool Tryd.underlying4 _), (trodAll_cons_mk (shut_string Tryd.underlying9 w0) (trodAll_cons_mk (Below.trod laidOut (by kernel_rfl) (of_decide_eq_true (by kernel_rfl)) k1 bel lt1) (trodAll_cons_mk (Below.trod laidOut (by kernel_rfl) (of_decide_eq_true (by kernel_rfl)) k2 bel lt2) trodAll_mk0))), rfl, bel.frame _, fun h => by cases h⟩

theorem over : Rows.rowBackRow.holds Tryd.pinned (OpenSpec.ofChange Rows.rowBackSpec) :=
  OpenClaim.holds_of_wide 4 Tryd.f4 rfl rfl rfl rfl rfl rfl rfl ⟨rfl, rfl, rfl, rfl, rfl⟩ rfl rfl rfl rfl rfl (by kernel_rfl) Tryd.func4 (by kernel_rfl)
    (of_decide_eq_true (by kernel_rfl)) (by unfold Func.isWrapper; first | (rw [if_pos (by decide +kernel)]; kernel_rfl) | (rw [if_neg (by decide +kernel)]; exact ⟨rfl, rfl⟩))
    (fun os started H enc _ => lifted os started H enc)

/-- ████ THE STATEMENT ████ -/
theorem proved : Rows.RowBackCardSaid :=
  Claim7.holds_tied_plain_at .later [] [.data, .data, .data] true (true, "3e817aff2dda2d9ba820d71b5f599197ea6945169da57ac76af39bea1ca2b07f") false
    over (fun _ h => by cases h) (by kernel_rfl) (fun _ h => by cases h) rowBack_row_tie rfl ⟨rfl, rfl⟩ (by kernel_rfl) rfl
    (fun f fn hf hfn => by
      obtain rfl : f = 4 := Option.some.inj ((show Tryd.prog.funcNamed "reeve/reevelaw07.RowBack" = some 4 by kernel_rfl).symm.trans hf) |>.symm
      obtain rfl : fn = Tryd.f4 := (Option.some.inj (Tryd.func4.symm.trans hfn)).symm
      exact ⟨by kernel_rfl, fun j t ht => by
        rw [Tryd.params4] at ht
        have hm : t ∈ [9, 23, 24] := by simpa using Array.mem_of_getElem? ht
        have hall : ([9, 23, 24].all fun u => !Tryd.prog.wantsStandIn u) = true := by kernel_rfl
        exact (show Tryd.prog.wantsStandIn t = false by simpa using List.all_eq_true.1 hall t hm)⟩)
    (by kernel_rfl)
end Go.Proofs.YtlmijhladbinjaaDoor.rowBack
