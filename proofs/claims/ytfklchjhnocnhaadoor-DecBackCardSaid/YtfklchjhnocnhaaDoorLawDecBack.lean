/- The law DecBack of the repository answers true for every input. No conditions. -/
import Derived.Test.YtfklchjhnocnhaaDoorDecArgs
import Derived.Deep.DeepCutAuto
import Derived.Deep.CutRange
import Derived.Test.YtfklchjhnocnhaaDoorRows
import Derived.Test.YtfklchjhnocnhaaDoorCards
import Derived.Test.YtfklchjhnocnhaaDoorTie
import Derived.SevenTiedAt
import Derived.LaidMore
import Derived.Stop.LaidErr
import Derived.Stop.Joined
import Derived.MakeChecks
import Derived.Lib.LaidTab
import Derived.WalkKit
import Derived.ProofKit
import Derived.OpenShut
import Derived.Below
import Derived.ShutString
import Derived.Carry
import Derived.Test.YtfklchjhnocnhaaDoorArgs
namespace Go.Proofs.YtfklchjhnocnhaaDoor.decBack
open Go.ChangeShapes Go.WideShapes Go.ChangeAt Go.RowKit
open Go.ChangeMaps (open_string shut_string)
set_option linter.unusedVariables false
set_option linter.unusedSimpArgs false

theorem own : ownKnob Tryd.prog.godebug = none := by kernel_rfl
theorem laidOut : laidOutB Tryd.prog = true := by kernel_rfl
theorem op3 : Opens Tryd.prog 3 (.int .i64) := opens_int Tryd.underlying3
theorem op28 : Opens Tryd.prog 28 (.slice (.int .i64)) := opens_slice Tryd.underlying28 (by kernel_rfl) (by decide) op3

theorem door_met (os : Os) (args : Array Value) : laidMetH Tryd.prog Rows.decBackRow.laid ((World.doorLaid Tryd.prog 24 os).forCall (fun _ _ => 0) ⟨#[], args, []⟩).memory :=
  laidMetH_of_parts3 (fuel := 8) (laidMet_of_run' 8 (by kernel_rfl) (by kernel_rfl)) (by kernel_rfl) (by kernel_rfl)
theorem tb_of_laid {W : World} (h0 : laidMetH Tryd.prog Rows.decBackRow.laid W) : Tb W := by
  rw [MakeChecks.laidMetH_plain _ _ _ (by kernel_rfl)] at h0
  have h : laidMet Tryd.prog [("math/bits.deBruijn32tab", Rows.laid_math_bits_deBruijn32tab), ("math/bits.deBruijn64tab", Rows.laid_math_bits_deBruijn64tab), ("internal/strconv.uint64pow10", Rows.laid_internal_strconv_uint64pow10)] W := h0
  have e : (Rows.laid_internal_strconv_uint64pow10 : DataW Unit) = Lib.tabData .u64 Lib.pow10Tab := by kernel_rfl
  have h2 := h.tail.tail
  rw [e] at h2
  exact Lib.tabIs_of_head (g := 1) (t := 78) (e := 72) (n := 20) (by kernel_rfl) (by kernel_rfl) (by kernel_rfl) (by kernel_rfl) (by kernel_rfl) (by kernel_rfl) h2

set_option maxRecDepth 100000 in
set_option maxHeartbeats 4000000 in
theorem walk (a0 : Option Addr) (len0 cap0 : Nat) (a1 : ByteArray) (w : World) (w0 : Has w (.slice (.int .i64)) [.slice a0 len0 cap0]) (w1 : a1.size ≤ maxLen) (ht : Tb w) :
    Calls Tryd.prog 5 #[.slice a0 len0 cap0, .string a1] w fun e w' => e = .returned (.bool true) ∧ Below w.heap.size w w' := by
  unfold maxLen at w1
  have HT := Lib.hid ht
  clear ht
  obtain ⟨ns, hns, hrd, hin⟩ := rd_ints w0
  subst hns
  clear w0
  by_cases hg1 : 20 < ns.length
  · have d1 : decide ((20 : Int) < ns.length) = true := decide_eq_true (by omega)
    clear hrd hin
    go_enter Tryd.func5, Tryd.ntmps5
    go_wp2_with (go_at_call 6; refine (dec_awake _ HT.out).mono ?_; rintro e w' ⟨rfl, hb⟩)
    go_ret
    exact ⟨rfl, by assumption⟩
  have d1 : decide ((20 : Int) < ns.length) = false := decide_eq_false (by omega)
  by_cases hg2 : 100 < a1.size
  · have d2 : decide ((100 : Int) < a1.size) = true := decide_eq_true (by omega)
    clear hrd hin
    go_enter Tryd.func5, Tryd.ntmps5
    go_wp2_with (go_at_call 6; refine (dec_awake _ HT.out).mono ?_; rintro e w' ⟨rfl, hb⟩)
    go_ret
    exact ⟨rfl, by assumption⟩
  have d2 : decide ((100 : Int) < a1.size) = false := decide_eq_false (by omega)
  have D1 := Lib.hid (dlist_any (.slice a0 ns.length cap0) ns w (by omega) hin hrd HT.out)
  have hll := listL_len ns hin ns.length
  rw [List.take_length] at hll
  have L1 := fun w (h : Tb w) => dplist_any (bs (listL ns)) ns.length w (by rw [bs_size]; omega) h
  rw [bs_list] at L1
  unfold PlR at L1
  have L1 := Lib.hid L1
  have HPB := Lib.hid fun h => pl_back ns h hin
  have HR := Lib.hid hrd
  have P1 := Lib.hid fun w (h : Tb w) => dparse_any a1 w (by omega) h
  have X1 := Lib.hid fun w => dhex_any a1 w (by omega)
  have U1 := fun w => dphex_any (bs (hexL a1.data.toList)) w (by rw [bs_size, hexL_len, data_len]; omega)
  rw [bs_list, (uh_back _).1, (uh_back _).2, bs_of] at U1
  have U1 := Lib.hid U1
  have U2 := Lib.hid fun w => dphex_any a1 w (by omega)
  have hpc := parE_cases a1.data.toList
  have HPO := Lib.hid fun h => par_ok (l := a1.data.toList) h
  have HUO := Lib.hid fun h => uh_ok (l := a1.data.toList) h
  have HT1 := Lib.hid fun n (hn : inI n) w (h : Tb w) => dtext_any n hn w h
  clear hrd hin hll
  generalize bs (listL ns) = T at *
  generalize bs (hexL a1.data.toList) = HX at *
  have hu2 : uhE a1.data.toList = 0 ∨ ¬ uhE a1.data.toList = 0 := by omega
  clear hu2
  rcases hpc with hp | hp
  · obtain ⟨h1, h2⟩ := HPO.out hp
    have T1 := Lib.hid fun w (h : Tb w) => HT1.out _ h2 w h
    rw [h1, bs_of] at T1
    rw [hp] at P1
    have h2' := h2
    unfold inI at h2'
    obtain ⟨h3, h4⟩ := h2'
    clear h1 h2 hp HPO HT1
    generalize parV a1.data.toList = pv at *
    by_cases hn0 : ns = []
    · subst hn0
      have HX0 := Lib.hid (show ([] : List Int).length = 0 from rfl)
      generalize plE (listL []) ([] : List Int).length = pe at *
      go_enter Tryd.func5, Tryd.ntmps5
      go_wp2_with fail
      refine D1.out.mono ?_; rintro e x1 ⟨rfl, b1⟩
      have HB1 := Lib.hid b1
      clear b1
      go_wp2_with fail
      refine (L1.out _ (tb_below HT.out HB1.out)).mono ?_; rintro e x2 ⟨v2, rfl, r2, b2⟩
      have HR2 := Lib.hid r2
      have HB2 := Lib.hid (HB1.out.trans (b2.mono HB1.out.size))
      clear r2 b2
      have HB3 := HB2
      go_wp2_with fail
      refine (P1.out _ (tb_below HT.out HB3.out)).mono ?_; rintro e x4 ⟨rfl, b4⟩
      have HB4 := Lib.hid (HB3.out.trans (b4.mono HB3.out.size))
      clear b4
      go_wp2_with fail
      refine (T1.out _ (tb_below HT.out HB4.out)).mono ?_; rintro e x5 ⟨rfl, b5⟩
      have HB5 := Lib.hid (HB4.out.trans (b5.mono HB4.out.size))
      clear b5
      go_wp2_with fail
      refine (X1.out _).mono ?_; rintro e x6 ⟨rfl, b6⟩
      have HB6 := Lib.hid (HB5.out.trans (b6.mono HB5.out.size))
      clear b6
      go_wp2_with fail
      refine (U1.out _).mono ?_; rintro e x7 ⟨rfl, b7⟩
      have HB7 := Lib.hid (HB6.out.trans (b7.mono HB6.out.size))
      clear b7
      go_wp2_with fail
      refine (U2.out _).mono ?_; rintro e x8 ⟨rfl, b8⟩
      have HB8 := Lib.hid (HB7.out.trans (b8.mono HB7.out.size))
      clear b8
      by_cases hu : uhE a1.data.toList = 0
      · have X2 := fun w => dhex_any (bs (uhV a1.data.toList)) w (by
          have := congrArg List.length (HUO.out hu)
          rw [hexL_len, data_len] at this
          rw [bs_size]; omega)
        rw [bs_list, HUO.out hu, bs_of] at X2
        have X2 := Lib.hid X2
        rw [hu]
        clear hu
        generalize bs (uhV a1.data.toList) = UV at *
        go_wp2_with fail
        refine (X2.out _).mono ?_; rintro e x9 ⟨rfl, b9⟩
        have HB9 := Lib.hid (HB8.out.trans (b9.mono HB8.out.size))
        clear b9
        go_wp2_with fail
        refine (dec_awake _ (tb_below HT.out HB9.out)).mono ?_; rintro e x10 ⟨rfl, b10⟩
        have HB10 := Lib.hid (HB9.out.trans (b10.mono HB9.out.size))
        clear b10
        go_wp2_with fail
        go_ret
        exact ⟨rfl, HB10.out⟩
      · have d5 : ((uhE a1.data.toList : Int) == 0) = false := beq_false_of_ne (by omega)
        have d6 : ((uhE a1.data.toList : Int) != 0) = true := by simp; omega
        generalize bs (uhV a1.data.toList) = UV at *
        generalize uhE a1.data.toList = ue at *
        clear hu
        go_wp2_with fail
        refine (dec_awake _ (tb_below HT.out HB8.out)).mono ?_; rintro e x10 ⟨rfl, b10⟩
        have HB10 := Lib.hid (HB8.out.trans (b10.mono HB8.out.size))
        clear b10
        go_wp2_with fail
        go_ret
        exact ⟨rfl, HB10.out⟩
    · have hl0 : 0 < ns.length := List.length_pos_iff.2 hn0
      have hpb := HPB.out hn0
      have d3 : decide ((0 : Int) < (ns.length : Int)) = true := decide_eq_true (by omega)
      have d4 : decide (0 < ns.length) = true := decide_eq_true hl0
      rw [hpb.1, hpb.2] at L1
      clear hpb hn0 HPB
      go_enter Tryd.func5, Tryd.ntmps5
      go_wp2_with fail
      refine D1.out.mono ?_; rintro e x1 ⟨rfl, b1⟩
      have HB1 := Lib.hid b1
      clear b1
      go_wp2_with fail
      refine (L1.out _ (tb_below HT.out HB1.out)).mono ?_; rintro e x2 ⟨v2, rfl, r2, b2⟩
      have HR2 := Lib.hid r2
      have HB2 := Lib.hid (HB1.out.trans (b2.mono HB1.out.size))
      clear r2 b2
      have SM := Lib.hid (isame_true v2 _ ns _ _ (by omega) HR2.out ((HR.out.below HB2.out).more HB2.out.size))
      go_wp2_with fail
      refine SM.out.mono ?_; rintro e x3 ⟨rfl, n3, rfl⟩
      have HB3 := Lib.hid (below_drewN0 HB2.out n3)
      go_wp2_with fail
      refine (P1.out _ (tb_below HT.out HB3.out)).mono ?_; rintro e x4 ⟨rfl, b4⟩
      have HB4 := Lib.hid (HB3.out.trans (b4.mono HB3.out.size))
      clear b4
      go_wp2_with fail
      refine (T1.out _ (tb_below HT.out HB4.out)).mono ?_; rintro e x5 ⟨rfl, b5⟩
      have HB5 := Lib.hid (HB4.out.trans (b5.mono HB4.out.size))
      clear b5
      go_wp2_with fail
      refine (X1.out _).mono ?_; rintro e x6 ⟨rfl, b6⟩
      have HB6 := Lib.hid (HB5.out.trans (b6.mono HB5.out.size))
      clear b6
      go_wp2_with fail
      refine (U1.out _).mono ?_; rintro e x7 ⟨rfl, b7⟩
      have HB7 := Lib.hid (HB6.out.trans (b7.mono HB6.out.size))
      clear b7
      go_wp2_with fail
      refine (U2.out _).mono ?_; rintro e x8 ⟨rfl, b8⟩
      have HB8 := Lib.hid (HB7.out.trans (b8.mono HB7.out.size))
      clear b8
      by_cases hu : uhE a1.data.toList = 0
      · have X2 := fun w => dhex_any (bs (uhV a1.data.toList)) w (by
          have := congrArg List.length (HUO.out hu)
          rw [hexL_len, data_len] at this
          rw [bs_size]; omega)
        rw [bs_list, HUO.out hu, bs_of] at X2
        have X2 := Lib.hid X2
        rw [hu]
        clear hu
        generalize bs (uhV a1.data.toList) = UV at *
        go_wp2_with fail
        refine (X2.out _).mono ?_; rintro e x9 ⟨rfl, b9⟩
        have HB9 := Lib.hid (HB8.out.trans (b9.mono HB8.out.size))
        clear b9
        go_wp2_with fail
        refine (dec_awake _ (tb_below HT.out HB9.out)).mono ?_; rintro e x10 ⟨rfl, b10⟩
        have HB10 := Lib.hid (HB9.out.trans (b10.mono HB9.out.size))
        clear b10
        go_wp2_with fail
        go_ret
        exact ⟨rfl, HB10.out⟩
      · have d5 : ((uhE a1.data.toList : Int) == 0) = false := beq_false_of_ne (by omega)
        have d6 : ((uhE a1.data.toList : Int) != 0) = true := by simp; omega
        generalize bs (uhV a1.data.toList) = UV at *
        generalize uhE a1.data.toList = ue at *
        clear hu
        go_wp2_with fail
        refine (dec_awake _ (tb_below HT.out HB8.out)).mono ?_; rintro e x10 ⟨rfl, b10⟩
        have HB10 := Lib.hid (HB8.out.trans (b10.mono HB8.out.size))
        clear b10
        go_wp2_with fail
        go_ret
        exact ⟨rfl, HB10.out⟩
  · have hpv := par_bad (l := a1.data.toList) (by omega)
    rw [hpv.1, hpv.2] at P1
    clear hpv hp HPO
    by_cases hn0 : ns = []
    · subst hn0
      generalize plE (listL []) ([] : List Int).length = pe at *
      go_enter Tryd.func5, Tryd.ntmps5
      go_wp2_with fail
      refine D1.out.mono ?_; rintro e x1 ⟨rfl, b1⟩
      have HB1 := Lib.hid b1
      clear b1
      go_wp2_with fail
      refine (L1.out _ (tb_below HT.out HB1.out)).mono ?_; rintro e x2 ⟨v2, rfl, r2, b2⟩
      have HR2 := Lib.hid r2
      have HB2 := Lib.hid (HB1.out.trans (b2.mono HB1.out.size))
      clear r2 b2
      have HB3 := HB2
      go_wp2_with fail
      refine (P1.out _ (tb_below HT.out HB3.out)).mono ?_; rintro e x4 ⟨rfl, b4⟩
      have HB4 := Lib.hid (HB3.out.trans (b4.mono HB3.out.size))
      clear b4
      have HB5 := HB4
      go_wp2_with fail
      refine (X1.out _).mono ?_; rintro e x6 ⟨rfl, b6⟩
      have HB6 := Lib.hid (HB5.out.trans (b6.mono HB5.out.size))
      clear b6
      go_wp2_with fail
      refine (U1.out _).mono ?_; rintro e x7 ⟨rfl, b7⟩
      have HB7 := Lib.hid (HB6.out.trans (b7.mono HB6.out.size))
      clear b7
      go_wp2_with fail
      refine (U2.out _).mono ?_; rintro e x8 ⟨rfl, b8⟩
      have HB8 := Lib.hid (HB7.out.trans (b8.mono HB7.out.size))
      clear b8
      by_cases hu : uhE a1.data.toList = 0
      · have X2 := fun w => dhex_any (bs (uhV a1.data.toList)) w (by
          have := congrArg List.length (HUO.out hu)
          rw [hexL_len, data_len] at this
          rw [bs_size]; omega)
        rw [bs_list, HUO.out hu, bs_of] at X2
        have X2 := Lib.hid X2
        rw [hu]
        clear hu
        generalize bs (uhV a1.data.toList) = UV at *
        go_wp2_with fail
        refine (X2.out _).mono ?_; rintro e x9 ⟨rfl, b9⟩
        have HB9 := Lib.hid (HB8.out.trans (b9.mono HB8.out.size))
        clear b9
        go_wp2_with fail
        refine (dec_awake _ (tb_below HT.out HB9.out)).mono ?_; rintro e x10 ⟨rfl, b10⟩
        have HB10 := Lib.hid (HB9.out.trans (b10.mono HB9.out.size))
        clear b10
        go_wp2_with fail
        go_ret
        exact ⟨rfl, HB10.out⟩
      · have d5 : ((uhE a1.data.toList : Int) == 0) = false := beq_false_of_ne (by omega)
        have d6 : ((uhE a1.data.toList : Int) != 0) = true := by simp; omega
        generalize bs (uhV a1.data.toList) = UV at *
        generalize uhE a1.data.toList = ue at *
        clear hu
        go_wp2_with fail
        refine (dec_awake _ (tb_below HT.out HB8.out)).mono ?_; rintro e x10 ⟨rfl, b10⟩
        have HB10 := Lib.hid (HB8.out.trans (b10.mono HB8.out.size))
        clear b10
        go_wp2_with fail
        go_ret
        exact ⟨rfl, HB10.out⟩
    · have hl0 : 0 < ns.length := List.length_pos_iff.2 hn0
      have hpb := HPB.out hn0
      have d3 : decide ((0 : Int) < (ns.length : Int)) = true := decide_eq_true (by omega)
      have d4 : decide (0 < ns.length) = true := decide_eq_true hl0
      rw [hpb.1, hpb.2] at L1
      clear hpb hn0 HPB
      go_enter Tryd.func5, Tryd.ntmps5
      go_wp2_with fail
      refine D1.out.mono ?_; rintro e x1 ⟨rfl, b1⟩
      have HB1 := Lib.hid b1
      clear b1
      go_wp2_with fail
      refine (L1.out _ (tb_below HT.out HB1.out)).mono ?_; rintro e x2 ⟨v2, rfl, r2, b2⟩
      have HR2 := Lib.hid r2
      have HB2 := Lib.hid (HB1.out.trans (b2.mono HB1.out.size))
      clear r2 b2
      have SM := Lib.hid (isame_true v2 _ ns _ _ (by omega) HR2.out ((HR.out.below HB2.out).more HB2.out.size))
      go_wp2_with fail
      refine SM.out.mono ?_; rintro e x3 ⟨rfl, n3, rfl⟩
      have HB3 := Lib.hid (below_drewN0 HB2.out n3)
      go_wp2_with fail
      refine (P1.out _ (tb_below HT.out HB3.out)).mono ?_; rintro e x4 ⟨rfl, b4⟩
      have HB4 := Lib.hid (HB3.out.trans (b4.mono HB3.out.size))
      clear b4
      have HB5 := HB4
      go_wp2_with fail
      refine (X1.out _).mono ?_; rintro e x6 ⟨rfl, b6⟩
      have HB6 := Lib.hid (HB5.out.trans (b6.mono HB5.out.size))
      clear b6
      go_wp2_with fail
      refine (U1.out _).mono ?_; rintro e x7 ⟨rfl, b7⟩
      have HB7 := Lib.hid (HB6.out.trans (b7.mono HB6.out.size))
      clear b7
      go_wp2_with fail
      refine (U2.out _).mono ?_; rintro e x8 ⟨rfl, b8⟩
      have HB8 := Lib.hid (HB7.out.trans (b8.mono HB7.out.size))
      clear b8
      by_cases hu : uhE a1.data.toList = 0
      · have X2 := fun w => dhex_any (bs (uhV a1.data.toList)) w (by
          have := congrArg List.length (HUO.out hu)
          rw [hexL_len, data_len] at this
          rw [bs_size]; omega)
        rw [bs_list, HUO.out hu, bs_of] at X2
        have X2 := Lib.hid X2
        rw [hu]
        clear hu
        generalize bs (uhV a1.data.toList) = UV at *
        go_wp2_with fail
        refine (X2.out _).mono ?_; rintro e x9 ⟨rfl, b9⟩
        have HB9 := Lib.hid (HB8.out.trans (b9.mono HB8.out.size))
        clear b9
        go_wp2_with fail
        refine (dec_awake _ (tb_below HT.out HB9.out)).mono ?_; rintro e x10 ⟨rfl, b10⟩
        have HB10 := Lib.hid (HB9.out.trans (b10.mono HB9.out.size))
        clear b10
        go_wp2_with fail
        go_ret
        exact ⟨rfl, HB10.out⟩
      · have d5 : ((uhE a1.data.toList : Int) == 0) = false := beq_false_of_ne (by omega)
        have d6 : ((uhE a1.data.toList : Int) != 0) = true := by simp; omega
        generalize bs (uhV a1.data.toList) = UV at *
        generalize uhE a1.data.toList = ue at *
        clear hu
        go_wp2_with fail
        refine (dec_awake _ (tb_below HT.out HB8.out)).mono ?_; rintro e x10 ⟨rfl, b10⟩
        have HB10 := Lib.hid (HB8.out.trans (b10.mono HB8.out.size))
        clear b10
        go_wp2_with fail
        go_ret
        exact ⟨rfl, HB10.out⟩

set_option maxRecDepth 100000 in
theorem lifted (os : Os) (started : os.Started) (H : Type) (enc : TypeId × Value → H) :
    ReturnsInHanded {} Tryd.checked os 5 .any (fun w args => (Rows.decBackSpec.pre enc Tryd.prog Tryd.f5 [] false w args ∧ laidMetH Tryd.prog Rows.decBackRow.laid w) ∧ sizedMet enc Tryd.prog Tryd.f5 (OpenSpec.ofChange Rows.decBackSpec) false w args)
      (Rows.decBackSpec.post enc Tryd.prog Tryd.f5 false true false false) := by
  refine returnsInHanded_of_change_and (C := Tryd.checked) (X := fun w _ => laidMetH Tryd.prog Rows.decBackRow.laid w) (fun _ _ _ hh h => h.of_heap hh) own started (by kernel_rfl) Tryd.func5
    (ChangeSpec.witness_shaped (enc := enc) (C := Tryd.checked) (os := os) (X := fun w _ => laidMetH Tryd.prog Rows.decBackRow.laid w) false (World.doorLaid Tryd.prog 24 os) #[.slice none 0 0, .string ByteArray.empty] 8 rfl (World.shaped_of_RefB (by kernel_rfl) (by kernel_rfl)) (by kernel_rfl) (by kernel_rfl) (by kernel_rfl) (door_met os _)) ?_
  intro W base args ds gs before hval0 hW hcnd _ hL _
  have hval : ∀ (j : Nat) t v, Tryd.f5.params[j]? = some t → args[j]? = some v → Value.okWide Tryd.prog W .any base t v := hval0
  have hW' := hW
  obtain ⟨p, q, hA0, hV, rfl, hfz, hnd⟩ := hW
  have hA : DataW.TrodAll enc Tryd.prog W 0 (fun _ => true) true Tryd.f5.params.toList args.toList ds p := hA0
  rw [Tryd.params5] at hA hval
  obtain ⟨v0, vs0, d0, ds0, p0, q0, hargs, rfl, rfl, h0, r0⟩ := trodAll_cons hA
  obtain ⟨v1, vs1, d1, ds1, p1, q1, rfl, rfl, rfl, h1, r1⟩ := trodAll_cons r0
  obtain ⟨rfl, rfl, rfl⟩ := trodAll_nil r1
  obtain rfl : args = #[v0, v1] := by cases args; simp_all
  obtain ⟨rfl, rfl⟩ := trodVars_none hV
  obtain ⟨a0, len0, cap0, rfl⟩ := okWide_slice Tryd.underlying28 (hval 0 28 v0 rfl rfl)
  have k0 := h0
  have lt0 : ∀ x ∈ p0, x.block < W.heap.size := by obtain ⟨m, hm⟩ := k0; exact DataW.trod_lt m _ _ _ hm
  have w0 : Has W (.slice (.int .i64)) [.slice a0 len0 cap0] := by obtain ⟨m, hm⟩ := h0; exact op28 _ _ _ _ _ _ _ _ _ hm
  obtain ⟨a1, rfl, rfl, rfl, w1⟩ := open_string Tryd.underlying9 (hval 1 9 v1 rfl rfl) h1
  clear hA0 hval0
  refine (walk a0 len0 cap0 a1 W w0 w1 (tb_of_laid hL)).mono fun e W' ⟨he, bel⟩ => ?_
  subst he
  exact ⟨_, rfl, _, _, _, [], _, [], hW', trodAll_mk1 (shut_bool Tryd.underlying4 _), (trodAll_cons_mk (Below.trod laidOut (by kernel_rfl) (of_decide_eq_true (by kernel_rfl)) k0 bel lt0) (trodAll_cons_mk (shut_string Tryd.underlying9 w1) trodAll_mk0)), rfl, bel.frame _, fun h => by cases h⟩

theorem over : Rows.decBackRow.holds Tryd.pinned (OpenSpec.ofChange Rows.decBackSpec) :=
  OpenClaim.holds_of_wide 5 Tryd.f5 rfl rfl rfl rfl rfl rfl rfl ⟨rfl, rfl, rfl, rfl, rfl⟩ rfl rfl rfl rfl rfl (by kernel_rfl) Tryd.func5 (by kernel_rfl)
    (of_decide_eq_true (by kernel_rfl)) (by unfold Func.isWrapper; first | (rw [if_pos (by decide +kernel)]; kernel_rfl) | (rw [if_neg (by decide +kernel)]; exact ⟨rfl, rfl⟩))
    (fun os started H enc _ => lifted os started H enc)

/-- ████ THE STATEMENT ████ -/
theorem proved : Rows.DecBackCardSaid :=
  Claim7.holds_tied_plain_at .later [] [.data, .data, .data] true (true, "f61f83631520f4e25b7064f3508bd6e7820b6797e0922b6734ad04f27db824d0") false
    over (fun _ h => by cases h) (by kernel_rfl) (fun _ h => by cases h) decBack_row_tie rfl ⟨rfl, rfl⟩ (by kernel_rfl) rfl
    (fun f fn hf hfn => by
      obtain rfl : f = 5 := Option.some.inj ((show Tryd.prog.funcNamed "reeve/reevelaw05.DecBack" = some 5 by kernel_rfl).symm.trans hf) |>.symm
      obtain rfl : fn = Tryd.f5 := (Option.some.inj (Tryd.func5.symm.trans hfn)).symm
      exact ⟨by kernel_rfl, fun j t ht => by
        rw [Tryd.params5] at ht
        have hm : t ∈ [28, 9] := by simpa using Array.mem_of_getElem? ht
        have hall : ([28, 9].all fun u => !Tryd.prog.wantsStandIn u) = true := by kernel_rfl
        exact (show Tryd.prog.wantsStandIn t = false by simpa using List.all_eq_true.1 hall t hm)⟩)
    (by kernel_rfl)
end Go.Proofs.YtfklchjhnocnhaaDoor.decBack
