/- The law RowLines of the repository answers true for every input. No conditions. -/
import Derived.Test.YtlmijhladbinjaaDoorRowAwake
import Derived.Test.YtlmijhladbinjaaDoorDecArgs
import Derived.Test.YtlmijhladbinjaaDoorRows
import Derived.Test.YtlmijhladbinjaaDoorCards
import Derived.Test.YtlmijhladbinjaaDoorTie
import Derived.SevenTiedAt
import Derived.LaidMore
import Derived.Stop.LaidErr
import Derived.Stop.Joined
import Derived.MakeChecks
import Derived.Lib.LaidTab
import Derived.WalkKit
import Derived.ProofKit
import Derived.OpenShut
import Derived.Below
import Derived.ShutString
import Derived.Carry
import Derived.Test.YtlmijhladbinjaaDoorArgs
namespace Go.Proofs.YtlmijhladbinjaaDoor.rowLines
open Go.ChangeShapes Go.WideShapes Go.ChangeAt Go.RowKit
open Go.ChangeMaps (open_string shut_string)
set_option linter.unusedVariables false
set_option linter.unusedSimpArgs false

theorem own : ownKnob Tryd.prog.godebug = none := by kernel_rfl
theorem laidOut : laidOutB Tryd.prog = true := by kernel_rfl
theorem op9 : Opens Tryd.prog 9 .str := opens_str Tryd.underlying9
theorem op22 : Opens Tryd.prog 22 (Sh.rep .str 2) := opens_array Tryd.underlying22 (by kernel_rfl) (by kernel_rfl) op9
theorem op23 : Opens Tryd.prog 23 (.slice .str) := opens_slice Tryd.underlying23 (by kernel_rfl) (by decide) op9
theorem op3 : Opens Tryd.prog 3 (.int .i64) := opens_int Tryd.underlying3
theorem op24 : Opens Tryd.prog 24 (.slice (.int .i64)) := opens_slice Tryd.underlying24 (by kernel_rfl) (by decide) op3

theorem has_str2 {w : World} {cs : List Value} (h : Has w (Sh.rep .str 2) cs) : ∃ a b : ByteArray, cs = [.string a, .string b] ∧ a.size ≤ maxLen ∧ b.size ≤ maxLen := by
  obtain ⟨x, y, rfl, ⟨s1, rfl, h1⟩, ⟨x2, y2, rfl, ⟨s2, rfl, h2⟩, rfl⟩⟩ := h
  exact ⟨s1, s2, rfl, h1, h2⟩
theorem allLen_few (l : List (List UInt8)) (h : fewB l = true) : l.length ≤ 16 ∧ allLen l ≤ 60 * l.length ∧ ∀ a ∈ l, a.length ≤ 60 := by
  unfold fewB at h
  rw [Bool.and_eq_true] at h
  have h1 : ∀ a ∈ l, a.length ≤ 60 := fun a ha => by simpa using List.all_eq_true.1 h.1 a ha
  refine ⟨by simpa using h.2, ?_, h1⟩
  clear h
  induction l with
  | nil => simp [allLen]
  | cons a l ih =>
    have h0 := h1 a (by simp)
    have h2 := ih (fun b hb => h1 b (by simp [hb]))
    have e : allLen (a :: l) = a.length + allLen l := by simp [allLen]
    rw [e, List.length_cons, Nat.mul_add]; omega

theorem door_met (os : Os) (args : Array Value) : laidMetH Tryd.prog Rows.rowLinesRow.laid ((World.doorLaid Tryd.prog 24 os).forCall (fun _ _ => 0) ⟨#[], args, []⟩).memory :=
  laidMetH_of_parts3 (fuel := 8) (laidMet_of_run' 8 (by kernel_rfl) (by kernel_rfl)) (by kernel_rfl) (by kernel_rfl)
theorem tb_of_laid {W : World} (h0 : laidMetH Tryd.prog Rows.rowLinesRow.laid W) : Tb W := by
  rw [MakeChecks.laidMetH_plain _ _ _ (by kernel_rfl)] at h0
  have h : laidMet Tryd.prog [("math/bits.deBruijn32tab", Rows.laid_math_bits_deBruijn32tab), ("math/bits.deBruijn64tab", Rows.laid_math_bits_deBruijn64tab), ("internal/strconv.uint64pow10", Rows.laid_internal_strconv_uint64pow10)] W := h0
  have e : (Rows.laid_internal_strconv_uint64pow10 : DataW Unit) = Lib.tabData .u64 Lib.pow10Tab := by kernel_rfl
  have h2 := h.tail.tail
  rw [e] at h2
  exact Lib.tabIs_of_head (g := 0) (t := 77) (e := 67) (n := 20) (by kernel_rfl) (by kernel_rfl) (by kernel_rfl) (by kernel_rfl) (by kernel_rfl) (by kernel_rfl) h2

set_option maxRecDepth 100000 in
set_option maxHeartbeats 4000000 in
theorem walk (c0 : Array Value) (a1 : Option Addr) (len1 cap1 : Nat) (a2 : Option Addr) (len2 cap2 : Nat) (w : World) (w0 : Has w (Sh.rep .str 2) c0.toList) (w1 : Has w (.slice .str) [.slice a1 len1 cap1]) (w2 : Has w (.slice (.int .i64)) [.slice a2 len2 cap2]) (ht : Tb w) :
    Calls Tryd.prog 3 #[.agg c0, .slice a1 len1 cap1, .slice a2 len2 cap2] w fun e w' => e = .returned (.bool true) ∧ Below w.heap.size w w' := by
  have HT := Lib.hid ht
  clear ht
  obtain ⟨x, y, hc0, hx, hy⟩ := has_str2 w0
  obtain rfl : c0 = #[.string x, .string y] := by
    cases c0 with
    | mk l => simp at hc0; rw [hc0]
  obtain ⟨ks, hks, hrd, hmx⟩ := rd_came w1
  obtain ⟨ns, hns, hrn, hin⟩ := rd_ints w2
  subst hks
  subst hns
  clear w0 w1 w2 hc0
  unfold maxLen at hx hy
  have HR := Lib.hid hrd
  have HN := Lib.hid hrn
  have HI := Lib.hid hin
  have HMX := Lib.hid hmx
  clear hrd hrn hin hmx
  go_enter Tryd.func3, Tryd.ntmps3
  go_wp2_with fail
  go_quiet (fail)
  have HB0 := Lib.hid (show Below w.heap.size w ((w.alloc (.cells #[.string x, .string y] 22)).drewN nq) from (by
    have h := (Below.refl w.heap.size w).alloc (Nat.le_refl _) (.cells #[.string x, .string y] 22)
    exact ⟨h.os, h.tape, h.output, h.size, h.block⟩))
  have HR0 := Lib.hid ((HR.out.below HB0.out).more HB0.out.size)
  have HN0 := Lib.hid ((HN.out.below HB0.out).more HB0.out.size)
  generalize (w.alloc (.cells #[.string x, .string y] 22)).drewN nq = w1 at *
  have FW := Lib.hid (few_any (.slice a1 ks.length cap1) ks w1 HMX.out HR0.out)
  by_cases hg1 : 60 < x.size
  · have d1 : decide ((60 : Int) < x.size) = true := decide_eq_true (by omega)
    go_wp2_with fail
    refine (row_awake _ (tb_below HT.out HB0.out)).mono ?_; rintro e x9 ⟨rfl, b9⟩
    have HB9 := Lib.hid (HB0.out.trans (b9.mono HB0.out.size))
    clear b9
    go_wp2_with fail
    go_ret
    exact ⟨rfl, HB9.out⟩
  have d1 : decide ((60 : Int) < x.size) = false := decide_eq_false (by omega)
  by_cases hg2 : 400 < y.size
  · have d2 : decide ((400 : Int) < y.size) = true := decide_eq_true (by omega)
    go_wp2_with fail
    refine (row_awake _ (tb_below HT.out HB0.out)).mono ?_; rintro e x9 ⟨rfl, b9⟩
    have HB9 := Lib.hid (HB0.out.trans (b9.mono HB0.out.size))
    clear b9
    go_wp2_with fail
    go_ret
    exact ⟨rfl, HB9.out⟩
  have d2 : decide ((400 : Int) < y.size) = false := decide_eq_false (by omega)
  by_cases hg3 : fewB ks = true
  case neg =>
    have hf : fewB ks = false := by simpa using hg3
    rw [hf] at FW
    clear hg3 hf
    go_wp2_with fail
    refine FW.out.mono ?_; rintro e x1 ⟨rfl, rfl⟩
    go_wp2_with fail
    refine (row_awake _ (tb_below HT.out HB0.out)).mono ?_; rintro e x9 ⟨rfl, b9⟩
    have HB9 := Lib.hid (HB0.out.trans (b9.mono HB0.out.size))
    clear b9
    go_wp2_with fail
    go_ret
    exact ⟨rfl, HB9.out⟩
  obtain ⟨hk, hal, hks⟩ := allLen_few ks hg3
  rw [hg3] at FW
  clear hg3
  by_cases hg4 : 20 < ns.length
  · have d4 : decide ((20 : Int) < ns.length) = true := decide_eq_true (by omega)
    clear hks
    go_wp2_with fail
    refine FW.out.mono ?_; rintro e x1 ⟨rfl, rfl⟩
    go_wp2_with fail
    refine (row_awake _ (tb_below HT.out HB0.out)).mono ?_; rintro e x9 ⟨rfl, b9⟩
    have HB9 := Lib.hid (HB0.out.trans (b9.mono HB0.out.size))
    clear b9
    go_wp2_with fail
    go_ret
    exact ⟨rfl, HB9.out⟩
  have d4 : decide ((20 : Int) < ns.length) = false := decide_eq_false (by omega)
  have P1 := fun w (h : Rd w w.heap.size (.slice a1 ks.length cap1) (strs ks)) (t : Tb w) => kparse_any y x (.slice a1 ks.length cap1) ks w (by omega) (by omega) (fun a ha => Nat.le_trans (hks a ha) (by omega)) h t
  have P2 := fun w (h : Rd w w.heap.size (.slice a1 ks.length cap1) (strs ks)) => r7parse_any y x (.slice a1 ks.length cap1) ks w (by omega) (by omega) (fun a ha => Nat.le_trans (hks a ha) (by omega)) h
  unfold RowR at P1 P2
  have P1 := Lib.hid P1
  have P2 := Lib.hid P2
  have L1 := Lib.hid fun w h1 h2 (t : Tb w) => kline_any x (.slice a1 ks.length cap1) (.slice a2 ns.length cap2) ks ns w (by omega) (by omega) (by omega) (by omega) HI.out h1 h2 t
  have L2 := Lib.hid fun w h1 h2 => r7line_any x (.slice a1 ks.length cap1) (.slice a2 ns.length cap2) ks ns w (by omega) (by omega) (by omega) (by omega) HI.out h1 h2
  have K1 := Lib.hid fun w => kword_any y w (by omega)
  have K2 := Lib.hid fun w => r7word_any y w (by omega)
  have hvl := rowV_len y.data.toList x.data.toList ks
  have HVL := Lib.hid (show (rowV y.data.toList x.data.toList ks).length ≤ 1000000 by omega)
  clear hks hvl hal
  generalize rowV y.data.toList x.data.toList ks = RV at *
  generalize rowE y.data.toList x.data.toList ks = RE at *
  generalize bs (rowL x.data.toList ks ns) = RL at *
  generalize bs (rowW y.data.toList) = RW at *
  go_wp2_with fail
  refine FW.out.mono ?_; rintro e x1 ⟨rfl, rfl⟩
  go_wp2_with fail
  refine (P1.out _ HR0.out (tb_below HT.out HB0.out)).mono ?_; rintro e x2 ⟨v2, rfl, r2, b2⟩
  have HB2 := Lib.hid (HB0.out.trans (b2.mono HB0.out.size))
  have HR2 := Lib.hid ((HR0.out.below b2).more b2.size)
  have HN2 := Lib.hid ((HN0.out.below b2).more b2.size)
  have HV2 := Lib.hid r2
  clear b2 r2
  go_wp2_with fail
  refine (P2.out _ HR2.out).mono ?_; rintro e x3 ⟨v3, rfl, r3, b3⟩
  have HB3 := Lib.hid (HB2.out.trans (b3.mono HB2.out.size))
  have HR3 := Lib.hid ((HR2.out.below b3).more b3.size)
  have HN3 := Lib.hid ((HN2.out.below b3).more b3.size)
  have HV3 := Lib.hid ((HV2.out.below b3).more b3.size)
  have HU3 := Lib.hid r3
  clear b3 r3
  go_wp2_with fail
  refine (L1.out _ HR3.out HN3.out (tb_below HT.out HB3.out)).mono ?_; rintro e x4 ⟨rfl, b4⟩
  have HB4 := Lib.hid (HB3.out.trans (b4.mono HB3.out.size))
  have HR4 := Lib.hid ((HR3.out.below b4).more b4.size)
  have HN4 := Lib.hid ((HN3.out.below b4).more b4.size)
  have HV4 := Lib.hid ((HV3.out.below b4).more b4.size)
  have HU4 := Lib.hid ((HU3.out.below b4).more b4.size)
  clear b4
  go_wp2_with fail
  refine (L2.out _ HR4.out HN4.out).mono ?_; rintro e x5 ⟨rfl, b5⟩
  have HB5 := Lib.hid (HB4.out.trans (b5.mono HB4.out.size))
  have HV5 := Lib.hid ((HV4.out.below b5).more b5.size)
  have HU5 := Lib.hid ((HU4.out.below b5).more b5.size)
  have SM := Lib.hid (isames v2 v3 RV _ x5 HVL.out HV5.out HU5.out)
  clear b5
  go_wp2_with fail
  refine SM.out.mono ?_; rintro e x6 ⟨rfl, b6⟩
  have HB6 := Lib.hid (HB5.out.trans (b6.mono HB5.out.size))
  clear b6 SM
  go_wp2_with fail
  refine (K1.out _).mono ?_; rintro e x7 ⟨rfl, b7⟩
  have HB7 := Lib.hid (HB6.out.trans (b7.mono HB6.out.size))
  clear b7
  go_wp2_with fail
  refine (K2.out _).mono ?_; rintro e x8 ⟨rfl, b8⟩
  have HB8 := Lib.hid (HB7.out.trans (b8.mono HB7.out.size))
  clear b8
  go_wp2_with fail
  refine (row_awake _ (tb_below HT.out HB8.out)).mono ?_; rintro e x9 ⟨rfl, b9⟩
  have HB9 := Lib.hid (HB8.out.trans (b9.mono HB8.out.size))
  clear b9
  go_wp2_with fail
  go_ret
  exact ⟨rfl, HB9.out⟩

set_option maxRecDepth 100000 in
theorem lifted (os : Os) (started : os.Started) (H : Type) (enc : TypeId × Value → H) :
    ReturnsInHanded {} Tryd.checked os 3 .any (fun w args => (Rows.rowLinesSpec.pre enc Tryd.prog Tryd.f3 [] false w args ∧ laidMetH Tryd.prog Rows.rowLinesRow.laid w) ∧ sizedMet enc Tryd.prog Tryd.f3 (OpenSpec.ofChange Rows.rowLinesSpec) false w args)
      (Rows.rowLinesSpec.post enc Tryd.prog Tryd.f3 false true false false) := by
  refine returnsInHanded_of_change_and (C := Tryd.checked) (X := fun w _ => laidMetH Tryd.prog Rows.rowLinesRow.laid w) (fun _ _ _ hh h => h.of_heap hh) own started (by kernel_rfl) Tryd.func3
    (ChangeSpec.witness_shaped (enc := enc) (C := Tryd.checked) (os := os) (X := fun w _ => laidMetH Tryd.prog Rows.rowLinesRow.laid w) false (World.doorLaid Tryd.prog 24 os) #[.agg #[.string ByteArray.empty, .string ByteArray.empty], .slice none 0 0, .slice none 0 0] 8 rfl (World.shaped_of_RefB (by kernel_rfl) (by kernel_rfl)) (by kernel_rfl) (by kernel_rfl) (by kernel_rfl) (door_met os _)) ?_
  intro W base args ds gs before hval0 hW hcnd _ hL _
  have hval : ∀ (j : Nat) t v, Tryd.f3.params[j]? = some t → args[j]? = some v → Value.okWide Tryd.prog W .any base t v := hval0
  have hW' := hW
  obtain ⟨p, q, hA0, hV, rfl, hfz, hnd⟩ := hW
  have hA : DataW.TrodAll enc Tryd.prog W 0 (fun _ => true) true Tryd.f3.params.toList args.toList ds p := hA0
  rw [Tryd.params3] at hA hval
  obtain ⟨v0, vs0, d0, ds0, p0, q0, hargs, rfl, rfl, h0, r0⟩ := trodAll_cons hA
  obtain ⟨v1, vs1, d1, ds1, p1, q1, rfl, rfl, rfl, h1, r1⟩ := trodAll_cons r0
  obtain ⟨v2, vs2, d2, ds2, p2, q2, rfl, rfl, rfl, h2, r2⟩ := trodAll_cons r1
  obtain ⟨rfl, rfl, rfl⟩ := trodAll_nil r2
  obtain rfl : args = #[v0, v1, v2] := by cases args; simp_all
  obtain ⟨rfl, rfl⟩ := trodVars_none hV
  obtain ⟨c0, rfl, _⟩ := okWide_array Tryd.underlying22 (hval 0 22 v0 rfl rfl)
  have k0 := h0
  have lt0 : ∀ x ∈ p0, x.block < W.heap.size := by obtain ⟨m, hm⟩ := k0; exact DataW.trod_lt m _ _ _ hm
  have w0 : Has W (Sh.rep .str 2) c0.toList := by obtain ⟨m, hm⟩ := h0; exact op22 _ _ _ _ _ _ _ _ _ hm
  obtain ⟨a1, len1, cap1, rfl⟩ := okWide_slice Tryd.underlying23 (hval 1 23 v1 rfl rfl)
  have k1 := h1
  have lt1 : ∀ x ∈ p1, x.block < W.heap.size := by obtain ⟨m, hm⟩ := k1; exact DataW.trod_lt m _ _ _ hm
  have w1 : Has W (.slice .str) [.slice a1 len1 cap1] := by obtain ⟨m, hm⟩ := h1; exact op23 _ _ _ _ _ _ _ _ _ hm
  obtain ⟨a2, len2, cap2, rfl⟩ := okWide_slice Tryd.underlying24 (hval 2 24 v2 rfl rfl)
  have k2 := h2
  have lt2 : ∀ x ∈ p2, x.block < W.heap.size := by obtain ⟨m, hm⟩ := k2; exact DataW.trod_lt m _ _ _ hm
  have w2 : Has W (.slice (.int .i64)) [.slice a2 len2 cap2] := by obtain ⟨m, hm⟩ := h2; exact op24 _ _ _ _ _ _ _ _ _ hm
  clear hA0 hval0
  refine (walk c0 a1 len1 cap1 a2 len2 cap2 W w0 w1 w2 (tb_of_laid hL)).mono fun e W' ⟨he, bel⟩ => ?_
  subst he
  exact ⟨_, rfl, _, _, _, [], _, [], hW', trodAll_mk1 (shut_bool Tryd.underlying4 _), (trodAll_cons_mk (Below.trod laidOut (by kernel_rfl) (of_decide_eq_true (by kernel_rfl)) k0 bel lt0) (trodAll_cons_mk (Below.trod laidOut (by kernel_rfl) (of_decide_eq_true (by kernel_rfl)) k1 bel lt1) (trodAll_cons_mk (Below.trod laidOut (by kernel_rfl) (of_decide_eq_true (by kernel_rfl)) k2 bel lt2) trodAll_mk0))), rfl, bel.frame _, fun h => by cases h⟩

theorem over : Rows.rowLinesRow.holds Tryd.pinned (OpenSpec.ofChange Rows.rowLinesSpec) :=
  OpenClaim.holds_of_wide 3 Tryd.f3 rfl rfl rfl rfl rfl rfl rfl ⟨rfl, rfl, rfl, rfl, rfl⟩ rfl rfl rfl rfl rfl (by kernel_rfl) Tryd.func3 (by kernel_rfl)
    (of_decide_eq_true (by kernel_rfl)) (by unfold Func.isWrapper; first | (rw [if_pos (by decide +kernel)]; kernel_rfl) | (rw [if_neg (by decide +kernel)]; exact ⟨rfl, rfl⟩))
    (fun os started H enc _ => lifted os started H enc)

/-- ████ THE STATEMENT ████ -/
theorem proved : Rows.RowLinesCardSaid :=
  Claim7.holds_tied_plain_at .later [] [.data, .data, .data] true (true, "3e817aff2dda2d9ba820d71b5f599197ea6945169da57ac76af39bea1ca2b07f") false
    over (fun _ h => by cases h) (by kernel_rfl) (fun _ h => by cases h) rowLines_row_tie rfl ⟨rfl, rfl⟩ (by kernel_rfl) rfl
    (fun f fn hf hfn => by
      obtain rfl : f = 3 := Option.some.inj ((show Tryd.prog.funcNamed "reeve/reevelaw07.RowLines" = some 3 by kernel_rfl).symm.trans hf) |>.symm
      obtain rfl : fn = Tryd.f3 := (Option.some.inj (Tryd.func3.symm.trans hfn)).symm
      exact ⟨by kernel_rfl, fun j t ht => by
        rw [Tryd.params3] at ht
        have hm : t ∈ [22, 23, 24] := by simpa using Array.mem_of_getElem? ht
        have hall : ([22, 23, 24].all fun u => !Tryd.prog.wantsStandIn u) = true := by kernel_rfl
        exact (show Tryd.prog.wantsStandIn t = false by simpa using List.all_eq_true.1 hall t hm)⟩)
    (by kernel_rfl)
end Go.Proofs.YtlmijhladbinjaaDoor.rowLines
