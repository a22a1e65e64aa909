/- The law DecLists of the repository answers true for every input. No conditions. -/
import Derived.Test.YtfklchjhnocnhaaDoorDecArgs
import Derived.Test.YtfklchjhnocnhaaDoorRows
import Derived.Test.YtfklchjhnocnhaaDoorCards
import Derived.Test.YtfklchjhnocnhaaDoorTie
import Derived.SevenTiedAt
import Derived.LaidMore
import Derived.Stop.LaidErr
import Derived.Stop.Joined
import Derived.MakeChecks
import Derived.Lib.LaidTab
import Derived.WalkKit
import Derived.ProofKit
import Derived.OpenShut
import Derived.Below
import Derived.ShutString
import Derived.Carry
import Derived.Test.YtfklchjhnocnhaaDoorArgs
namespace Go.Proofs.YtfklchjhnocnhaaDoor.decLists
open Go.ChangeShapes Go.WideShapes Go.ChangeAt Go.RowKit
open Go.ChangeMaps (open_string shut_string)
set_option linter.unusedVariables false
set_option linter.unusedSimpArgs false

theorem own : ownKnob Tryd.prog.godebug = none := by kernel_rfl
theorem laidOut : laidOutB Tryd.prog = true := by kernel_rfl
theorem op3 : Opens Tryd.prog 3 (.int .i64) := opens_int Tryd.underlying3
theorem op28 : Opens Tryd.prog 28 (.slice (.int .i64)) := opens_slice Tryd.underlying28 (by kernel_rfl) (by decide) op3

theorem door_met (os : Os) (args : Array Value) : laidMetH Tryd.prog Rows.decListsRow.laid ((World.doorLaid Tryd.prog 24 os).forCall (fun _ _ => 0) ⟨#[], args, []⟩).memory :=
  laidMetH_of_parts3 (fuel := 8) (laidMet_of_run' 8 (by kernel_rfl) (by kernel_rfl)) (by kernel_rfl) (by kernel_rfl)
theorem tb_of_laid {W : World} (h0 : laidMetH Tryd.prog Rows.decListsRow.laid W) : Tb W := by
  rw [MakeChecks.laidMetH_plain _ _ _ (by kernel_rfl)] at h0
  have h : laidMet Tryd.prog [("math/bits.deBruijn32tab", Rows.laid_math_bits_deBruijn32tab), ("math/bits.deBruijn64tab", Rows.laid_math_bits_deBruijn64tab), ("internal/strconv.uint64pow10", Rows.laid_internal_strconv_uint64pow10)] W := h0
  have e : (Rows.laid_internal_strconv_uint64pow10 : DataW Unit) = Lib.tabData .u64 Lib.pow10Tab := by kernel_rfl
  have h2 := h.tail.tail
  rw [e] at h2
  exact Lib.tabIs_of_head (g := 1) (t := 78) (e := 72) (n := 20) (by kernel_rfl) (by kernel_rfl) (by kernel_rfl) (by kernel_rfl) (by kernel_rfl) (by kernel_rfl) h2

set_option maxRecDepth 100000 in
set_option maxHeartbeats 4000000 in
theorem walk (a0 : Option Addr) (len0 cap0 : Nat) (a1 : ByteArray) (a2 : Int) (w : World) (w0 : Has w (.slice (.int .i64)) [.slice a0 len0 cap0]) (w1 : a1.size ≤ maxLen) (w2 : (Lit.int .i64 a2).wf = true) (ht : Tb w) :
    Calls Tryd.prog 4 #[.slice a0 len0 cap0, .string a1, .int .i64 a2] w fun e w' => e = .returned (.bool true) ∧ Below w.heap.size w w' := by
  unfold maxLen at w1
  have HT := Lib.hid ht
  clear ht
  obtain ⟨ns, hns, hrd, hin⟩ := rd_ints w0
  subst hns
  clear w0 w2
  by_cases hg1 : 20 < ns.length
  · have d1 : decide ((20 : Int) < ns.length) = true := decide_eq_true (by omega)
    clear hrd hin
    go_enter Tryd.func4, Tryd.ntmps4
    go_wp2_with (go_at_call 6; refine (dec_awake _ HT.out).mono ?_; rintro e w' ⟨rfl, hb⟩)
    go_ret
    exact ⟨rfl, by assumption⟩
  have d1 : decide ((20 : Int) < ns.length) = false := decide_eq_false (by omega)
  by_cases hg2 : 200 < a1.size
  · have d2 : decide ((200 : Int) < a1.size) = true := decide_eq_true (by omega)
    clear hrd hin
    go_enter Tryd.func4, Tryd.ntmps4
    go_wp2_with (go_at_call 6; refine (dec_awake _ HT.out).mono ?_; rintro e w' ⟨rfl, hb⟩)
    go_ret
    exact ⟨rfl, by assumption⟩
  have d2 : decide ((200 : Int) < a1.size) = false := decide_eq_false (by omega)
  have L1 := fun w (h : Tb w) => dplist_any a1 a2 w (by omega) h
  have L2 := fun w => rplist_any a1 a2 w (by omega)
  unfold PlR at L1 L2
  have L1 := Lib.hid L1
  have L2 := Lib.hid L2
  have U1 := Lib.hid fun w => dphex_any a1 w (by omega)
  have U2 := Lib.hid fun w => rphex_any a1 w (by omega)
  have X1 := Lib.hid fun w => dhex_any a1 w (by omega)
  have X2 := Lib.hid fun w => rhex_any a1 w (by omega)
  have D1 := Lib.hid fun w (t : Tb w) h => dlist_any (.slice a0 ns.length cap0) ns w (by omega) hin h t
  have D2 := Lib.hid fun B w h => rlist_any (.slice a0 ns.length cap0) ns B w (by omega) hin h
  have HR := Lib.hid hrd
  have hpl : (plV a1.data.toList a2).length ≤ 1000000 := by
    have := splitS_len 44 a1.data.toList
    rw [data_len] at this
    unfold plV; split
    · simp; omega
    · simp
  clear hrd hin
  generalize plE a1.data.toList a2 = pe at *
  generalize plV a1.data.toList a2 = pv at *
  generalize uhE a1.data.toList = ue at *
  generalize bs (uhV a1.data.toList) = uv at *
  generalize bs (hexL a1.data.toList) = hx at *
  generalize bs (listL ns) = T at *
  go_enter Tryd.func4, Tryd.ntmps4
  go_wp2_with fail
  refine (L1.out _ HT.out).mono ?_; rintro e x1 ⟨v1, rfl, r1, b1⟩
  go_wp2_with fail
  refine (L2.out _).mono ?_; rintro e x2 ⟨v2, rfl, r2, b2⟩
  have HR1 := Lib.hid ((r1.below b2).more b2.size)
  have HR2 := Lib.hid r2
  have HB2 := Lib.hid (b1.trans (b2.mono b1.size))
  clear r1 r2 b1 b2
  go_wp2_with fail
  refine (U1.out _).mono ?_; rintro e x3 ⟨rfl, b3⟩
  go_wp2_with fail
  refine (U2.out _).mono ?_; rintro e x4 ⟨rfl, b4⟩
  have HB4 := Lib.hid (b3.trans (b4.mono b3.size))
  clear b3 b4
  have HR4 := Lib.hid ((HR.out.below HB2.out).more HB2.out.size)
  have HR5 := Lib.hid ((HR4.out.below HB4.out).more HB4.out.size)
  go_wp2_with fail
  refine (D1.out _ (tb_below (tb_below HT.out HB2.out) HB4.out) HR5.out).mono ?_; rintro e x5 ⟨rfl, b5⟩
  have HR6 := Lib.hid ((HR5.out.below b5).more b5.size)
  have HB5 := Lib.hid (HB4.out.trans (b5.mono HB4.out.size))
  clear b5
  go_wp2_with fail
  refine (D2.out _ _ HR6.out).mono ?_; rintro e x6 ⟨rfl, rfl⟩
  have HR7 := Lib.hid ((HR1.out.below HB5.out).more HB5.out.size)
  have HR8 := Lib.hid ((HR2.out.below HB5.out).more HB5.out.size)
  have SM := Lib.hid (isame_true v1 v2 pv _ _ hpl HR7.out HR8.out)
  have HB6 := Lib.hid (HB2.out.trans (HB5.out.mono HB2.out.size))
  go_wp2_with fail
  refine SM.out.mono ?_; rintro e x7 ⟨rfl, n7, rfl⟩
  have HB7 := Lib.hid (below_drewN0 HB6.out n7)
  go_wp2_with fail
  refine (X1.out _).mono ?_; rintro e x8 ⟨rfl, b8⟩
  have HB8 := Lib.hid (HB7.out.trans (b8.mono HB7.out.size))
  clear b8
  go_wp2_with fail
  refine (X2.out _).mono ?_; rintro e x9 ⟨rfl, n9, rfl⟩
  have HB9 := Lib.hid (below_drewN0 HB8.out n9)
  go_wp2_with fail
  refine (dec_awake _ (tb_below HT.out HB9.out)).mono ?_; rintro e x10 ⟨rfl, b10⟩
  have HB10 := Lib.hid (HB9.out.trans (b10.mono HB9.out.size))
  clear b10
  go_wp2_with fail
  go_ret
  exact ⟨rfl, HB10.out⟩

set_option maxRecDepth 100000 in
theorem lifted (os : Os) (started : os.Started) (H : Type) (enc : TypeId × Value → H) :
    ReturnsInHanded {} Tryd.checked os 4 .any (fun w args => (Rows.decListsSpec.pre enc Tryd.prog Tryd.f4 [] false w args ∧ laidMetH Tryd.prog Rows.decListsRow.laid w) ∧ sizedMet enc Tryd.prog Tryd.f4 (OpenSpec.ofChange Rows.decListsSpec) false w args)
      (Rows.decListsSpec.post enc Tryd.prog Tryd.f4 false true false false) := by
  refine returnsInHanded_of_change_and (C := Tryd.checked) (X := fun w _ => laidMetH Tryd.prog Rows.decListsRow.laid w) (fun _ _ _ hh h => h.of_heap hh) own started (by kernel_rfl) Tryd.func4
    (ChangeSpec.witness_shaped (enc := enc) (C := Tryd.checked) (os := os) (X := fun w _ => laidMetH Tryd.prog Rows.decListsRow.laid w) false (World.doorLaid Tryd.prog 24 os) #[.slice none 0 0, .string ByteArray.empty, .int .i64 0] 8 rfl (World.shaped_of_RefB (by kernel_rfl) (by kernel_rfl)) (by kernel_rfl) (by kernel_rfl) (by kernel_rfl) (door_met os _)) ?_
  intro W base args ds gs before hval0 hW hcnd _ hL _
  have hval : ∀ (j : Nat) t v, Tryd.f4.params[j]? = some t → args[j]? = some v → Value.okWide Tryd.prog W .any base t v := hval0
  have hW' := hW
  obtain ⟨p, q, hA0, hV, rfl, hfz, hnd⟩ := hW
  have hA : DataW.TrodAll enc Tryd.prog W 0 (fun _ => true) true Tryd.f4.params.toList args.toList ds p := hA0
  rw [Tryd.params4] at hA hval
  obtain ⟨v0, vs0, d0, ds0, p0, q0, hargs, rfl, rfl, h0, r0⟩ := trodAll_cons hA
  obtain ⟨v1, vs1, d1, ds1, p1, q1, rfl, rfl, rfl, h1, r1⟩ := trodAll_cons r0
  obtain ⟨v2, vs2, d2, ds2, p2, q2, rfl, rfl, rfl, h2, r2⟩ := trodAll_cons r1
  obtain ⟨rfl, rfl, rfl⟩ := trodAll_nil r2
  obtain rfl : args = #[v0, v1, v2] := by cases args; simp_all
  obtain ⟨rfl, rfl⟩ := trodVars_none hV
  obtain ⟨a0, len0, cap0, rfl⟩ := okWide_slice Tryd.underlying28 (hval 0 28 v0 rfl rfl)
  have k0 := h0
  have lt0 : ∀ x ∈ p0, x.block < W.heap.size := by obtain ⟨m, hm⟩ := k0; exact DataW.trod_lt m _ _ _ hm
  have w0 : Has W (.slice (.int .i64)) [.slice a0 len0 cap0] := by obtain ⟨m, hm⟩ := h0; exact op28 _ _ _ _ _ _ _ _ _ hm
  obtain ⟨a1, rfl, rfl, rfl, w1⟩ := open_string Tryd.underlying9 (hval 1 9 v1 rfl rfl) h1
  obtain ⟨a2, rfl, rfl, rfl, w2⟩ := open_int Tryd.underlying3 (hval 2 3 v2 rfl rfl) h2
  clear hA0 hval0
  refine (walk a0 len0 cap0 a1 a2 W w0 w1 w2 (tb_of_laid hL)).mono fun e W' ⟨he, bel⟩ => ?_
  subst he
  exact ⟨_, rfl, _, _, _, [], _, [], hW', trodAll_mk1 (shut_bool Tryd.underlying4 _), (trodAll_cons_mk (Below.trod laidOut (by kernel_rfl) (of_decide_eq_true (by kernel_rfl)) k0 bel lt0) (trodAll_cons_mk (shut_string Tryd.underlying9 w1) (trodAll_cons_mk (shut_int Tryd.underlying3 w2) trodAll_mk0))), rfl, bel.frame _, fun h => by cases h⟩

theorem over : Rows.decListsRow.holds Tryd.pinned (OpenSpec.ofChange Rows.decListsSpec) :=
  OpenClaim.holds_of_wide 4 Tryd.f4 rfl rfl rfl rfl rfl rfl rfl ⟨rfl, rfl, rfl, rfl, rfl⟩ rfl rfl rfl rfl rfl (by kernel_rfl) Tryd.func4 (by kernel_rfl)
    (of_decide_eq_true (by kernel_rfl)) (by unfold Func.isWrapper; first | (rw [if_pos (by decide +kernel)]; kernel_rfl) | (rw [if_neg (by decide +kernel)]; exact ⟨rfl, rfl⟩))
    (fun os started H enc _ => lifted os started H enc)

/-- ████ THE STATEMENT ████ -/
theorem proved : Rows.DecListsCardSaid :=
  Claim7.holds_tied_plain_at .later [] [.data, .data, .data] true (true, "f61f83631520f4e25b7064f3508bd6e7820b6797e0922b6734ad04f27db824d0") false
    over (fun _ h => by cases h) (by kernel_rfl) (fun _ h => by cases h) decLists_row_tie rfl ⟨rfl, rfl⟩ (by kernel_rfl) rfl
    (fun f fn hf hfn => by
      obtain rfl : f = 4 := Option.some.inj ((show Tryd.prog.funcNamed "reeve/reevelaw05.DecLists" = some 4 by kernel_rfl).symm.trans hf) |>.symm
      obtain rfl : fn = Tryd.f4 := (Option.some.inj (Tryd.func4.symm.trans hfn)).symm
      exact ⟨by kernel_rfl, fun j t ht => by
        rw [Tryd.params4] at ht
        have hm : t ∈ [28, 9, 3] := by simpa using Array.mem_of_getElem? ht
        have hall : ([28, 9, 3].all fun u => !Tryd.prog.wantsStandIn u) = true := by kernel_rfl
        exact (show Tryd.prog.wantsStandIn t = false by simpa using List.all_eq_true.1 hall t hm)⟩)
    (by kernel_rfl)
end Go.Proofs.YtfklchjhnocnhaaDoor.decLists
