/- The law WheelPlays of the repository answers true for every input. No conditions. -/
import Derived.Test.YtpdlpnfaclpgbaaWplE
import Derived.Deep.DeepCutAuto
import Derived.Deep.LoopGhost
import Derived.Deep.CutBlock
import Derived.StillTailTactics
import Derived.Test.YtpdlpnfaclpgbaaRows
import Derived.WalkKit
import Derived.ProofKit
import Derived.OpenShut
import Derived.Below
import Derived.ShutString
import Derived.Carry
import Derived.Test.YtpdlpnfaclpgbaaArgs
namespace Go.Proofs.Ytpdlpnfaclpgbaa.wheelPlays
open Go.ChangeShapes Go.WideShapes Go.ChangeAt Go.RowKit
open Go.ChangeMaps (open_string shut_string)
set_option linter.unusedVariables false
set_option linter.unusedSimpArgs false

theorem own : ownKnob Try.prog.godebug = none := by kernel_rfl
theorem laidOut : laidOutB Try.prog = true := by kernel_rfl
theorem op3 : Opens Try.prog 3 (.int .i64) := opens_int Try.underlying3
theorem op32 : Opens Try.prog 32 (.pair (.int .i64) (.pair (.int .i64) (.pair (.int .i64) .unit))) := opens_struct Try.underlying32 (by kernel_rfl) (fields_cons rfl (by kernel_rfl) op3 (fields_cons rfl (by kernel_rfl) op3 (fields_cons rfl (by kernel_rfl) op3 fields_nil)))
theorem op22 : Opens Try.prog 22 (.slice (.pair (.int .i64) (.pair (.int .i64) (.pair (.int .i64) .unit)))) := opens_slice Try.underlying22 (by kernel_rfl) (by decide) op32

theorem two_begin {wL w1 : World} (hp : WP (fun k => k = wL.heap.size) (ptrB wL.heap.size) [] w1) (hb : Below wL.heap.size wL w1) : Two0 wL (ptrB wL.heap.size) [] (ptrB w1.heap.size) [] (.slice none 0 0) [] (w1.alloc (wX ms0)) :=
  two_start (O := whlO) (R := rdrW) hp (fun k hk => Nat.le_of_eq hk.symm) hb (wzero_any w1) (fun k hk => Nat.le_of_eq hk.symm) ((Below.refl _ w1).alloc (Nat.le_refl _) _) (fun K => RdK.nil 2 _ K)
theorem fv_ret2 {P : Program} {fn : Func} {R : Ending → World → Prop} {A : Act} {w : World} {i : Nat} {v : Value} (hr : fn.results = #[.tmp i]) (hv : sl A.tmps i = v) (hd : A.defers = []) (hR : R (.returned v) w) : bodyPost P fn R .ret A w :=
  fv_ret hr hv hd hR
theorem inBlock_x {Q : Exit → Act → World → Prop} {a : Act} {w : World} {id : Nat} (h : Q .normal a w) : Exit.inBlock id Q (.exit id) a w := by
  unfold Exit.inBlock; simpa using h

set_option maxRecDepth 100000 in
set_option maxHeartbeats 16000000 in
theorem walk (a0 : Option Addr) (len0 cap0 : Nat) (a1 : Int) (w : World) (w0 : Has w (.slice (.pair (.int .i64) (.pair (.int .i64) (.pair (.int .i64) .unit)))) [.slice a0 len0 cap0]) (w1 : (Lit.int .i64 a1).wf = true) :
    Calls Try.prog 3 #[.slice a0 len0 cap0, .int .i64 a1] w fun e w' => e = .returned (.bool true) ∧ Below w.heap.size w w' := by
  obtain ⟨acts, hlen, hok, hat⟩ := dacts_came w0
  subst hlen
  have HOK := Lib.hid hok
  have HA0 := Lib.hid hat
  have hid := wf_in w1
  clear hok hat w0 w1
  have AW := Lib.hid fun w => wheel_awake w
  by_cases hg : 100 < acts.length
  · have d1 : decide ((100 : Int) < (acts.length : Int)) = true := decide_eq_true (by omega)
    have d2 : decide (100 < acts.length) = true := decide_eq_true hg
    clear hid
    go_enter Try.func3, Try.ntmps3
    go_wp2_with fail
    refine (AW.out _).mono ?_; rintro e wy ⟨rfl, hb⟩
    have HF := Lib.hid hb
    clear hb
    go_wp2_with fail
    go_ret
    exact ⟨rfl, HF.out⟩
  · have d1 : decide ((100 : Int) < (acts.length : Int)) = false := decide_eq_false (by omega)
    have d2 : decide (100 < acts.length) = false := decide_eq_false hg
    have NW := Lib.hid fun w => wnew_any w
    have NA := Lib.hid fun w => nwat_any a1 w hid
    have ND := Lib.hid fun w => nwdrop_any a1 w hid
    have HID := Lib.hid hid
    clear hid
    go_enter Try.func3, Try.ntmps3
    go_wp2_with fail
    refine (NW.out _).mono ?_; rintro e w1 ⟨rfl, hp, hbn⟩
    have HI := Lib.hid (two_begin hp hbn)
    clear hp hbn NW
    go_wp2_with fail
    have h100 : acts.length ≤ 100 := by omega
    clear hg d1 d2
    refine wloop _ _ w _ cap0 w.heap.size w1.heap.size a1 a0 acts h100 HID.out HA0.out HOK.out ⟨rfl, rfl, rfl, rfl, rfl, rfl⟩ rfl rfl HI.out (fun A w' row l L hI => ?_)
    have HB := Lib.hid (Two.bel hI)
    obtain ⟨bs, bd, l0, l1, l5, l6⟩ := L
    have f1 := sl_get l1
    clear l0 l1 l5 l6 hI HI HA0 HOK HID
    have NX := Lib.hid fun w => nwnext_any w
    have NS := Lib.hid fun w => nwset_any 1 1 w
    have NU := Lib.hid fun w => nwdue_any 9 w
    have NL := Lib.hid fun w => nwlen_any w
    repeat first | with_reducible refine inBlock_x ?_ | with_reducible refine then_q ?_
    go_wp2_with fail
    refine (NA.out _).mono ?_; rintro e w3 ⟨rfl, b3⟩
    replace HB := Lib.hid (HB.out.trans (b3.mono HB.out.size))
    clear b3 NA
    go_wp2_with fail
    refine (NX.out _).mono ?_; rintro e w4 ⟨rfl, b4⟩
    replace HB := Lib.hid (HB.out.trans (b4.mono HB.out.size))
    clear b4 NX
    go_wp2_with fail
    refine (NS.out _).mono ?_; rintro e w5 ⟨rfl, rfl⟩
    clear NS
    go_wp2_with fail
    refine (ND.out _).mono ?_; rintro e w6 ⟨rfl, b6⟩
    replace HB := Lib.hid (HB.out.trans (b6.mono HB.out.size))
    clear b6 ND
    go_wp2_with fail
    refine (NU.out _).mono ?_; rintro e w7 ⟨rfl, b7⟩
    replace HB := Lib.hid (HB.out.trans (b7.mono HB.out.size))
    clear b7 NU
    go_wp2_with fail
    refine (NL.out _).mono ?_; rintro e w8 ⟨rfl, b8⟩
    replace HB := Lib.hid (HB.out.trans (b8.mono HB.out.size))
    clear b8 NL
    go_wp2_with fail
    refine (AW.out _).mono ?_; rintro e w9 ⟨rfl, b9⟩
    have HB9 := Lib.hid (HB.out.trans (b9.mono HB.out.size))
    clear b9 HB
    go_wp2_with fail
    refine fv_ret2 (i := 4) (v := .bool true) (by kernel_rfl) ?_ ?_ ⟨rfl, HB9.out⟩
    · repeat first | rw [sl_ne _ (by decide)] | rw [sl_eq _ (by simp only [Array.size_setIfInBounds, bs]; decide)]
    · first | rfl | exact bd

set_option maxRecDepth 100000 in
theorem lifted (os : Os) (started : os.Started) (H : Type) (enc : TypeId × Value → H) :
    ReturnsInHanded {} Try.checked os 3 .any (Rows.wheelPlaysSpec.pre6 enc Try.prog Try.f3 Rows.wheelPlaysRow.domain false) (Rows.wheelPlaysSpec.post enc Try.prog Try.f3 false true false false) := by
  refine returnsInHanded_of_change (C := Try.checked) own started (by kernel_rfl) Try.func3
    (ChangeSpec.witness6 (enc := enc) (C := Try.checked) false ⟨#[], #[.slice none 0 0, .int .i64 0], []⟩ 8 (by kernel_rfl) (by kernel_rfl) (by kernel_rfl) (by kernel_rfl)) ?_
  intro W base args ds gs before hval0 hW hcnd _
  have hval : ∀ (j : Nat) t v, Try.f3.params[j]? = some t → args[j]? = some v → Value.okWide Try.prog W .any base t v := hval0
  have hW' := hW
  obtain ⟨p, q, hA0, hV, rfl, hfz, hnd⟩ := hW
  have hA : DataW.TrodAll enc Try.prog W 0 (fun _ => true) true Try.f3.params.toList args.toList ds p := hA0
  rw [Try.params3] at hA hval
  obtain ⟨v0, vs0, d0, ds0, p0, q0, hargs, rfl, rfl, h0, r0⟩ := trodAll_cons hA
  obtain ⟨v1, vs1, d1, ds1, p1, q1, rfl, rfl, rfl, h1, r1⟩ := trodAll_cons r0
  obtain ⟨rfl, rfl, rfl⟩ := trodAll_nil r1
  obtain rfl : args = #[v0, v1] := by cases args; simp_all
  obtain ⟨rfl, rfl⟩ := trodVars_none hV
  obtain ⟨a0, len0, cap0, rfl⟩ := okWide_slice Try.underlying22 (hval 0 22 v0 rfl rfl)
  have k0 := h0
  have lt0 : ∀ x ∈ p0, x.block < W.heap.size := by obtain ⟨m, hm⟩ := k0; exact DataW.trod_lt m _ _ _ hm
  have w0 : Has W (.slice (.pair (.int .i64) (.pair (.int .i64) (.pair (.int .i64) .unit)))) [.slice a0 len0 cap0] := by obtain ⟨m, hm⟩ := h0; exact op22 _ _ _ _ _ _ _ _ _ hm
  obtain ⟨a1, rfl, rfl, rfl, w1⟩ := open_int Try.underlying3 (hval 1 3 v1 rfl rfl) h1
  clear hA0 hval0
  refine (walk a0 len0 cap0 a1 W w0 w1).mono fun e W' ⟨he, bel⟩ => ?_
  subst he
  exact ⟨_, rfl, _, _, _, [], _, [], hW', trodAll_mk1 (shut_bool Try.underlying4 _), (trodAll_cons_mk (Below.trod laidOut (by kernel_rfl) (of_decide_eq_true (by kernel_rfl)) k0 bel lt0) (trodAll_cons_mk (shut_int Try.underlying3 w1) trodAll_mk0)), rfl, bel.frame _, fun h => by cases h⟩

theorem over : Rows.wheelPlaysRow.holds Try.pinned (OpenSpec.ofChange Rows.wheelPlaysSpec) :=
  OpenClaim.holds_of_wide 3 Try.f3 rfl rfl rfl rfl rfl rfl rfl ⟨rfl, rfl, rfl, rfl, rfl⟩ rfl rfl rfl rfl rfl (by kernel_rfl) Try.func3 (by kernel_rfl)
    (of_decide_eq_true (by kernel_rfl)) (by unfold Func.isWrapper; first | (rw [if_pos (by decide +kernel)]; kernel_rfl) | (rw [if_neg (by decide +kernel)]; exact ⟨rfl, rfl⟩))
    (fun os started H enc _ => lifted os started H enc)

/-- ████ THE STATEMENT ████ -/
theorem proved : Rows.WheelPlaysSaid := over
end Go.Proofs.Ytpdlpnfaclpgbaa.wheelPlays
