/- The law ClockGoes of the repository answers true for every input. No conditions. -/
import Derived.Test.YtejepnjgkflooaaCplE
import Derived.Deep.DeepCutAuto
import Derived.Deep.LoopGhost
import Derived.Deep.CutBlock
import Derived.StillTailTactics
import Derived.Test.YtejepnjgkflooaaRows
import Derived.WalkKit
import Derived.ProofKit
import Derived.OpenShut
import Derived.Below
import Derived.ShutString
import Derived.Carry
import Derived.Test.YtejepnjgkflooaaArgs
namespace Go.Proofs.Ytejepnjgkflooaa.clockGoes
open Go.ChangeShapes Go.WideShapes Go.ChangeAt Go.RowKit
open Go.ChangeMaps (open_string shut_string)
set_option linter.unusedVariables false
set_option linter.unusedSimpArgs false

theorem own : ownKnob Try.prog.godebug = none := by kernel_rfl
theorem laidOut : laidOutB Try.prog = true := by kernel_rfl
theorem op3 : Opens Try.prog 3 (.int .i64) := opens_int Try.underlying3
theorem op22 : Opens Try.prog 22 (.slice (.int .i64)) := opens_slice Try.underlying22 (by kernel_rfl) (by decide) op3

theorem xi_begin {wL w1 : World} (hp : CP (fun k => k = wL.heap.size) (ptrB wL.heap.size) ck0 w1) (hb : Below wL.heap.size wL w1) :
    XI wL (w1.heap.size + 1) (ptrB wL.heap.size) ck0 (ptrB w1.heap.size) ck0 ck0 ((w1.alloc (clkX ck0)).alloc (.cells #[.int .i64 0, .bool false] 45)) := by
  have h2 := two_start (O := clkO) (R := rdr0) (row := undef) (l3 := ()) hp (fun k hk => Nat.le_of_eq hk.symm) hb (czero_any w1) (fun k hk => Nat.le_of_eq hk.symm) ((Below.refl _ w1).alloc (Nat.le_refl _) _) (fun K => trivial)
  have hs : (w1.alloc (clkX ck0)).heap.size = w1.heap.size + 1 := by simp
  refine ⟨h2.more ((Below.refl _ _).alloc (Nat.le_refl _) _) fun k hk => .inr ?_, ?_⟩
  · have : k = w1.heap.size + 1 := hk
    subst this
    simp
  · exact blk_new2 w1 _ _
theorem fv_ret2 {P : Program} {fn : Func} {R : Ending → World → Prop} {A : Act} {w : World} {i : Nat} {v : Value} (hr : fn.results = #[.tmp i]) (hv : sl A.tmps i = v) (hd : A.defers = []) (hR : R (.returned v) w) : bodyPost P fn R .ret A w :=
  fv_ret hr hv hd hR
theorem inBlock_x {Q : Exit → Act → World → Prop} {a : Act} {w : World} {id : Nat} (h : Q .normal a w) : Exit.inBlock id Q (.exit id) a w := by
  unfold Exit.inBlock; simpa using h

set_option maxRecDepth 100000 in
set_option maxHeartbeats 16000000 in
theorem walk (a0 : Option Addr) (len0 cap0 : Nat) (a1 : Int) (w : World) (w0 : Has w (.slice (.int .i64)) [.slice a0 len0 cap0]) (w1 : (Lit.int .u64 a1).wf = true) :
    Calls Try.prog 3 #[.slice a0 len0 cap0, .int .u64 a1] w fun e w' => e = .returned (.bool true) ∧ Below w.heap.size w w' := by
  obtain ⟨ls, hlen, hr, hin⟩ := rdI_came w0
  subst hlen
  have HL := Lib.hid (show ∀ k (hk : k < ls.length), ∃ b o, a0 = some ⟨b, o, none⟩ ∧ ∀ w', Below w.heap.size w w' → w'.cell? ⟨b, o + k, none⟩ = some (.int .i64 ls[k]) from fun k hk => by
    obtain ⟨b, o, h1, h2, _, h3⟩ := hr.at_ hk
    exact ⟨b, o, h1, fun w' hb => (hb.cell (p := ⟨b, o + k, none⟩) h2).trans (h3 k hk)⟩)
  clear hr hin w0 w1
  have AW := Lib.hid fun w => clock_awake w
  by_cases hg : 60 < ls.length
  · have d1 : decide ((60 : Int) < (ls.length : Int)) = true := decide_eq_true (by omega)
    have d2 : decide (60 < ls.length) = true := decide_eq_true hg
    have d3 : decide ((ls.length : Int) > 60) = true := d1
    go_enter Try.func3, Try.ntmps3
    go_wp2_with fail
    refine (AW.out _).mono ?_; rintro e wy ⟨rfl, hb⟩
    have HF := Lib.hid hb
    clear hb
    go_wp2_with fail
    go_ret
    exact ⟨rfl, HF.out⟩
  · have d1 : decide ((60 : Int) < (ls.length : Int)) = false := decide_eq_false (by omega)
    have d2 : decide (60 < ls.length) = false := decide_eq_false hg
    have d3 : decide ((ls.length : Int) > 60) = false := d1
    have NW := Lib.hid fun w => cnew_any w
    go_enter Try.func3, Try.ntmps3
    go_wp2_with fail
    refine (NW.out _).mono ?_; rintro e w1 ⟨rfl, hp, hbn⟩
    have HI := Lib.hid (xi_begin hp hbn)
    clear hp hbn NW
    go_wp2_with fail
    have h60 : ls.length ≤ 60 := by omega
    clear hg d1 d2 d3
    refine cloop _ _ w _ cap0 w.heap.size w1.heap.size (w1.heap.size + 1) a1 ck0 a0 ls h60 HL.out ⟨rfl, rfl, rfl, rfl, rfl, rfl, rfl⟩ rfl HI.out (fun A w' c L hI => ?_)
    have HB := Lib.hid hI.bel
    obtain ⟨bs, bd, l0, l1, l5, l6, l7⟩ := L
    clear l0 l1 l5 l6 l7 hI HI HL
    have N1 := Lib.hid fun w => ncnow_any w
    have N2 := Lib.hid fun w => nctick_any 5 w
    have N3 := Lib.hid fun w => ncstop_any w
    have N4 := Lib.hid fun w => ncstopped_any w
    repeat first | with_reducible refine inBlock_x ?_ | with_reducible refine then_q ?_
    go_wp2_with fail
    refine (N1.out _).mono ?_; rintro e w3 ⟨rfl, b3⟩
    replace HB := Lib.hid (HB.out.trans (b3.mono HB.out.size))
    clear b3 N1
    go_wp2_with fail
    refine (N2.out _).mono ?_; rintro e w4 ⟨rfl, b4⟩
    replace HB := Lib.hid (HB.out.trans (b4.mono HB.out.size))
    clear b4 N2
    go_wp2_with fail
    refine (N3.out _).mono ?_; rintro e w5 ⟨rfl, b5⟩
    replace HB := Lib.hid (HB.out.trans (b5.mono HB.out.size))
    clear b5 N3
    go_wp2_with fail
    refine (N4.out _).mono ?_; rintro e w6 ⟨rfl, b6⟩
    replace HB := Lib.hid (HB.out.trans (b6.mono HB.out.size))
    clear b6 N4
    go_wp2_with fail
    refine (AW.out _).mono ?_; rintro e w9 ⟨rfl, b9⟩
    have HB9 := Lib.hid (HB.out.trans (b9.mono HB.out.size))
    clear b9 HB
    go_wp2_with fail
    refine fv_ret2 (i := 4) (v := .bool true) (by kernel_rfl) ?_ ?_ ⟨rfl, HB9.out⟩
    · repeat first | rw [sl_ne _ (by decide)] | rw [sl_eq _ (by simp only [Array.size_setIfInBounds, bs]; decide)]
    · first | rfl | exact bd

set_option maxRecDepth 100000 in
theorem lifted (os : Os) (started : os.Started) (H : Type) (enc : TypeId × Value → H) :
    ReturnsInHanded {} Try.checked os 3 .any (Rows.clockGoesSpec.pre6 enc Try.prog Try.f3 Rows.clockGoesRow.domain false) (Rows.clockGoesSpec.post enc Try.prog Try.f3 false true false false) := by
  refine returnsInHanded_of_change (C := Try.checked) own started (by kernel_rfl) Try.func3
    (ChangeSpec.witness6 (enc := enc) (C := Try.checked) false ⟨#[], #[.slice none 0 0, .int .u64 0], []⟩ 8 (by kernel_rfl) (by kernel_rfl) (by kernel_rfl) (by kernel_rfl)) ?_
  intro W base args ds gs before hval0 hW hcnd _
  have hval : ∀ (j : Nat) t v, Try.f3.params[j]? = some t → args[j]? = some v → Value.okWide Try.prog W .any base t v := hval0
  have hW' := hW
  obtain ⟨p, q, hA0, hV, rfl, hfz, hnd⟩ := hW
  have hA : DataW.TrodAll enc Try.prog W 0 (fun _ => true) true Try.f3.params.toList args.toList ds p := hA0
  rw [Try.params3] at hA hval
  obtain ⟨v0, vs0, d0, ds0, p0, q0, hargs, rfl, rfl, h0, r0⟩ := trodAll_cons hA
  obtain ⟨v1, vs1, d1, ds1, p1, q1, rfl, rfl, rfl, h1, r1⟩ := trodAll_cons r0
  obtain ⟨rfl, rfl, rfl⟩ := trodAll_nil r1
  obtain rfl : args = #[v0, v1] := by cases args; simp_all
  obtain ⟨rfl, rfl⟩ := trodVars_none hV
  obtain ⟨a0, len0, cap0, rfl⟩ := okWide_slice Try.underlying22 (hval 0 22 v0 rfl rfl)
  have k0 := h0
  have lt0 : ∀ x ∈ p0, x.block < W.heap.size := by obtain ⟨m, hm⟩ := k0; exact DataW.trod_lt m _ _ _ hm
  have w0 : Has W (.slice (.int .i64)) [.slice a0 len0 cap0] := by obtain ⟨m, hm⟩ := h0; exact op22 _ _ _ _ _ _ _ _ _ hm
  obtain ⟨a1, rfl, rfl, rfl, w1⟩ := open_int Try.underlying23 (hval 1 23 v1 rfl rfl) h1
  clear hA0 hval0
  refine (walk a0 len0 cap0 a1 W w0 w1).mono fun e W' ⟨he, bel⟩ => ?_
  subst he
  exact ⟨_, rfl, _, _, _, [], _, [], hW', trodAll_mk1 (shut_bool Try.underlying4 _), (trodAll_cons_mk (Below.trod laidOut (by kernel_rfl) (of_decide_eq_true (by kernel_rfl)) k0 bel lt0) (trodAll_cons_mk (shut_int Try.underlying23 w1) trodAll_mk0)), rfl, bel.frame _, fun h => by cases h⟩

theorem over : Rows.clockGoesRow.holds Try.pinned (OpenSpec.ofChange Rows.clockGoesSpec) :=
  OpenClaim.holds_of_wide 3 Try.f3 rfl rfl rfl rfl rfl rfl rfl ⟨rfl, rfl, rfl, rfl, rfl⟩ rfl rfl rfl rfl rfl (by kernel_rfl) Try.func3 (by kernel_rfl)
    (of_decide_eq_true (by kernel_rfl)) (by unfold Func.isWrapper; first | (rw [if_pos (by decide +kernel)]; kernel_rfl) | (rw [if_neg (by decide +kernel)]; exact ⟨rfl, rfl⟩))
    (fun os started H enc _ => lifted os started H enc)

/-- ████ THE STATEMENT ████ -/
theorem proved : Rows.ClockGoesSaid := over
end Go.Proofs.Ytejepnjgkflooaa.clockGoes
