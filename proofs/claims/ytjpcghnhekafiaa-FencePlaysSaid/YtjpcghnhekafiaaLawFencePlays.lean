/- The law FencePlays of the repository answers true for every input. No conditions. -/
import Derived.Test.YtjpcghnhekafiaaFplE
import Derived.Deep.DeepCutAuto
import Derived.Deep.LoopGhost
import Derived.Deep.CutBlock
import Derived.StillTailTactics
import Derived.Test.YtjpcghnhekafiaaRows
import Derived.WalkKit
import Derived.ProofKit
import Derived.OpenShut
import Derived.Below
import Derived.ShutString
import Derived.Carry
import Derived.Test.YtjpcghnhekafiaaArgs
namespace Go.Proofs.Ytjpcghnhekafiaa.fencePlays
open Go.ChangeShapes Go.WideShapes Go.ChangeAt Go.RowKit
open Go.ChangeMaps (open_string shut_string)
set_option linter.unusedVariables false
set_option linter.unusedSimpArgs false

theorem own : ownKnob Try.prog.godebug = none := by kernel_rfl
theorem laidOut : laidOutB Try.prog = true := by kernel_rfl
theorem op3 : Opens Try.prog 3 (.int .i64) := opens_int Try.underlying3
theorem op22 : Opens Try.prog 22 (.slice (.int .i64)) := opens_slice Try.underlying22 (by kernel_rfl) (by decide) op3

theorem fp_begin {wL w1 : World} {F : Nat → Prop} {v : Value} (hp : fenO.P F v fen0 w1) (hF : ∀ k, F k → wL.heap.size ≤ k) (hb : Below wL.heap.size wL w1) :
    TF wL [(w1.heap.size + 1, feX fen0)] v fen0 w1.heap.size fen0 ((w1.alloc (.cells zfnC 34)).alloc (feX fen0)) := by
  have h := (tb_start (R := rdrU) (row := .tuple #[]) (l3 := ()) hp hF hb (fen_zero w1) (fun k hk => Nat.le_of_eq hk.symm) ((Below.refl _ w1).alloc (Nat.le_refl _) _) (fun _ => trivial)).new (feX fen0)
  rwa [show (w1.alloc (.cells zfnC 34)).heap.size = w1.heap.size + 1 by simp] at h

set_option maxRecDepth 100000 in
set_option maxHeartbeats 16000000 in
theorem walk (a0 : Option Addr) (len0 cap0 : Nat) (w : World) (w0 : Has w (.slice (.int .i64)) [.slice a0 len0 cap0]) :
    Calls Try.prog 3 #[.slice a0 len0 cap0] w fun e w' => e = .returned (.bool true) ∧ Below w.heap.size w w' := by
  obtain ⟨ls, hlen, hok, hat⟩ := ints_came w0
  subst hlen
  have HA := Lib.hid hat
  have HOK := Lib.hid hok
  clear hok hat w0
  have AW := Lib.hid fun w => fence_awake w
  by_cases hg : 100 < ls.length
  · have d1 : decide ((100 : Int) < (ls.length : Int)) = true := decide_eq_true (by omega)
    have d2 : decide (100 < ls.length) = true := decide_eq_true hg
    have d3 : decide ((ls.length : Int) > 100) = true := d1
    go_enter Try.func3, Try.ntmps3
    go_wp2_with fail
    refine (AW.out _).mono ?_; rintro e wy ⟨rfl, hb⟩
    have HF := Lib.hid hb
    clear hb
    go_wp2_with fail
    go_ret
    exact ⟨rfl, HF.out⟩
  · have d1 : decide ((100 : Int) < (ls.length : Int)) = false := decide_eq_false (by omega)
    have d2 : decide (100 < ls.length) = false := decide_eq_false hg
    have d3 : decide ((ls.length : Int) > 100) = false := d1
    have h100 : ls.length ≤ 100 := by omega
    have NW := Lib.hid (fnew_any w)
    clear hg
    go_enter Try.func3, Try.ntmps3
    go_wp2_with fail
    refine NW.out.mono ?_; rintro e w1 ⟨b, F, rfl, hp, hF, hb⟩
    have HI := Lib.hid (fp_begin hp hF hb)
    unfold feX zfnC fen0 at HI
    clear hp hF hb NW
    go_wp2_with fail
    clear d1 d2 d3
    refine floop _ _ w _ cap0 w1.heap.size (w1.heap.size + 1) (.pointer (some ⟨b, 0, none⟩)) a0 ls h100 HOK.out HA.out ⟨rfl, rfl, rfl, rfl, rfl, rfl, rfl⟩ rfl HI.out (fun A w' x L hI => ?_)
    have HB := Lib.hid (TB.bel hI)
    have NP := Lib.hid fun w => nfpassed_any w
    have NE := Lib.hid fun w => nfepoch_any w
    have q0 : IntKind.i64.wrap (0 : Int) = 0 := by decide
    obtain ⟨bs, bd, l0, l3, l4, l5, l6⟩ := L
    have f5 := sl_get l5
    clear l0 l3 l4 l5 l6 hI HI HA HOK
    repeat first | with_reducible refine inBlock_x ?_ | with_reducible refine then_q ?_
    go_wp2_with fail
    refine (NP.out _).mono ?_; rintro e w3 ⟨rfl, b3⟩
    replace HB := Lib.hid (HB.out.trans (b3.mono HB.out.size))
    clear b3 NP
    go_wp2_with fail
    refine (NE.out _).mono ?_; rintro e w4 ⟨rfl, b4⟩
    replace HB := Lib.hid (HB.out.trans (b4.mono HB.out.size))
    clear b4 NE
    go_wp2_with fail
    refine (AW.out _).mono ?_; rintro e w9 ⟨rfl, b9⟩
    have HB9 := Lib.hid (HB.out.trans (b9.mono HB.out.size))
    clear b9 HB
    go_wp2_with fail
    refine fv_ret2 (i := 2) (v := .bool true) (by kernel_rfl) ?_ ?_ ⟨rfl, HB9.out⟩
    · repeat first | rw [sl_ne _ (by decide)] | rw [sl_eq _ (by simp only [Array.size_setIfInBounds, bs]; decide)]
    · first | rfl | exact bd

set_option maxRecDepth 100000 in
theorem lifted (os : Os) (started : os.Started) (H : Type) (enc : TypeId × Value → H) :
    ReturnsInHanded {} Try.checked os 3 .any (Rows.fencePlaysSpec.pre6 enc Try.prog Try.f3 Rows.fencePlaysRow.domain false) (Rows.fencePlaysSpec.post enc Try.prog Try.f3 false true false false) := by
  refine returnsInHanded_of_change (C := Try.checked) own started (by kernel_rfl) Try.func3
    (ChangeSpec.witness6 (enc := enc) (C := Try.checked) false ⟨#[], #[.slice none 0 0], []⟩ 8 (by kernel_rfl) (by kernel_rfl) (by kernel_rfl) (by kernel_rfl)) ?_
  intro W base args ds gs before hval0 hW hcnd _
  have hval : ∀ (j : Nat) t v, Try.f3.params[j]? = some t → args[j]? = some v → Value.okWide Try.prog W .any base t v := hval0
  have hW' := hW
  obtain ⟨p, q, hA0, hV, rfl, hfz, hnd⟩ := hW
  have hA : DataW.TrodAll enc Try.prog W 0 (fun _ => true) true Try.f3.params.toList args.toList ds p := hA0
  rw [Try.params3] at hA hval
  obtain ⟨v0, vs0, d0, ds0, p0, q0, hargs, rfl, rfl, h0, r0⟩ := trodAll_cons hA
  obtain ⟨rfl, rfl, rfl⟩ := trodAll_nil r0
  obtain rfl : args = #[v0] := by cases args; simp_all
  obtain ⟨rfl, rfl⟩ := trodVars_none hV
  obtain ⟨a0, len0, cap0, rfl⟩ := okWide_slice Try.underlying22 (hval 0 22 v0 rfl rfl)
  have k0 := h0
  have lt0 : ∀ x ∈ p0, x.block < W.heap.size := by obtain ⟨m, hm⟩ := k0; exact DataW.trod_lt m _ _ _ hm
  have w0 : Has W (.slice (.int .i64)) [.slice a0 len0 cap0] := by obtain ⟨m, hm⟩ := h0; exact op22 _ _ _ _ _ _ _ _ _ hm
  clear hA0 hval0
  refine (walk a0 len0 cap0 W w0).mono fun e W' ⟨he, bel⟩ => ?_
  subst he
  exact ⟨_, rfl, _, _, _, [], _, [], hW', trodAll_mk1 (shut_bool Try.underlying4 _), (trodAll_cons_mk (Below.trod laidOut (by kernel_rfl) (of_decide_eq_true (by kernel_rfl)) k0 bel lt0) trodAll_mk0), rfl, bel.frame _, fun h => by cases h⟩

theorem over : Rows.fencePlaysRow.holds Try.pinned (OpenSpec.ofChange Rows.fencePlaysSpec) :=
  OpenClaim.holds_of_wide 3 Try.f3 rfl rfl rfl rfl rfl rfl rfl ⟨rfl, rfl, rfl, rfl, rfl⟩ rfl rfl rfl rfl rfl (by kernel_rfl) Try.func3 (by kernel_rfl)
    (of_decide_eq_true (by kernel_rfl)) (by unfold Func.isWrapper; first | (rw [if_pos (by decide +kernel)]; kernel_rfl) | (rw [if_neg (by decide +kernel)]; exact ⟨rfl, rfl⟩))
    (fun os started H enc _ => lifted os started H enc)

/-- ████ THE STATEMENT ████ -/
theorem proved : Rows.FencePlaysSaid := over
end Go.Proofs.Ytjpcghnhekafiaa.fencePlays
