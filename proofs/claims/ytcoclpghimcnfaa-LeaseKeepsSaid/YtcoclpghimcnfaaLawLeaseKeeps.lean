/- The law LeaseKeeps of the repository answers true for every input. No conditions. -/
import Derived.Test.YtcoclpghimcnfaaLkpE
import Derived.Deep.DeepCutAuto
import Derived.Deep.LoopGhost
import Derived.Deep.CutBlock
import Derived.StillTailTactics
import Derived.Test.YtcoclpghimcnfaaRows
import Derived.WalkKit
import Derived.ProofKit
import Derived.OpenShut
import Derived.Below
import Derived.ShutString
import Derived.Carry
import Derived.Test.YtcoclpghimcnfaaArgs
namespace Go.Proofs.Ytcoclpghimcnfaa.leaseKeeps
open Go.ChangeShapes Go.WideShapes Go.ChangeAt Go.RowKit
open Go.ChangeMaps (open_string shut_string)
set_option linter.unusedVariables false
set_option linter.unusedSimpArgs false

theorem own : ownKnob Try.prog.godebug = none := by kernel_rfl
theorem laidOut : laidOutB Try.prog = true := by kernel_rfl
theorem op3 : Opens Try.prog 3 (.int .i64) := opens_int Try.underlying3
theorem op35 : Opens Try.prog 35 (.pair (.int .i64) (.pair (.int .i64) (.pair (.int .i64) (.pair (.int .i64) .unit)))) := opens_struct Try.underlying35 (by kernel_rfl) (fields_cons rfl (by kernel_rfl) op3 (fields_cons rfl (by kernel_rfl) op3 (fields_cons rfl (by kernel_rfl) op3 (fields_cons rfl (by kernel_rfl) op3 fields_nil))))
theorem op22 : Opens Try.prog 22 (.slice (.pair (.int .i64) (.pair (.int .i64) (.pair (.int .i64) (.pair (.int .i64) .unit))))) := opens_slice Try.underlying22 (by kernel_rfl) (by decide) op35

set_option maxRecDepth 100000 in
set_option maxHeartbeats 16000000 in
theorem walk (a0 : Int) (a1 : Option Addr) (len1 cap1 : Nat) (w : World) (w0 : (Lit.int .u8 a0).wf = true) (w1 : Has w (.slice (.pair (.int .i64) (.pair (.int .i64) (.pair (.int .i64) (.pair (.int .i64) .unit))))) [.slice a1 len1 cap1]) :
    Calls Try.prog 6 #[.int .u8 a0, .slice a1 len1 cap1] w fun e w' => e = .returned (.bool true) ∧ Below w.heap.size w w' := by
  obtain ⟨ls, hlen, hok, hat⟩ := eacts_came w1
  subst hlen
  have hb0 := bounds_u8 w0
  have HL := Lib.hid hat
  clear hok hat w0 w1
  have AW := Lib.hid fun w => lease_awake w
  by_cases hg : 100 < ls.length
  · have d1 : decide ((100 : Int) < (ls.length : Int)) = true := decide_eq_true (by omega)
    have d2 : decide (100 < ls.length) = true := decide_eq_true hg
    have d3 : decide ((ls.length : Int) > 100) = true := d1
    go_enter Try.func6, Try.ntmps6
    go_wp2_with fail
    refine (AW.out _).mono ?_; rintro e wy ⟨rfl, hb⟩
    have HF := Lib.hid hb
    clear hb
    go_wp2_with fail
    go_ret
    exact ⟨rfl, HF.out⟩
  · have d1 : decide ((100 : Int) < (ls.length : Int)) = false := decide_eq_false (by omega)
    have d2 : decide (100 < ls.length) = false := decide_eq_false hg
    have d3 : decide ((ls.length : Int) > 100) = false := d1
    have NW := Lib.hid fun n h1 h2 => lnew_any n h1 h2 w
    go_enter Try.func6, Try.ntmps6
    go_wp2_with fail
    refine (NW.out _ ?_ ?_).mono ?_
    · omega
    · omega
    rintro e w1 ⟨b, F, rfl, hp, hF, hb⟩
    have HI := Lib.hid (ob_start (O := leaO) (wL := w) hp hF hb)
    clear hp hF hb NW
    go_wp2_with fail
    have h100 : ls.length ≤ 100 := by omega
    clear hg d1 d2 d3
    refine kloop _ _ w _ cap1 b _ a1 ls h100 HL.out ⟨rfl, rfl, rfl, rfl⟩ rfl HI.out (fun A w' x' L hI => ?_)
    have HB := Lib.hid hI.bel
    obtain ⟨bs, bd, l1, l5⟩ := L
    clear l1 l5 hI HI HL
    repeat first | with_reducible refine inBlock_x ?_ | with_reducible refine then_q ?_
    go_wp2_with fail
    refine (AW.out _).mono ?_; rintro e w9 ⟨rfl, b9⟩
    have HB9 := Lib.hid (HB.out.trans (b9.mono HB.out.size))
    clear b9 HB
    go_wp2_with fail
    refine fv_ret2 (i := 4) (v := .bool true) (by kernel_rfl) ?_ ?_ ⟨rfl, HB9.out⟩
    · repeat first | rw [sl_ne _ (by decide)] | rw [sl_eq _ (by simp only [Array.size_setIfInBounds, bs]; decide)]
    · first | rfl | exact bd

set_option maxRecDepth 100000 in
theorem lifted (os : Os) (started : os.Started) (H : Type) (enc : TypeId × Value → H) :
    ReturnsInHanded {} Try.checked os 6 .any (Rows.leaseKeepsSpec.pre6 enc Try.prog Try.f6 Rows.leaseKeepsRow.domain false) (Rows.leaseKeepsSpec.post enc Try.prog Try.f6 false true false false) := by
  refine returnsInHanded_of_change (C := Try.checked) own started (by kernel_rfl) Try.func6
    (ChangeSpec.witness6 (enc := enc) (C := Try.checked) false ⟨#[], #[.int .u8 0, .slice none 0 0], []⟩ 8 (by kernel_rfl) (by kernel_rfl) (by kernel_rfl) (by kernel_rfl)) ?_
  intro W base args ds gs before hval0 hW hcnd _
  have hval : ∀ (j : Nat) t v, Try.f6.params[j]? = some t → args[j]? = some v → Value.okWide Try.prog W .any base t v := hval0
  have hW' := hW
  obtain ⟨p, q, hA0, hV, rfl, hfz, hnd⟩ := hW
  have hA : DataW.TrodAll enc Try.prog W 0 (fun _ => true) true Try.f6.params.toList args.toList ds p := hA0
  rw [Try.params6] at hA hval
  obtain ⟨v0, vs0, d0, ds0, p0, q0, hargs, rfl, rfl, h0, r0⟩ := trodAll_cons hA
  obtain ⟨v1, vs1, d1, ds1, p1, q1, rfl, rfl, rfl, h1, r1⟩ := trodAll_cons r0
  obtain ⟨rfl, rfl, rfl⟩ := trodAll_nil r1
  obtain rfl : args = #[v0, v1] := by cases args; simp_all
  obtain ⟨rfl, rfl⟩ := trodVars_none hV
  obtain ⟨a0, rfl, rfl, rfl, w0⟩ := open_int Try.underlying5 (hval 0 5 v0 rfl rfl) h0
  obtain ⟨a1, len1, cap1, rfl⟩ := okWide_slice Try.underlying22 (hval 1 22 v1 rfl rfl)
  have k1 := h1
  have lt1 : ∀ x ∈ p1, x.block < W.heap.size := by obtain ⟨m, hm⟩ := k1; exact DataW.trod_lt m _ _ _ hm
  have w1 : Has W (.slice (.pair (.int .i64) (.pair (.int .i64) (.pair (.int .i64) (.pair (.int .i64) .unit))))) [.slice a1 len1 cap1] := by obtain ⟨m, hm⟩ := h1; exact op22 _ _ _ _ _ _ _ _ _ hm
  clear hA0 hval0
  refine (walk a0 a1 len1 cap1 W w0 w1).mono fun e W' ⟨he, bel⟩ => ?_
  subst he
  exact ⟨_, rfl, _, _, _, [], _, [], hW', trodAll_mk1 (shut_bool Try.underlying4 _), (trodAll_cons_mk (shut_int Try.underlying5 w0) (trodAll_cons_mk (Below.trod laidOut (by kernel_rfl) (of_decide_eq_true (by kernel_rfl)) k1 bel lt1) trodAll_mk0)), rfl, bel.frame _, fun h => by cases h⟩

theorem over : Rows.leaseKeepsRow.holds Try.pinned (OpenSpec.ofChange Rows.leaseKeepsSpec) :=
  OpenClaim.holds_of_wide 6 Try.f6 rfl rfl rfl rfl rfl rfl rfl ⟨rfl, rfl, rfl, rfl, rfl⟩ rfl rfl rfl rfl rfl (by kernel_rfl) Try.func6 (by kernel_rfl)
    (of_decide_eq_true (by kernel_rfl)) (by unfold Func.isWrapper; first | (rw [if_pos (by decide +kernel)]; kernel_rfl) | (rw [if_neg (by decide +kernel)]; exact ⟨rfl, rfl⟩))
    (fun os started H enc _ => lifted os started H enc)

/-- ████ THE STATEMENT ████ -/
theorem proved : Rows.LeaseKeepsSaid := over
end Go.Proofs.Ytcoclpghimcnfaa.leaseKeeps
