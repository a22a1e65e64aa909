/- The law BeatApart of the repository answers true for every input. No conditions. -/
import Derived.Test.YtdlkpkigpnlanaaBapE
import Derived.Deep.DeepCutAuto
import Derived.Deep.LoopGhost
import Derived.Deep.CutBlock
import Derived.StillTailTactics
import Derived.Test.YtdlkpkigpnlanaaRows
import Derived.WalkKit
import Derived.ProofKit
import Derived.OpenShut
import Derived.Below
import Derived.ShutString
import Derived.Carry
import Derived.Test.YtdlkpkigpnlanaaArgs
namespace Go.Proofs.Ytdlkpkigpnlanaa.beatApart
open Go.ChangeShapes Go.WideShapes Go.ChangeAt Go.RowKit
open Go.ChangeMaps (open_string shut_string)
set_option linter.unusedVariables false
set_option linter.unusedSimpArgs false

theorem own : ownKnob Try.prog.godebug = none := by kernel_rfl
theorem laidOut : laidOutB Try.prog = true := by kernel_rfl
theorem op3 : Opens Try.prog 3 (.int .i64) := opens_int Try.underlying3
theorem op39 : Opens Try.prog 39 (.pair (.int .i64) (.pair (.int .i64) (.pair (.int .i64) (.pair (.int .i64) .unit)))) := opens_struct Try.underlying39 (by kernel_rfl) (fields_cons rfl (by kernel_rfl) op3 (fields_cons rfl (by kernel_rfl) op3 (fields_cons rfl (by kernel_rfl) op3 (fields_cons rfl (by kernel_rfl) op3 fields_nil))))
theorem op22 : Opens Try.prog 22 (.slice (.pair (.int .i64) (.pair (.int .i64) (.pair (.int .i64) (.pair (.int .i64) .unit))))) := opens_slice Try.underlying22 (by kernel_rfl) (by decide) op39

theorem ba_begin {wL w1 w2 : World} {F F' : Nat → Prop} {v1 v2 : Value} {x y : Tv} (hp : beaO.P F v1 x w1) (hF : ∀ k, F k → wL.heap.size ≤ k) (hb : Below wL.heap.size wL w1) (hp2 : beaO.P F' v2 y w2) (hF2 : ∀ k, F' k → w1.heap.size ≤ k) (hb2 : Below w1.heap.size w1 w2) : TQ wL [] v1 x v2 y w2 :=
  ⟨.slice none 0 0, [], tb_start hp hF hb hp2 hF2 hb2 fun K => RdK.nil 3 _ K⟩

set_option maxRecDepth 100000 in
set_option maxHeartbeats 16000000 in
theorem walk (a0 : Option Addr) (len0 cap0 : Nat) (a1 : Int) (w : World) (w0 : Has w (.slice (.pair (.int .i64) (.pair (.int .i64) (.pair (.int .i64) (.pair (.int .i64) .unit))))) [.slice a0 len0 cap0]) (w1 : (Lit.int .i64 a1).wf = true) :
    Calls Try.prog 5 #[.slice a0 len0 cap0, .int .i64 a1] w fun e w' => e = .returned (.bool true) ∧ Below w.heap.size w w' := by
  obtain ⟨ls, hlen, hok, hat⟩ := eacts_came w0
  subst hlen
  have HL := Lib.hid hat
  have HOK := Lib.hid hok
  clear hok hat w0 w1
  have AW := Lib.hid fun w => beat_awake w
  by_cases hg : 100 < ls.length
  · have d1 : decide ((100 : Int) < (ls.length : Int)) = true := decide_eq_true (by omega)
    have d2 : decide (100 < ls.length) = true := decide_eq_true hg
    have d3 : decide ((ls.length : Int) > 100) = true := d1
    go_enter Try.func5, Try.ntmps5
    go_wp2_with fail
    refine (AW.out _).mono ?_; rintro e wy ⟨rfl, hb⟩
    have HF := Lib.hid hb
    clear hb
    go_wp2_with fail
    go_ret
    exact ⟨rfl, HF.out⟩
  · have d1 : decide ((100 : Int) < (ls.length : Int)) = false := decide_eq_false (by omega)
    have d2 : decide (100 < ls.length) = false := decide_eq_false hg
    have d3 : decide ((ls.length : Int) > 100) = false := d1
    have n5 : newT 5 = (5, 0) := by kernel_rfl
    have NW := Lib.hid fun w => ta_new 5 w
    rw [n5] at NW
    clear n5
    go_enter Try.func5, Try.ntmps5
    go_wp2_with fail
    refine (NW.out _).mono ?_; rintro e w1 ⟨p, F, rfl, hp, hpn, hpa, hF, hb⟩
    cases p with
    | none => exact absurd (hpn.1 rfl) (by decide)
    | some a =>
      have H1 := Lib.hid (And.intro hp (And.intro hF hb))
      clear hp hF hb hpn hpa
      go_wp2_with fail
      refine (NW.out _).mono ?_; rintro e w2 ⟨p, F2, rfl, hp, hpn, hpa, hF, hb⟩
      cases p with
      | none => exact absurd (hpn.1 rfl) (by decide)
      | some b =>
        have HI := Lib.hid (ba_begin H1.out.1 H1.out.2.1 H1.out.2.2 hp hF hb)
        clear hp hF hb hpn hpa H1 NW
        go_wp2_with fail
        have h100 : ls.length ≤ 100 := by omega
        clear hg d1 d2 d3
        refine aloop _ _ w _ cap0 a1 (.pointer (some a)) (.pointer (some b)) a0 ls h100 HL.out HOK.out ⟨rfl, rfl, rfl, rfl, rfl, rfl⟩ rfl HI.out (fun A w' l' L hI => ?_)
        have HB := Lib.hid hI.bel
        obtain ⟨bs, bd, l0, l1, l5, l7⟩ := L
        clear l0 l1 l5 l7 hI HI HL HOK
        repeat first | with_reducible refine inBlock_x ?_ | with_reducible refine then_q ?_
        go_wp2_with fail
        refine (AW.out _).mono ?_; rintro e w9 ⟨rfl, b9⟩
        have HB9 := Lib.hid (HB.out.trans (b9.mono HB.out.size))
        clear b9 HB
        go_wp2_with fail
        refine fv_ret2 (i := 4) (v := .bool true) (by kernel_rfl) ?_ ?_ ⟨rfl, HB9.out⟩
        · repeat first | rw [sl_ne _ (by decide)] | rw [sl_eq _ (by simp only [Array.size_setIfInBounds, bs]; decide)]
        · first | rfl | exact bd

set_option maxRecDepth 100000 in
theorem lifted (os : Os) (started : os.Started) (H : Type) (enc : TypeId × Value → H) :
    ReturnsInHanded {} Try.checked os 5 .any (Rows.beatApartSpec.pre6 enc Try.prog Try.f5 Rows.beatApartRow.domain false) (Rows.beatApartSpec.post enc Try.prog Try.f5 false true false false) := by
  refine returnsInHanded_of_change (C := Try.checked) own started (by kernel_rfl) Try.func5
    (ChangeSpec.witness6 (enc := enc) (C := Try.checked) false ⟨#[], #[.slice none 0 0, .int .i64 0], []⟩ 8 (by kernel_rfl) (by kernel_rfl) (by kernel_rfl) (by kernel_rfl)) ?_
  intro W base args ds gs before hval0 hW hcnd _
  have hval : ∀ (j : Nat) t v, Try.f5.params[j]? = some t → args[j]? = some v → Value.okWide Try.prog W .any base t v := hval0
  have hW' := hW
  obtain ⟨p, q, hA0, hV, rfl, hfz, hnd⟩ := hW
  have hA : DataW.TrodAll enc Try.prog W 0 (fun _ => true) true Try.f5.params.toList args.toList ds p := hA0
  rw [Try.params5] at hA hval
  obtain ⟨v0, vs0, d0, ds0, p0, q0, hargs, rfl, rfl, h0, r0⟩ := trodAll_cons hA
  obtain ⟨v1, vs1, d1, ds1, p1, q1, rfl, rfl, rfl, h1, r1⟩ := trodAll_cons r0
  obtain ⟨rfl, rfl, rfl⟩ := trodAll_nil r1
  obtain rfl : args = #[v0, v1] := by cases args; simp_all
  obtain ⟨rfl, rfl⟩ := trodVars_none hV
  obtain ⟨a0, len0, cap0, rfl⟩ := okWide_slice Try.underlying22 (hval 0 22 v0 rfl rfl)
  have k0 := h0
  have lt0 : ∀ x ∈ p0, x.block < W.heap.size := by obtain ⟨m, hm⟩ := k0; exact DataW.trod_lt m _ _ _ hm
  have w0 : Has W (.slice (.pair (.int .i64) (.pair (.int .i64) (.pair (.int .i64) (.pair (.int .i64) .unit))))) [.slice a0 len0 cap0] := by obtain ⟨m, hm⟩ := h0; exact op22 _ _ _ _ _ _ _ _ _ hm
  obtain ⟨a1, rfl, rfl, rfl, w1⟩ := open_int Try.underlying3 (hval 1 3 v1 rfl rfl) h1
  clear hA0 hval0
  refine (walk a0 len0 cap0 a1 W w0 w1).mono fun e W' ⟨he, bel⟩ => ?_
  subst he
  exact ⟨_, rfl, _, _, _, [], _, [], hW', trodAll_mk1 (shut_bool Try.underlying4 _), (trodAll_cons_mk (Below.trod laidOut (by kernel_rfl) (of_decide_eq_true (by kernel_rfl)) k0 bel lt0) (trodAll_cons_mk (shut_int Try.underlying3 w1) trodAll_mk0)), rfl, bel.frame _, fun h => by cases h⟩

theorem over : Rows.beatApartRow.holds Try.pinned (OpenSpec.ofChange Rows.beatApartSpec) :=
  OpenClaim.holds_of_wide 5 Try.f5 rfl rfl rfl rfl rfl rfl rfl ⟨rfl, rfl, rfl, rfl, rfl⟩ rfl rfl rfl rfl rfl (by kernel_rfl) Try.func5 (by kernel_rfl)
    (of_decide_eq_true (by kernel_rfl)) (by unfold Func.isWrapper; first | (rw [if_pos (by decide +kernel)]; kernel_rfl) | (rw [if_neg (by decide +kernel)]; exact ⟨rfl, rfl⟩))
    (fun os started H enc _ => lifted os started H enc)

/-- ████ THE STATEMENT ████ -/
theorem proved : Rows.BeatApartSaid := over
end Go.Proofs.Ytdlkpkigpnlanaa.beatApart
