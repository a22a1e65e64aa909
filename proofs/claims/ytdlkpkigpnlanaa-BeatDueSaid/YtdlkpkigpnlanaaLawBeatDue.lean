/- The law BeatDue of the repository answers true for every input. No conditions. -/
import Derived.Test.YtdlkpkigpnlanaaBdlE
import Derived.Deep.DeepCutAuto
import Derived.Deep.LoopGhost
import Derived.Deep.CutBlock
import Derived.StillTailTactics
import Derived.Test.YtdlkpkigpnlanaaRows
import Derived.WalkKit
import Derived.ProofKit
import Derived.OpenShut
import Derived.Below
import Derived.ShutString
import Derived.Carry
import Derived.Test.YtdlkpkigpnlanaaArgs
namespace Go.Proofs.Ytdlkpkigpnlanaa.beatDue
open Go.ChangeShapes Go.WideShapes Go.ChangeAt Go.RowKit
open Go.ChangeMaps (open_string shut_string)
set_option linter.unusedVariables false
set_option linter.unusedSimpArgs false

theorem own : ownKnob Try.prog.godebug = none := by kernel_rfl
theorem laidOut : laidOutB Try.prog = true := by kernel_rfl
theorem op3 : Opens Try.prog 3 (.int .i64) := opens_int Try.underlying3
theorem op39 : Opens Try.prog 39 (.pair (.int .i64) (.pair (.int .i64) (.pair (.int .i64) (.pair (.int .i64) .unit)))) := opens_struct Try.underlying39 (by kernel_rfl) (fields_cons rfl (by kernel_rfl) op3 (fields_cons rfl (by kernel_rfl) op3 (fields_cons rfl (by kernel_rfl) op3 (fields_cons rfl (by kernel_rfl) op3 fields_nil))))
theorem op22 : Opens Try.prog 22 (.slice (.pair (.int .i64) (.pair (.int .i64) (.pair (.int .i64) (.pair (.int .i64) .unit))))) := opens_slice Try.underlying22 (by kernel_rfl) (by decide) op39

theorem bd_begin {wL w1 : World} {v : Value} {x : Tv} (h : OB beaO wL [] v x w1) : OA wL v x w1.heap.size (w1.heap.size + 1) (fun _ => 0) (fun _ => 0) ((w1.alloc (arX fun _ => 0)).alloc (arX fun _ => 0)) := by
  have h2 := (h.new (arX fun _ => 0)).new (arX fun _ => 0)
  rwa [show (w1.alloc (arX fun _ => 0)).heap.size = w1.heap.size + 1 by simp] at h2

set_option maxRecDepth 100000 in
set_option maxHeartbeats 16000000 in
theorem walk (a0 : Int) (a1 : Option Addr) (len1 cap1 : Nat) (w : World) (w0 : (Lit.int .u8 a0).wf = true) (w1 : Has w (.slice (.pair (.int .i64) (.pair (.int .i64) (.pair (.int .i64) (.pair (.int .i64) .unit))))) [.slice a1 len1 cap1]) :
    Calls Try.prog 4 #[.int .u8 a0, .slice a1 len1 cap1] w fun e w' => e = .returned (.bool true) ∧ Below w.heap.size w w' := by
  obtain ⟨ls, hlen, hok, hat⟩ := eacts_came w1
  subst hlen
  have hb0 := bounds_u8 w0
  have HL := Lib.hid hat
  clear hok hat w0 w1
  have AW := Lib.hid fun w => beat_awake w
  by_cases hg : 150 < ls.length
  · have d1 : decide ((150 : Int) < (ls.length : Int)) = true := decide_eq_true (by omega)
    have d2 : decide (150 < ls.length) = true := decide_eq_true hg
    have d3 : decide ((ls.length : Int) > 150) = true := d1
    go_enter Try.func4, Try.ntmps4
    go_wp2_with fail
    refine (AW.out _).mono ?_; rintro e wy ⟨rfl, hb⟩
    have HF := Lib.hid hb
    clear hb
    go_wp2_with fail
    go_ret
    exact ⟨rfl, HF.out⟩
  · have d1 : decide ((150 : Int) < (ls.length : Int)) = false := decide_eq_false (by omega)
    have d2 : decide (150 < ls.length) = false := decide_eq_false hg
    have d3 : decide ((ls.length : Int) > 150) = false := d1
    have hs1 : 1 ≤ 1 + a0 % 64 := by omega
    have hs2 : 1 + a0 % 64 ≤ 64 := by omega
    have NW := Lib.hid (ta_new (1 + a0 % 64) w)
    have hn : newT (1 + a0 % 64) = (1 + a0 % 64, 0) := by unfold newT; rw [if_neg (by omega)]
    rw [hn] at NW
    have HS := Lib.hid (And.intro hs1 hs2)
    clear hn hs1 hs2
    go_enter Try.func4, Try.ntmps4
    go_wp2_with fail
    refine NW.out.mono ?_; rintro e w1 ⟨p, F, rfl, hp, hpn, hpa, hF, hb⟩
    cases p with
    | none => exact absurd (hpn.1 rfl) (by decide)
    | some a =>
      have HI := Lib.hid (bd_begin (ob_start (O := beaO) (wL := w) hp hF hb))
      unfold arX arC at HI
      generalize 1 + a0 % 64 = s at *
      clear hp hF hb hpn hpa NW
      go_wp2_with fail
      have h150 : ls.length ≤ 150 := by omega
      clear hg d1 d2 d3
      refine dloop _ _ w _ cap1 w1.heap.size (w1.heap.size + 1) (.pointer (some a)) s a1 ls (fun _ => 0) h150 HS.out.1 HS.out.2 (by omega) HL.out ⟨⟨rfl, rfl, rfl, rfl, rfl, rfl, rfl⟩, rfl, rfl⟩ HI.out (fun A w' l' last' inc' L hI => ?_)
      have HB := Lib.hid hI.bel
      obtain ⟨bs, bd, l1, l5, l6, l8, l9⟩ := L
      clear l1 l5 l6 l8 l9 hI HI HL
      repeat first | with_reducible refine inBlock_x ?_ | with_reducible refine then_q ?_
      go_wp2_with fail
      refine (AW.out _).mono ?_; rintro e w9 ⟨rfl, b9⟩
      have HB9 := Lib.hid (HB.out.trans (b9.mono HB.out.size))
      clear b9 HB
      go_wp2_with fail
      refine fv_ret2 (i := 4) (v := .bool true) (by kernel_rfl) ?_ ?_ ⟨rfl, HB9.out⟩
      · repeat first | rw [sl_ne _ (by decide)] | rw [sl_eq _ (by simp only [Array.size_setIfInBounds, bs]; decide)]
      · first | rfl | exact bd

set_option maxRecDepth 100000 in
theorem lifted (os : Os) (started : os.Started) (H : Type) (enc : TypeId × Value → H) :
    ReturnsInHanded {} Try.checked os 4 .any (Rows.beatDueSpec.pre6 enc Try.prog Try.f4 Rows.beatDueRow.domain false) (Rows.beatDueSpec.post enc Try.prog Try.f4 false true false false) := by
  refine returnsInHanded_of_change (C := Try.checked) own started (by kernel_rfl) Try.func4
    (ChangeSpec.witness6 (enc := enc) (C := Try.checked) false ⟨#[], #[.int .u8 0, .slice none 0 0], []⟩ 8 (by kernel_rfl) (by kernel_rfl) (by kernel_rfl) (by kernel_rfl)) ?_
  intro W base args ds gs before hval0 hW hcnd _
  have hval : ∀ (j : Nat) t v, Try.f4.params[j]? = some t → args[j]? = some v → Value.okWide Try.prog W .any base t v := hval0
  have hW' := hW
  obtain ⟨p, q, hA0, hV, rfl, hfz, hnd⟩ := hW
  have hA : DataW.TrodAll enc Try.prog W 0 (fun _ => true) true Try.f4.params.toList args.toList ds p := hA0
  rw [Try.params4] at hA hval
  obtain ⟨v0, vs0, d0, ds0, p0, q0, hargs, rfl, rfl, h0, r0⟩ := trodAll_cons hA
  obtain ⟨v1, vs1, d1, ds1, p1, q1, rfl, rfl, rfl, h1, r1⟩ := trodAll_cons r0
  obtain ⟨rfl, rfl, rfl⟩ := trodAll_nil r1
  obtain rfl : args = #[v0, v1] := by cases args; simp_all
  obtain ⟨rfl, rfl⟩ := trodVars_none hV
  obtain ⟨a0, rfl, rfl, rfl, w0⟩ := open_int Try.underlying5 (hval 0 5 v0 rfl rfl) h0
  obtain ⟨a1, len1, cap1, rfl⟩ := okWide_slice Try.underlying22 (hval 1 22 v1 rfl rfl)
  have k1 := h1
  have lt1 : ∀ x ∈ p1, x.block < W.heap.size := by obtain ⟨m, hm⟩ := k1; exact DataW.trod_lt m _ _ _ hm
  have w1 : Has W (.slice (.pair (.int .i64) (.pair (.int .i64) (.pair (.int .i64) (.pair (.int .i64) .unit))))) [.slice a1 len1 cap1] := by obtain ⟨m, hm⟩ := h1; exact op22 _ _ _ _ _ _ _ _ _ hm
  clear hA0 hval0
  refine (walk a0 a1 len1 cap1 W w0 w1).mono fun e W' ⟨he, bel⟩ => ?_
  subst he
  exact ⟨_, rfl, _, _, _, [], _, [], hW', trodAll_mk1 (shut_bool Try.underlying4 _), (trodAll_cons_mk (shut_int Try.underlying5 w0) (trodAll_cons_mk (Below.trod laidOut (by kernel_rfl) (of_decide_eq_true (by kernel_rfl)) k1 bel lt1) trodAll_mk0)), rfl, bel.frame _, fun h => by cases h⟩

theorem over : Rows.beatDueRow.holds Try.pinned (OpenSpec.ofChange Rows.beatDueSpec) :=
  OpenClaim.holds_of_wide 4 Try.f4 rfl rfl rfl rfl rfl rfl rfl ⟨rfl, rfl, rfl, rfl, rfl⟩ rfl rfl rfl rfl rfl (by kernel_rfl) Try.func4 (by kernel_rfl)
    (of_decide_eq_true (by kernel_rfl)) (by unfold Func.isWrapper; first | (rw [if_pos (by decide +kernel)]; kernel_rfl) | (rw [if_neg (by decide +kernel)]; exact ⟨rfl, rfl⟩))
    (fun os started H enc _ => lifted os started H enc)

/-- ████ THE STATEMENT ████ -/
theorem proved : Rows.BeatDueSaid := over
end Go.Proofs.Ytdlkpkigpnlanaa.beatDue
