/- The law BeatPlays of the repository answers true for every input. No conditions. -/
import Derived.Test.YtdlkpkigpnlanaaBplE
import Derived.Deep.DeepCutAuto
import Derived.Deep.LoopGhost
import Derived.Deep.CutBlock
import Derived.StillTailTactics
import Derived.Test.YtdlkpkigpnlanaaRows
import Derived.WalkKit
import Derived.ProofKit
import Derived.OpenShut
import Derived.Below
import Derived.ShutString
import Derived.Carry
import Derived.Test.YtdlkpkigpnlanaaArgs
namespace Go.Proofs.Ytdlkpkigpnlanaa.beatPlays
open Go.ChangeShapes Go.WideShapes Go.ChangeAt Go.RowKit
open Go.ChangeMaps (open_string shut_string)
set_option linter.unusedVariables false
set_option linter.unusedSimpArgs false

theorem own : ownKnob Try.prog.godebug = none := by kernel_rfl
theorem laidOut : laidOutB Try.prog = true := by kernel_rfl
theorem op3 : Opens Try.prog 3 (.int .i64) := opens_int Try.underlying3
theorem op39 : Opens Try.prog 39 (.pair (.int .i64) (.pair (.int .i64) (.pair (.int .i64) (.pair (.int .i64) .unit)))) := opens_struct Try.underlying39 (by kernel_rfl) (fields_cons rfl (by kernel_rfl) op3 (fields_cons rfl (by kernel_rfl) op3 (fields_cons rfl (by kernel_rfl) op3 (fields_cons rfl (by kernel_rfl) op3 fields_nil))))
theorem op22 : Opens Try.prog 22 (.slice (.pair (.int .i64) (.pair (.int .i64) (.pair (.int .i64) (.pair (.int .i64) .unit))))) := opens_slice Try.underlying22 (by kernel_rfl) (by decide) op39

theorem bp_begin {wL w1 : World} {F : Nat → Prop} {v : Value} {s : Int} (hp : beaO.P F v ⟨s, []⟩ w1) (hF : ∀ k, F k → wL.heap.size ≤ k) (hb : Below wL.heap.size wL w1) :
    TA wL [(w1.heap.size, tbX s (.slice none 0 0))] v ⟨s, []⟩ (w1.heap.size + 1) (.slice none 0 0) (.slice none 0 0) [] [] ((w1.alloc (tbX s (.slice none 0 0))).alloc (.cells zbtC 37)) := by
  have e1 : (w1.alloc (tbX s (.slice none 0 0))).heap.size = w1.heap.size + 1 := by simp
  have b1 : Below w1.heap.size w1 (w1.alloc (tbX s (.slice none 0 0))) := (Below.refl _ _).alloc (Nat.le_refl _) _
  have b2 : Below w1.heap.size w1 ((w1.alloc (tbX s (.slice none 0 0))).alloc (.cells zbtC 37)) := b1.alloc b1.size _
  have hz := bea_zero (w1.alloc (tbX s (.slice none 0 0)))
  rw [e1] at hz
  have hs := hb.size
  refine ⟨⟨F, (fun k => k = w1.heap.size + 1), Own.below hp b2, hz, hF, fun k hk => by omega, fun k hk e => by have := beaO.lt hp k hk; omega, ⟨_, _, rfl, RdK.nil 3 _ _, RdK.nil 3 _ _⟩, hb.trans (b2.mono hb.size), fun k hk => ?_⟩, fun k o hk => ?_⟩
  · obtain ⟨o, hk⟩ := hk
    simp only [List.mem_singleton, Prod.mk.injEq] at hk
    have : k = w1.heap.size := hk.1
    subst this
    exact ⟨fun e => by have := beaO.lt hp _ e; omega, by omega, by simp; omega, hs⟩
  · simp only [List.mem_singleton, Prod.mk.injEq] at hk
    obtain ⟨rfl, rfl⟩ := hk
    exact blk_old _ (blk_new _ _)

set_option maxRecDepth 100000 in
set_option maxHeartbeats 16000000 in
theorem walk (a0 : Int) (a1 : Option Addr) (len1 cap1 : Nat) (a2 : Int) (w : World) (w0 : (Lit.int .i64 a0).wf = true) (w1 : Has w (.slice (.pair (.int .i64) (.pair (.int .i64) (.pair (.int .i64) (.pair (.int .i64) .unit))))) [.slice a1 len1 cap1]) (w2 : (Lit.int .i64 a2).wf = true) :
    Calls Try.prog 3 #[.int .i64 a0, .slice a1 len1 cap1, .int .i64 a2] w fun e w' => e = .returned (.bool true) ∧ Below w.heap.size w w' := by
  obtain ⟨ls, hlen, hok, hat⟩ := eacts_came w1
  subst hlen
  have HA := Lib.hid hat
  have HOK := Lib.hid hok
  have hid := wf_in w2
  clear hok hat w0 w1
  have AW := Lib.hid fun w => beat_awake w
  by_cases hg : 100 < ls.length
  · have d1 : decide ((100 : Int) < (ls.length : Int)) = true := decide_eq_true (by omega)
    have d2 : decide (100 < ls.length) = true := decide_eq_true hg
    have d3 : decide ((ls.length : Int) > 100) = true := d1
    clear hid
    go_enter Try.func3, Try.ntmps3
    go_wp2_with fail
    refine (AW.out _).mono ?_; rintro e wy ⟨rfl, hb⟩
    have HF := Lib.hid hb
    clear hb
    go_wp2_with fail
    go_ret
    exact ⟨rfl, HF.out⟩
  · have d1 : decide ((100 : Int) < (ls.length : Int)) = false := decide_eq_false (by omega)
    have d2 : decide (100 < ls.length) = false := decide_eq_false hg
    have d3 : decide ((ls.length : Int) > 100) = false := d1
    have h100 : ls.length ≤ 100 := by omega
    have NW := Lib.hid (ta_new a0 w)
    have HID := Lib.hid hid
    clear hid hg
    by_cases hs : a0 < 1 ∨ 64 < a0
    · have hn : newT a0 = (0, 1) := by unfold newT; rw [if_pos hs]
      rw [hn] at NW
      obtain ⟨k1, k2, c1, c2, hkk⟩ : ∃ k1 k2, decide (1 ≤ a0) = k1 ∧ decide (a0 ≤ 64) = k2 ∧ (k1 = true → k2 = false) := ⟨_, _, rfl, rfl, fun h => decide_eq_false (by have := of_decide_eq_true h; omega)⟩
      have c1' : decide (a0 ≥ 1) = k1 := c1
      clear hn hs
      cases k1
      all_goals cases k2
      all_goals try cases hkk rfl
      all_goals
        clear hkk
        go_enter Try.func3, Try.ntmps3
        go_wp2_with fail
        refine NW.out.mono ?_; rintro e w1 ⟨p, F, rfl, hp, hpn, _, hF, hb⟩
        obtain rfl : p = none := hpn.2 (by first | trivial | rfl)
        have HI := Lib.hid (bp_begin hp hF hb)
        unfold tbX zbtC at HI
        clear hp hF hb hpn NW d1 d2 d3
        go_wp2_with fail
        refine bloop _ _ w _ cap1 (w1.heap.size + 1) w1.heap.size a2 (.pointer none) _ _ 0 [] a1 ls h100 HID.out HA.out HOK.out ⟨rfl, rfl, rfl, rfl, rfl, rfl, rfl, rfl⟩ rfl HI.out (fun A w' row u l ds L hI => ?_)
        have NN := Lib.hid (tc_allN hI)
        have q0 : IntKind.i64.wrap (0 : Int) = 0 := by decide
        obtain ⟨bs, bd, l1, l2, l7, l9, l10, l11⟩ := L
        have f10 := sl_get l10
        have f11 := sl_get l11
        clear l1 l2 l7 l9 l10 l11 HI HA HOK HID
        repeat first | with_reducible refine inBlock_x ?_ | with_reducible refine then_q ?_
        go_wp2_with fail
        refine NN.out.mono ?_; clear hI NN; rintro e w3 ⟨A3, c3, rfl, hI⟩
        have NZ := Lib.hid (tc_allZ hI)
        go_wp2_with fail
        refine NZ.out.mono ?_; clear hI NZ; rintro e w4 ⟨A4, c4, rfl, hI⟩
        have HB := Lib.hid (TB.bel hI)
        clear hI
        go_wp2_with fail
        refine (AW.out _).mono ?_; rintro e w9 ⟨rfl, b9⟩
        have HB9 := Lib.hid (HB.out.trans (b9.mono HB.out.size))
        clear b9 HB
        go_wp2_with fail
        refine fv_ret2 (i := 6) (v := .bool true) (by kernel_rfl) ?_ ?_ ⟨rfl, HB9.out⟩
        · repeat first | rw [sl_ne _ (by decide)] | rw [sl_eq _ (by simp only [Array.size_setIfInBounds, bs]; decide)]
        · first | rfl | exact bd
    · have hn : newT a0 = (a0, 0) := by unfold newT; rw [if_neg hs]
      rw [hn] at NW
      have c1 : decide (1 ≤ a0) = true := decide_eq_true (by omega)
      have c1' : decide (a0 ≥ 1) = true := c1
      have c2 : decide (a0 ≤ 64) = true := decide_eq_true (by omega)
      have c3 : decide (0 < a0) = true := decide_eq_true (by omega)
      have c4 : decide (a0 > 0) = true := c3
      clear hn hs
      go_enter Try.func3, Try.ntmps3
      go_wp2_with fail
      refine NW.out.mono ?_; rintro e w1 ⟨p, F, rfl, hp, hpn, _, hF, hb⟩
      have HI := Lib.hid (bp_begin hp hF hb)
      unfold tbX zbtC at HI
      clear hp hF hb hpn NW d1 d2 d3
      go_wp2_with fail
      refine bloop _ _ w _ cap1 (w1.heap.size + 1) w1.heap.size a2 (.pointer p) _ _ a0 [] a1 ls h100 HID.out HA.out HOK.out ⟨rfl, rfl, rfl, rfl, rfl, rfl, rfl, rfl⟩ rfl HI.out (fun A w' row u l ds L hI => ?_)
      have NN := Lib.hid (tc_allN hI)
      have q0 : IntKind.i64.wrap (0 : Int) = 0 := by decide
      obtain ⟨bs, bd, l1, l2, l7, l9, l10, l11⟩ := L
      have f10 := sl_get l10
      have f11 := sl_get l11
      clear l1 l2 l7 l9 l10 l11 HI HA HOK HID
      repeat first | with_reducible refine inBlock_x ?_ | with_reducible refine then_q ?_
      go_wp2_with fail
      refine NN.out.mono ?_; clear hI NN; rintro e w3 ⟨A3, c3, rfl, hI⟩
      have NZ := Lib.hid (tc_allZ hI)
      go_wp2_with fail
      refine NZ.out.mono ?_; clear hI NZ; rintro e w4 ⟨A4, c4, rfl, hI⟩
      have HB := Lib.hid (TB.bel hI)
      clear hI
      go_wp2_with fail
      refine (AW.out _).mono ?_; rintro e w9 ⟨rfl, b9⟩
      have HB9 := Lib.hid (HB.out.trans (b9.mono HB.out.size))
      clear b9 HB
      go_wp2_with fail
      refine fv_ret2 (i := 6) (v := .bool true) (by kernel_rfl) ?_ ?_ ⟨rfl, HB9.out⟩
      · repeat first | rw [sl_ne _ (by decide)] | rw [sl_eq _ (by simp only [Array.size_setIfInBounds, bs]; decide)]
      · first | rfl | exact bd

set_option maxRecDepth 100000 in
theorem lifted (os : Os) (started : os.Started) (H : Type) (enc : TypeId × Value → H) :
    ReturnsInHanded {} Try.checked os 3 .any (Rows.beatPlaysSpec.pre6 enc Try.prog Try.f3 Rows.beatPlaysRow.domain false) (Rows.beatPlaysSpec.post enc Try.prog Try.f3 false true false false) := by
  refine returnsInHanded_of_change (C := Try.checked) own started (by kernel_rfl) Try.func3
    (ChangeSpec.witness6 (enc := enc) (C := Try.checked) false ⟨#[], #[.int .i64 0, .slice none 0 0, .int .i64 0], []⟩ 8 (by kernel_rfl) (by kernel_rfl) (by kernel_rfl) (by kernel_rfl)) ?_
  intro W base args ds gs before hval0 hW hcnd _
  have hval : ∀ (j : Nat) t v, Try.f3.params[j]? = some t → args[j]? = some v → Value.okWide Try.prog W .any base t v := hval0
  have hW' := hW
  obtain ⟨p, q, hA0, hV, rfl, hfz, hnd⟩ := hW
  have hA : DataW.TrodAll enc Try.prog W 0 (fun _ => true) true Try.f3.params.toList args.toList ds p := hA0
  rw [Try.params3] at hA hval
  obtain ⟨v0, vs0, d0, ds0, p0, q0, hargs, rfl, rfl, h0, r0⟩ := trodAll_cons hA
  obtain ⟨v1, vs1, d1, ds1, p1, q1, rfl, rfl, rfl, h1, r1⟩ := trodAll_cons r0
  obtain ⟨v2, vs2, d2, ds2, p2, q2, rfl, rfl, rfl, h2, r2⟩ := trodAll_cons r1
  obtain ⟨rfl, rfl, rfl⟩ := trodAll_nil r2
  obtain rfl : args = #[v0, v1, v2] := by cases args; simp_all
  obtain ⟨rfl, rfl⟩ := trodVars_none hV
  obtain ⟨a0, rfl, rfl, rfl, w0⟩ := open_int Try.underlying3 (hval 0 3 v0 rfl rfl) h0
  obtain ⟨a1, len1, cap1, rfl⟩ := okWide_slice Try.underlying22 (hval 1 22 v1 rfl rfl)
  have k1 := h1
  have lt1 : ∀ x ∈ p1, x.block < W.heap.size := by obtain ⟨m, hm⟩ := k1; exact DataW.trod_lt m _ _ _ hm
  have w1 : Has W (.slice (.pair (.int .i64) (.pair (.int .i64) (.pair (.int .i64) (.pair (.int .i64) .unit))))) [.slice a1 len1 cap1] := by obtain ⟨m, hm⟩ := h1; exact op22 _ _ _ _ _ _ _ _ _ hm
  obtain ⟨a2, rfl, rfl, rfl, w2⟩ := open_int Try.underlying3 (hval 2 3 v2 rfl rfl) h2
  clear hA0 hval0
  refine (walk a0 a1 len1 cap1 a2 W w0 w1 w2).mono fun e W' ⟨he, bel⟩ => ?_
  subst he
  exact ⟨_, rfl, _, _, _, [], _, [], hW', trodAll_mk1 (shut_bool Try.underlying4 _), (trodAll_cons_mk (shut_int Try.underlying3 w0) (trodAll_cons_mk (Below.trod laidOut (by kernel_rfl) (of_decide_eq_true (by kernel_rfl)) k1 bel lt1) (trodAll_cons_mk (shut_int Try.underlying3 w2) trodAll_mk0))), rfl, bel.frame _, fun h => by cases h⟩

theorem over : Rows.beatPlaysRow.holds Try.pinned (OpenSpec.ofChange Rows.beatPlaysSpec) :=
  OpenClaim.holds_of_wide 3 Try.f3 rfl rfl rfl rfl rfl rfl rfl ⟨rfl, rfl, rfl, rfl, rfl⟩ rfl rfl rfl rfl rfl (by kernel_rfl) Try.func3 (by kernel_rfl)
    (of_decide_eq_true (by kernel_rfl)) (by unfold Func.isWrapper; first | (rw [if_pos (by decide +kernel)]; kernel_rfl) | (rw [if_neg (by decide +kernel)]; exact ⟨rfl, rfl⟩))
    (fun os started H enc _ => lifted os started H enc)

/-- ████ THE STATEMENT ████ -/
theorem proved : Rows.BeatPlaysSaid := over
end Go.Proofs.Ytdlkpkigpnlanaa.beatPlays
