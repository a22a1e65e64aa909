/- The law ClockRises of the repository answers true for every input. No conditions. -/
import Derived.Test.YtejepnjgkflooaaClkW
import Derived.Test.YtejepnjgkflooaaAct3
import Derived.Deep.DeepCutAuto
import Derived.Deep.LoopGhost
import Derived.Deep.CutBlock
import Derived.StillTailTactics
import Derived.Test.YtejepnjgkflooaaRows
import Derived.WalkKit
import Derived.ProofKit
import Derived.OpenShut
import Derived.Below
import Derived.ShutString
import Derived.Carry
import Derived.Test.YtejepnjgkflooaaArgs
namespace Go.Proofs.Ytejepnjgkflooaa.clockRises
open Go.ChangeShapes Go.WideShapes Go.ChangeAt Go.RowKit
open Go.ChangeMaps (open_string shut_string)
set_option linter.unusedVariables false
set_option linter.unusedSimpArgs false

theorem own : ownKnob Try.prog.godebug = none := by kernel_rfl
theorem laidOut : laidOutB Try.prog = true := by kernel_rfl
theorem op3 : Opens Try.prog 3 (.int .i64) := opens_int Try.underlying3
theorem op22 : Opens Try.prog 22 (.slice (.int .i64)) := opens_slice Try.underlying22 (by kernel_rfl) (by decide) op3

theorem laterV_ge {t n : Int} (h : 0 ≤ t ∧ t ≤ 1099511627776) : t ≤ laterV t n := by
  unfold laterV spanV; (repeat' split) <;> omega
theorem laterV_gt {t n : Int} (h : 0 ≤ t ∧ t ≤ 1099511627776) (h1 : t < 1099511627776) (h2 : 0 < n) : t < laterV t n := by
  unfold laterV spanV; (repeat' split) <;> omega

set_option maxRecDepth 100000 in
set_option maxHeartbeats 16000000 in
theorem walk (a0 : Option Addr) (len0 cap0 : Nat) (a1 : Int) (w : World) (w0 : Has w (.slice (.int .i64)) [.slice a0 len0 cap0]) (w1 : (Lit.int .u8 a1).wf = true) :
    Calls Try.prog 4 #[.slice a0 len0 cap0, .int .u8 a1] w fun e w' => e = .returned (.bool true) ∧ Below w.heap.size w w' := by
  obtain ⟨ls, hlen, hr, hin⟩ := rdI_came w0
  subst hlen
  have hb1 := bounds_u8 w1
  have HL := Lib.hid fun k (hk : k < ls.length) => hr.at_ hk
  clear hr hin w0 w1
  have AW := Lib.hid fun w => clock_awake w
  by_cases hg : 200 < ls.length
  · have d1 : decide ((200 : Int) < (ls.length : Int)) = true := decide_eq_true (by omega)
    have d2 : decide (200 < ls.length) = true := decide_eq_true hg
    have d3 : decide ((ls.length : Int) > 200) = true := d1
    go_enter Try.func4, Try.ntmps4
    go_wp2_with fail
    refine (AW.out _).mono ?_; rintro e wy ⟨rfl, hb⟩
    have HF := Lib.hid hb
    clear hb
    go_wp2_with fail
    go_ret
    exact ⟨rfl, HF.out⟩
  · have d1 : decide ((200 : Int) < (ls.length : Int)) = false := decide_eq_false (by omega)
    have d2 : decide (200 < ls.length) = false := decide_eq_false hg
    have d3 : decide ((ls.length : Int) > 200) = false := d1
    have h200 : ls.length ≤ 200 := by omega
    have NW := Lib.hid fun w => cnew_any w
    clear hg
    go_enter Try.func4, Try.ntmps4
    go_wp2_with fail
    refine (NW.out _).mono ?_; rintro e w2 ⟨rfl, hp, hb2⟩
    have hI := one_start (O := clkO) (wL := w) hp (fun k hk => by omega) hb2
    generalize hvv : Value.pointer (some ⟨w.heap.size, 0, none⟩) = v at *
    clear hvv hp hb2 NW
    go_wp2_with fail
    go_loopw [6, 7] (fun la i wr => ∃ (k : Nat) (c : Ck), k ≤ ls.length ∧ i = .int .i64 (k : Int) ∧ la = .int .i64 c.t ∧ c.off = decide (a1 < (k : Int)) ∧ K1 w v c wr) (fun _ i _ => ls.length - (intOf i).toNat)
    case atStart => exact ⟨0, ck0, by omega, rfl, rfl, by rw [decide_eq_false (by omega)]; rfl, hI⟩
    case round =>
      clear hI
      obtain ⟨k, c, hk, rfl, rfl, hoff, hI⟩ := hrel
      by_cases hlt : k < ls.length
      · have dk : decide (k < ls.length) = true := decide_eq_true hlt
        have dk2 : decide ((k : Int) < (ls.length : Int)) = true := decide_eq_true (by omega)
        have hc := hI.clk_in
        obtain ⟨b, o, rfl, hbl, hbk, hx⟩ := HL.out k hlt
        have HX := Lib.hid (show ∀ w', Below w.heap.size w w' → w'.cell? ⟨b, o + k, none⟩ = some (.int .i64 ls[k]) from fun w' hb => (hb.cell (p := ⟨b, o + k, none⟩) hbl).trans (hx k hlt))
        clear hx hbk
        generalize ls[k] = x at *
        have i0k : (0 : Int) ≤ (k : Int) := by omega
        have i1k : (k : Int) < (ls.length : Int) := by omega
        have TK := Lib.hid (fun (c : Ck) w' (h : K1 w v c w') => octick x h)
        have NK := Lib.hid (fun (c : Ck) w' (h : K1 w v c w') => ocnow h)
        have g0 := HX.out wr hI.bel
        rcases Int.lt_trichotomy (k : Int) a1 with h1 | h1 | h1
        · have e1 : ((k : Int) == a1) = false := by simp; omega
          have e2 : decide (a1 ≤ (k : Int)) = false := decide_eq_false (by omega)
          have e3 : decide ((k : Int) ≥ a1) = false := e2
          have e4 : decide ((k : Int) < a1) = true := decide_eq_true h1
          have htk : tickK c x = ⟨laterV c.t x, false⟩ := by unfold tickK; rw [if_neg (by rw [hoff]; simp; omega)]
          have T1 := TK.out c wr hI
          rw [htk] at T1
          have T2 := Lib.hid T1
          have HE := Lib.hid (show false = decide (a1 < ((k + 1 : Nat) : Int)) by rw [decide_eq_false (by omega)])
          have u1 : decide (laterV c.t x < c.t) = false := decide_eq_false (by have := laterV_ge (n := x) hc; omega)
          have hl := laterV_in c.t x
          have u2 : decide (laterV c.t x > 1099511627776) = false := decide_eq_false (by omega)
          have u3 : decide (1099511627776 < laterV c.t x) = false := u2
          have u4 : decide (c.t < 1099511627776) = true → decide (0 < x) = true → (laterV c.t x == c.t) = false := fun q1 q2 => by have := laterV_gt hc (of_decide_eq_true q1) (of_decide_eq_true q2); simp; omega
          obtain ⟨b1, m1⟩ : ∃ bb, decide (c.t < 1099511627776) = bb := ⟨_, rfl⟩
          obtain ⟨b2, m2⟩ : ∃ bb, decide (0 < x) = bb := ⟨_, rfl⟩
          have m3 : decide (x > 0) = b2 := m2
          generalize laterV c.t x = n at *
          generalize c.t = t at *
          clear hoff hI TK T1 htk hl hc h1
          cases b1
          all_goals cases b2
          all_goals
            try replace u4 := u4 m1 m2
            go_wp2_with fail
            go_wp2_with fail
            refine T2.out.mono ?_; rintro e w4 ⟨rfl, hI4, _⟩
            have N2 := Lib.hid (NK.out _ _ hI4)
            have g4 := HX.out w4 hI4.bel
            clear hI4 T2 NK g0
            go_wp2_with fail
            refine N2.out.mono ?_; rintro e w5 ⟨rfl, hI5, _⟩
            have g5 := HX.out w5 hI5.bel
            clear N2 g4
            go_wp2_with fail
            go_roundw
            case rel => exact ⟨k + 1, ⟨n, false⟩, by omega, by go_num, rfl, HE.out, hI5⟩
            case measure => simp [intOf]; omega
        · have e1 : ((k : Int) == a1) = true := by simpa using h1
          have e2 : decide (a1 ≤ (k : Int)) = true := decide_eq_true (by omega)
          have e3 : decide ((k : Int) ≥ a1) = true := e2
          have e4 : decide ((k : Int) < a1) = false := decide_eq_false (by omega)
          have S1 := ocstop hI
          rw [show c.off = false by rw [hoff, decide_eq_false (by omega)]] at S1
          have S2 := Lib.hid S1
          have TK2 := Lib.hid (show ∀ w', K1 w v ⟨c.t, true⟩ w' → Calls Try.prog 9 #[v, .int .i64 x] w' fun e w2 => e = .returned (.int .i64 c.t) ∧ K1 w v ⟨c.t, true⟩ w2 ∧ Stay (fun _ => False) w' w2 from fun w' h => octick x h)
          have HE := Lib.hid (show (⟨c.t, true⟩ : Ck).off = decide (a1 < ((k + 1 : Nat) : Int)) by rw [decide_eq_true (by omega)])
          have u1 : decide (c.t < c.t) = false := decide_eq_false (by omega)
          have u2 : decide (c.t > 1099511627776) = false := decide_eq_false (by omega)
          have u3 : decide (1099511627776 < c.t) = false := u2
          clear hoff hI TK S1 hc h1
          go_wp2_with fail
          refine S2.out.mono ?_; rintro e w3 ⟨rfl, hI3, _⟩
          have T2 := Lib.hid (TK2.out _ hI3)
          have g3 := HX.out w3 hI3.bel
          clear hI3 S2 TK2
          go_wp2_with fail
          refine T2.out.mono ?_; rintro e w4 ⟨rfl, hI4, _⟩
          have N2 := Lib.hid (NK.out _ _ hI4)
          have g4 := HX.out w4 hI4.bel
          clear hI4 T2 NK g0 g3
          go_wp2_with fail
          refine N2.out.mono ?_; rintro e w5 ⟨rfl, hI5, _⟩
          have g5 := HX.out w5 hI5.bel
          clear N2 g4
          go_wp2_with fail
          go_roundw
          case rel => exact ⟨k + 1, ⟨c.t, true⟩, by omega, by go_num, rfl, HE.out, hI5⟩
          case measure => simp [intOf]; omega
        · have e1 : ((k : Int) == a1) = false := by simp; omega
          have e2 : decide (a1 ≤ (k : Int)) = true := decide_eq_true (by omega)
          have e3 : decide ((k : Int) ≥ a1) = true := e2
          have e4 : decide ((k : Int) < a1) = false := decide_eq_false (by omega)
          have hoff2 : c.off = true := by rw [hoff, decide_eq_true h1]
          have htk : tickK c x = c := by unfold tickK; rw [if_pos hoff2]
          have T1 := TK.out c wr hI
          rw [htk] at T1
          have T2 := Lib.hid T1
          have HE := Lib.hid (show c.off = decide (a1 < ((k + 1 : Nat) : Int)) by rw [hoff2, decide_eq_true (by omega)])
          have u1 : decide (c.t < c.t) = false := decide_eq_false (by omega)
          have u2 : decide (c.t > 1099511627776) = false := decide_eq_false (by omega)
          have u3 : decide (1099511627776 < c.t) = false := u2
          clear hoff hoff2 hI TK T1 htk hc h1
          go_wp2_with fail
          go_wp2_with fail
          refine T2.out.mono ?_; rintro e w4 ⟨rfl, hI4, _⟩
          have N2 := Lib.hid (NK.out _ _ hI4)
          have g4 := HX.out w4 hI4.bel
          clear hI4 T2 NK g0
          go_wp2_with fail
          refine N2.out.mono ?_; rintro e w5 ⟨rfl, hI5, _⟩
          have g5 := HX.out w5 hI5.bel
          clear N2 g4
          go_wp2_with fail
          go_roundw
          case rel => exact ⟨k + 1, c, by omega, by go_num, rfl, HE.out, hI5⟩
          case measure => simp [intOf]; omega
      · obtain rfl : k = ls.length := by omega
        have dk : decide (ls.length < ls.length) = false := decide_eq_false (by omega)
        have HB := Lib.hid hI.bel
        clear hI hoff
        generalize c.t = t at *
        go_wp2_with fail
        refine (AW.out _).mono ?_; rintro e wy ⟨rfl, hb⟩
        have HF := Lib.hid (HB.out.trans (hb.mono HB.out.size))
        clear hb HB
        go_wp2_with fail
        go_ret
        exact ⟨rfl, HF.out⟩

set_option maxRecDepth 100000 in
theorem lifted (os : Os) (started : os.Started) (H : Type) (enc : TypeId × Value → H) :
    ReturnsInHanded {} Try.checked os 4 .any (Rows.clockRisesSpec.pre6 enc Try.prog Try.f4 Rows.clockRisesRow.domain false) (Rows.clockRisesSpec.post enc Try.prog Try.f4 false true false false) := by
  refine returnsInHanded_of_change (C := Try.checked) own started (by kernel_rfl) Try.func4
    (ChangeSpec.witness6 (enc := enc) (C := Try.checked) false ⟨#[], #[.slice none 0 0, .int .u8 0], []⟩ 8 (by kernel_rfl) (by kernel_rfl) (by kernel_rfl) (by kernel_rfl)) ?_
  intro W base args ds gs before hval0 hW hcnd _
  have hval : ∀ (j : Nat) t v, Try.f4.params[j]? = some t → args[j]? = some v → Value.okWide Try.prog W .any base t v := hval0
  have hW' := hW
  obtain ⟨p, q, hA0, hV, rfl, hfz, hnd⟩ := hW
  have hA : DataW.TrodAll enc Try.prog W 0 (fun _ => true) true Try.f4.params.toList args.toList ds p := hA0
  rw [Try.params4] at hA hval
  obtain ⟨v0, vs0, d0, ds0, p0, q0, hargs, rfl, rfl, h0, r0⟩ := trodAll_cons hA
  obtain ⟨v1, vs1, d1, ds1, p1, q1, rfl, rfl, rfl, h1, r1⟩ := trodAll_cons r0
  obtain ⟨rfl, rfl, rfl⟩ := trodAll_nil r1
  obtain rfl : args = #[v0, v1] := by cases args; simp_all
  obtain ⟨rfl, rfl⟩ := trodVars_none hV
  obtain ⟨a0, len0, cap0, rfl⟩ := okWide_slice Try.underlying22 (hval 0 22 v0 rfl rfl)
  have k0 := h0
  have lt0 : ∀ x ∈ p0, x.block < W.heap.size := by obtain ⟨m, hm⟩ := k0; exact DataW.trod_lt m _ _ _ hm
  have w0 : Has W (.slice (.int .i64)) [.slice a0 len0 cap0] := by obtain ⟨m, hm⟩ := h0; exact op22 _ _ _ _ _ _ _ _ _ hm
  obtain ⟨a1, rfl, rfl, rfl, w1⟩ := open_int Try.underlying5 (hval 1 5 v1 rfl rfl) h1
  clear hA0 hval0
  refine (walk a0 len0 cap0 a1 W w0 w1).mono fun e W' ⟨he, bel⟩ => ?_
  subst he
  exact ⟨_, rfl, _, _, _, [], _, [], hW', trodAll_mk1 (shut_bool Try.underlying4 _), (trodAll_cons_mk (Below.trod laidOut (by kernel_rfl) (of_decide_eq_true (by kernel_rfl)) k0 bel lt0) (trodAll_cons_mk (shut_int Try.underlying5 w1) trodAll_mk0)), rfl, bel.frame _, fun h => by cases h⟩

theorem over : Rows.clockRisesRow.holds Try.pinned (OpenSpec.ofChange Rows.clockRisesSpec) :=
  OpenClaim.holds_of_wide 4 Try.f4 rfl rfl rfl rfl rfl rfl rfl ⟨rfl, rfl, rfl, rfl, rfl⟩ rfl rfl rfl rfl rfl (by kernel_rfl) Try.func4 (by kernel_rfl)
    (of_decide_eq_true (by kernel_rfl)) (by unfold Func.isWrapper; first | (rw [if_pos (by decide +kernel)]; kernel_rfl) | (rw [if_neg (by decide +kernel)]; exact ⟨rfl, rfl⟩))
    (fun os started H enc _ => lifted os started H enc)

/-- ████ THE STATEMENT ████ -/
theorem proved : Rows.ClockRisesSaid := over
end Go.Proofs.Ytejepnjgkflooaa.clockRises
