/- The law FenceRises of the repository answers true for every input. No conditions. -/
import Derived.Test.YtjpcghnhekafiaaFenW
import Derived.Test.YtjpcghnhekafiaaNums
import Derived.Deep.DeepCutAuto
import Derived.Deep.LoopGhost
import Derived.Deep.CutBlock
import Derived.StillTailTactics
import Derived.Test.YtjpcghnhekafiaaRows
import Derived.WalkKit
import Derived.ProofKit
import Derived.OpenShut
import Derived.Below
import Derived.ShutString
import Derived.Carry
import Derived.Test.YtjpcghnhekafiaaArgs
namespace Go.Proofs.Ytjpcghnhekafiaa.fenceRises
open Go.ChangeShapes Go.WideShapes Go.ChangeAt Go.RowKit
open Go.ChangeMaps (open_string shut_string)
set_option linter.unusedVariables false
set_option linter.unusedSimpArgs false

theorem own : ownKnob Try.prog.godebug = none := by kernel_rfl
theorem laidOut : laidOutB Try.prog = true := by kernel_rfl
theorem op3 : Opens Try.prog 3 (.int .i64) := opens_int Try.underlying3
theorem op22 : Opens Try.prog 22 (.slice (.int .i64)) := opens_slice Try.underlying22 (by kernel_rfl) (by decide) op3

theorem rise_yes {x : Fe} {k : Int} (h : mayF x k = true) : 1 ≤ k ∧ k ≤ 4294967295 ∧ x.e ≤ k ∧ (passF x k).e = k := by
  unfold passF
  rw [if_pos h]
  unfold mayF at h
  simp at h
  exact ⟨by omega, by omega, by omega, rfl⟩
theorem rise_no {x : Fe} {k : Int} (h : mayF x k = false) : (passF x k).e = x.e := by
  unfold passF; rw [h]; rfl
theorem rise_again {x : Fe} {k : Int} (h1 : 1 ≤ k) (h2 : k ≤ 4294967295) (he : x.e = k) : mayF x k = true ∧ mayF x (k - 1) = false := by
  unfold mayF
  constructor
  · simp; omega
  · simp; omega

set_option maxRecDepth 100000 in
set_option maxHeartbeats 16000000 in
theorem walk (a0 : Option Addr) (len0 cap0 : Nat) (w : World) (w0 : Has w (.slice (.int .i64)) [.slice a0 len0 cap0]) :
    Calls Try.prog 4 #[.slice a0 len0 cap0] w fun e w' => e = .returned (.bool true) ∧ Below w.heap.size w w' := by
  obtain ⟨ls, hlen, hok, hat⟩ := ints_came w0
  subst hlen
  have HA := Lib.hid hat
  have HOK := Lib.hid hok
  clear hok hat w0
  have AW := Lib.hid fun w => fence_awake w
  by_cases hg : 150 < ls.length
  · have d1 : decide ((150 : Int) < (ls.length : Int)) = true := decide_eq_true (by omega)
    have d2 : decide (150 < ls.length) = true := decide_eq_true hg
    have d3 : decide ((ls.length : Int) > 150) = true := d1
    go_enter Try.func4, Try.ntmps4
    go_wp2_with fail
    refine (AW.out _).mono ?_; rintro e wy ⟨rfl, hb⟩
    have HF := Lib.hid hb
    clear hb
    go_wp2_with fail
    go_ret
    exact ⟨rfl, HF.out⟩
  · have d1 : decide ((150 : Int) < (ls.length : Int)) = false := decide_eq_false (by omega)
    have d2 : decide (150 < ls.length) = false := decide_eq_false hg
    have d3 : decide ((ls.length : Int) > 150) = false := d1
    have h150 : ls.length ≤ 150 := by omega
    have NW := Lib.hid (fnew_any w)
    clear hg
    go_enter Try.func4, Try.ntmps4
    go_wp2_with fail
    refine NW.out.mono ?_; rintro e w1 ⟨b, F, rfl, hp, hF, hb⟩
    have HI := Lib.hid (show K1 w (.pointer (some ⟨b, 0, none⟩)) fen0 w1 from ob_start hp hF hb)
    generalize Value.pointer (some ⟨b, 0, none⟩) = v at *
    clear hp hF hb NW
    go_wp2_with fail
    clear d1 d2 d3
    go_loopw [4, 5] (fun la i wr => ∃ (k : Nat) (x : Fe), k ≤ ls.length ∧ i = .int .i64 (k : Int) ∧ la = .int .i64 x.e ∧ x.y + x.n ≤ 3 * (k : Int) ∧ K1 w v x wr) (fun _ i _ => ls.length - (intOf i).toNat)
    case atStart => exact ⟨0, fen0, Nat.zero_le _, rfl, rfl, by decide, HI.out⟩
    case round =>
      obtain ⟨k, x, hk, rfl, rfl, hx, hI⟩ := hrel
      clear HI
      by_cases hlt : k < ls.length
      · obtain ⟨ba, oa, rfl, HC⟩ := HA.out k hlt
        have hin := HOK.out ls[k] (List.getElem_mem hlt)
        have fok := hI.fok
        unfold okF at fok
        have bel := hI.bel
        have C1 := Lib.hid (ob_pass hin (by omega) (by omega) hI)
        have HK := Lib.hid fun w' (h : Below w.heap.size w w') => HC w' h
        have g0 := HC wr bel
        generalize ls[k] = ep at *
        have i0k : (0 : Int) ≤ (k : Int) := by omega
        have i1k : (k : Int) < (ls.length : Int) := by omega
        have i2k : (ls.length : Int) ≤ 150 := by omega
        have q3 : IntKind.i64.wrap ((k : Int) + 1) = (k : Int) + 1 := IntWalk.i64_in _ (by omega)
        have dk : decide ((k : Int) < (ls.length : Int)) = true := decide_eq_true i1k
        have hpm := passF_more x ep
        clear hI bel HC HA
        cases hm : mayF x ep with
        | false =>
          rw [hm] at C1
          have e1 := rise_no hm
          generalize passF x ep = x1 at *
          go_wp2_with fail
          refine C1.out.mono ?_; rintro e w2 ⟨rfl, hI⟩
          have C2 := Lib.hid (ob_epoch hI)
          rw [e1] at C2
          have e5 : (x.e != x.e) = false := by simp
          clear C1 g0 hI
          go_wp2_with fail
          refine C2.out.mono ?_; rintro e w3 ⟨rfl, hI⟩
          have HI3 := Lib.hid hI
          clear hI C2
          go_wp2_with fail
          go_roundw
          case rel => exact ⟨k + 1, x1, by omega, by simp, by rw [e1], by omega, HI3.out⟩
          case measure => simp [intOf]; omega
        | true =>
          rw [hm] at C1
          obtain ⟨m1, m2, m3, m4⟩ := rise_yes hm
          obtain ⟨n1, n2⟩ := rise_again m1 m2 m4
          obtain ⟨n3, n4⟩ := rise_again m1 m2 (rise_yes n1).2.2.2
          have p2 := passF_more (passF x ep) ep
          have p3 := passF_more (passF (passF x ep) ep) (ep - 1)
          have e3 := rise_no n4
          rw [(rise_yes n1).2.2.2] at e3
          have hin2 : inI (ep - 1) := by unfold inI; omega
          have q4 : IntKind.i64.wrap (ep - 1) = ep - 1 := IntWalk.i64_in _ (by omega)
          have f1 : decide (ep < x.e) = false := decide_eq_false (by omega)
          have f2 : decide (ep < 1) = false := decide_eq_false (by omega)
          have ok1 := passF_ok ep fok
          have ok2 := passF_ok ep ok1
          unfold okF at ok1 ok2
          have CP := Lib.hid fun w' (h : K1 w v (passF x ep) w') => ob_pass hin (by omega) (by omega) h
          have CQ := Lib.hid fun w' (h : K1 w v (passF (passF x ep) ep) w') => ob_pass hin2 (by omega) (by omega) h
          rw [n1] at CP
          rw [n4] at CQ
          have hE := Lib.hid e3
          have hN := Lib.hid (show (passF (passF (passF x ep) ep) (ep - 1)).y + (passF (passF (passF x ep) ep) (ep - 1)).n ≤ 3 * ((k : Int) + 1) by omega)
          clear p2 p3 e3 ok1 ok2 m4 n1 n2 n3 n4 hpm fok hx hin hin2 hm
          generalize passF x ep = x1 at *
          generalize passF x1 ep = x2 at *
          generalize passF x2 (ep - 1) = x3 at *
          go_wp2_with fail
          refine C1.out.mono ?_; rintro e w2 ⟨rfl, hI⟩
          have HI2 := Lib.hid hI
          have g0 := HK.out _ hI.bel
          clear C1 hI
          go_wp2_with fail
          refine (CP.out _ HI2.out).mono ?_; rintro e w3 ⟨rfl, hI⟩
          have HI3 := Lib.hid hI
          have g0 := HK.out _ hI.bel
          clear CP hI HI2
          go_wp2_with fail
          refine (CQ.out _ HI3.out).mono ?_; rintro e w4 ⟨rfl, hI⟩
          have g0 := HK.out _ hI.bel
          have C2 := Lib.hid (ob_epoch hI)
          rw [hE.out] at C2
          have e5 : (ep != ep) = false := by simp
          clear CQ hI HI3
          go_wp2_with fail
          refine C2.out.mono ?_; rintro e w5 ⟨rfl, hI⟩
          have HI5 := Lib.hid hI
          clear hI C2
          go_wp2_with fail
          go_roundw
          case rel => exact ⟨k + 1, x3, by omega, by simp, by rw [hE.out], by have := hN.out; simp; omega, HI5.out⟩
          case measure => simp [intOf]; omega
      · have dk : decide ((k : Int) < (ls.length : Int)) = false := decide_eq_false (by omega)
        have HB := Lib.hid hI.bel
        clear hI
        go_wp2_with fail
        refine (AW.out _).mono ?_; rintro e w9 ⟨rfl, b9⟩
        have HB9 := Lib.hid (HB.out.trans (b9.mono HB.out.size))
        clear b9 HB
        go_wp2_with fail
        go_ret
        exact ⟨rfl, HB9.out⟩

set_option maxRecDepth 100000 in
theorem lifted (os : Os) (started : os.Started) (H : Type) (enc : TypeId × Value → H) :
    ReturnsInHanded {} Try.checked os 4 .any (Rows.fenceRisesSpec.pre6 enc Try.prog Try.f4 Rows.fenceRisesRow.domain false) (Rows.fenceRisesSpec.post enc Try.prog Try.f4 false true false false) := by
  refine returnsInHanded_of_change (C := Try.checked) own started (by kernel_rfl) Try.func4
    (ChangeSpec.witness6 (enc := enc) (C := Try.checked) false ⟨#[], #[.slice none 0 0], []⟩ 8 (by kernel_rfl) (by kernel_rfl) (by kernel_rfl) (by kernel_rfl)) ?_
  intro W base args ds gs before hval0 hW hcnd _
  have hval : ∀ (j : Nat) t v, Try.f4.params[j]? = some t → args[j]? = some v → Value.okWide Try.prog W .any base t v := hval0
  have hW' := hW
  obtain ⟨p, q, hA0, hV, rfl, hfz, hnd⟩ := hW
  have hA : DataW.TrodAll enc Try.prog W 0 (fun _ => true) true Try.f4.params.toList args.toList ds p := hA0
  rw [Try.params4] at hA hval
  obtain ⟨v0, vs0, d0, ds0, p0, q0, hargs, rfl, rfl, h0, r0⟩ := trodAll_cons hA
  obtain ⟨rfl, rfl, rfl⟩ := trodAll_nil r0
  obtain rfl : args = #[v0] := by cases args; simp_all
  obtain ⟨rfl, rfl⟩ := trodVars_none hV
  obtain ⟨a0, len0, cap0, rfl⟩ := okWide_slice Try.underlying22 (hval 0 22 v0 rfl rfl)
  have k0 := h0
  have lt0 : ∀ x ∈ p0, x.block < W.heap.size := by obtain ⟨m, hm⟩ := k0; exact DataW.trod_lt m _ _ _ hm
  have w0 : Has W (.slice (.int .i64)) [.slice a0 len0 cap0] := by obtain ⟨m, hm⟩ := h0; exact op22 _ _ _ _ _ _ _ _ _ hm
  clear hA0 hval0
  refine (walk a0 len0 cap0 W w0).mono fun e W' ⟨he, bel⟩ => ?_
  subst he
  exact ⟨_, rfl, _, _, _, [], _, [], hW', trodAll_mk1 (shut_bool Try.underlying4 _), (trodAll_cons_mk (Below.trod laidOut (by kernel_rfl) (of_decide_eq_true (by kernel_rfl)) k0 bel lt0) trodAll_mk0), rfl, bel.frame _, fun h => by cases h⟩

theorem over : Rows.fenceRisesRow.holds Try.pinned (OpenSpec.ofChange Rows.fenceRisesSpec) :=
  OpenClaim.holds_of_wide 4 Try.f4 rfl rfl rfl rfl rfl rfl rfl ⟨rfl, rfl, rfl, rfl, rfl⟩ rfl rfl rfl rfl rfl (by kernel_rfl) Try.func4 (by kernel_rfl)
    (of_decide_eq_true (by kernel_rfl)) (by unfold Func.isWrapper; first | (rw [if_pos (by decide +kernel)]; kernel_rfl) | (rw [if_neg (by decide +kernel)]; exact ⟨rfl, rfl⟩))
    (fun os started H enc _ => lifted os started H enc)

/-- ████ THE STATEMENT ████ -/
theorem proved : Rows.FenceRisesSaid := over
end Go.Proofs.Ytjpcghnhekafiaa.fenceRises
