/- The law NumBack of the repository answers true for every input. No conditions. -/
import Derived.Test.YtaogieelmomfhaaNumAwake
import Derived.Test.YtaogieelmomfhaaRows
import Derived.WalkKit
import Derived.ProofKit
import Derived.OpenShut
import Derived.Below
import Derived.ShutString
namespace Go.Proofs.Ytaogieelmomfhaa.numBack
open Go.ChangeShapes Go.WideShapes Go.ChangeAt Go.RowKit
open Go.ChangeMaps (open_string shut_string)
set_option linter.unusedVariables false      -- a walk need not use every 'w<i>' (that an integer argument fits its kind)

theorem own : ownKnob Try.prog.godebug = none := by kernel_rfl

theorem times_no (a : Int) (k : Nat) (m : Int) (h : fitB (a * k + a) = false) (hk : (k : Int) + 1 ≤ m) (hy : fitB (a * k) = true) : fitB (a * m) = false := by
  cases hf : fitB (a * m) with
  | false => rfl
  | true =>
    rw [fitB_iff] at hf hy
    exfalso
    have e : a * k + a = a * (k + 1) := by rw [Int.mul_add, Int.mul_one]
    rw [e, ← Bool.not_eq_true, fitB_iff] at h
    rcases Int.lt_or_le a 0 with hn | hp
    · have g1 := Int.mul_le_mul_of_nonpos_left (a := a) (Int.le_of_lt hn) hk
      have g2 : a * (k + 1) ≤ 0 := Int.mul_nonpos_of_nonpos_of_nonneg (by omega) (by omega)
      omega
    · have g1 := Int.mul_le_mul_of_nonneg_left hk hp
      have g2 : 0 ≤ a * (k + 1) := Int.mul_nonneg hp (by omega)
      omega
/-- What the loop that adds so often has at each round's head. -/
def Often (a m : Int) (k : Nat) (n : Int) (all : Bool) : Prop :=
  (all = true ∧ fitB (a * k) = true ∧ n = a * k) ∨ (all = false ∧ fitB (a * m) = false)

/-! ### STEP 1: THE WALK: the Go text returns true. 'Grown w w'': the world has at most new blocks (Derived/RowKit3.lean). Part the cases AHEAD of 'go_enter' where a test parts the walk; take each callee by a contract of your own. -/
theorem walk (a0 : Int) (a1 : Int) (a2 : Int) (w0 : (Lit.int .i64 a0).wf = true) (w1 : (Lit.int .i64 a1).wf = true) (w2 : (Lit.int .u8 a2).wf = true) (w : World) :
    Calls Try.prog 6 #[.int .i64 a0, .int .i64 a1, .int .u8 a2] w fun e w' => e = .returned (.bool true) ∧ Below w.heap.size w w' := by
  have b0 := bounds_i64 w0
  have b1 := bounds_i64 w1
  have b2 := bounds_u8 w2
  have aab := add_any a0 a1 w b0.1 b0.2 b1.1 b1.2
  have aba := add_any a1 a0 w b1.1 b1.2 b0.1 b0.2
  rw [Int.add_comm a1 a0] at aba
  have mab := mul_any a0 a1 w b0.1 b0.2 b1.1 b1.2
  have mba := mul_any a1 a0 w b1.1 b1.2 b0.1 b0.2
  rw [Int.mul_comm a1 a0] at mba
  have mao := mul_any a0 (a2 % 200) w b0.1 b0.2 (by omega) (by omega)
  have sub : fitB (a0 + a1) = true → Calls Try.prog 16 #[.int .i64 (fitV (a0 + a1)), .int .i64 a1] w fun e w' => e = .returned (.tuple #[.int .i64 a0, .bool true]) ∧ w = w' := by
    intro h
    have h' := sub_any (fitV (a0 + a1)) a1 w (fitV_le _).1 (fitV_le _).2 b1.1 b1.2
    rw [fitV_of h, Int.add_sub_cancel, fitV_yes b0.1 b0.2, fitB_yes b0.1 b0.2] at h'
    rw [fitV_of h]; exact h'
  have b01 := b0.1
  have b02 := b0.2
  have b11 := b1.1
  have b12 := b1.2
  have b21 := b2.1
  have b22 := b2.2
  clear w0 w1 w2 b0 b1 b2
  have A1 := Lib.hid aab
  have A2 := Lib.hid aba
  have M1 := Lib.hid mab
  have M2 := Lib.hid mba
  have M3 := Lib.hid mao
  have S1 := Lib.hid sub
  clear aab aba mab mba mao sub
  cases hfit : fitB (a0 + a1)
  all_goals
    rw [hfit] at A1 A2
    have HF := Lib.hid hfit; clear hfit
    go_enter Try.func6, Try.ntmps6
    go_wp2_with (first | (go_at_call 14; with_reducible refine A1.out.mono ?_; rintro e w' ⟨rfl, rfl⟩) | (go_at_call 14; with_reducible refine A2.out.mono ?_; rintro e w' ⟨rfl, rfl⟩) | (go_at_call 16; refine (S1.out HF.out).mono ?_; rintro e w' ⟨rfl, rfl⟩) | (go_at_call 18; with_reducible refine M1.out.mono ?_; rintro e w' ⟨rfl, rfl⟩) | (go_at_call 18; with_reducible refine M2.out.mono ?_; rintro e w' ⟨rfl, rfl⟩))
    clear HF A1 A2 M1 M2 S1
    go_loop [17, 18, 19] (fun n al i => ∃ k : Nat, ∃ s : Int, ∃ x : Bool, (k : Int) ≤ a2 % 200 ∧ Often a0 (a2 % 200) k s x ∧ n = .int .i64 s ∧ al = .bool x ∧ i = .int .i64 k) (fun _ _ i => 200 - (intOf i).toNat)
    case atStart => exact ⟨0, 0, true, by omega, Or.inl ⟨rfl, by rw [Int.natCast_zero, Int.mul_zero]; exact fitB_yes (by omega) (by omega), by rw [Int.natCast_zero, Int.mul_zero]⟩, rfl, rfl, rfl⟩
    case round =>
      obtain ⟨k, s, x, hk, ho, rfl, rfl, rfl⟩ := hrel
      rcases ho with ⟨rfl, hy, rfl⟩ | ⟨rfl, hn⟩
      · have hy1 := ((fitB_iff _).1 hy).1
        have hy2 := ((fitB_iff _).1 hy).2
        by_cases hlt : (k : Int) < a2 % 200
        · have ha := add_any (a0 * k) a0 w hy1 hy2 b01 b02
          cases hb : fitB (a0 * k + a0)
          · have hno := times_no a0 k (a2 % 200) hb (by omega) hy
            rw [hb] at ha
            have HA := Lib.hid ha
            have HN := Lib.hid hno
            clear ha hno hb hy M3
            go_wp2_with (go_at_call 14; refine HA.out.mono ?_; rintro e w' ⟨rfl, rfl⟩)
            go_round
            case rel => exact ⟨k + 1, _, false, by omega, Or.inr ⟨rfl, HN.out⟩, rfl, rfl, by go_num⟩
            case measure => simp [intOf]; omega
          · have e : a0 * (k : Int) + a0 = a0 * ((k + 1 : Nat) : Int) := by rw [Int.natCast_add, Int.mul_add]; simp
            rw [hb, fitV_of hb] at ha
            rw [e] at hb
            have HA := Lib.hid ha
            have HB := Lib.hid hb
            have HE := Lib.hid e
            clear ha hb hy e M3
            go_wp2_with (go_at_call 14; refine HA.out.mono ?_; rintro e w' ⟨rfl, rfl⟩)
            go_round
            case rel => exact ⟨k + 1, _, true, by omega, Or.inl ⟨rfl, HB.out, HE.out⟩, rfl, rfl, by go_num⟩
            case measure => simp [intOf]; omega
        · have e : (k : Int) = a2 % 200 := by omega
          have m3 := M3.out
          rw [show fitB (a0 * (a2 % 200)) = true by rw [← e]; exact hy, show fitV (a0 * (a2 % 200)) = a0 * k by rw [← e]; exact fitV_of hy] at m3
          have HM := Lib.hid m3
          clear m3 M3 hy e
          go_wp2_with (first | (go_at_call 18; refine HM.out.mono ?_; rintro e w' ⟨rfl, rfl⟩) | (go_at_call 13; refine (awake_any _).mono ?_; rintro e w' ⟨rfl, hb⟩))
          go_ret
          exact ⟨rfl, by assumption⟩
      · have m3 := M3.out
        rw [hn, fitV_not hn] at m3
        have HM := Lib.hid m3
        clear m3 M3 hn
        go_wp2_with (first | (go_at_call 18; refine HM.out.mono ?_; rintro e w' ⟨rfl, rfl⟩) | (go_at_call 13; refine (awake_any _).mono ?_; rintro e w' ⟨rfl, hb⟩))
        all_goals go_ret
        all_goals exact ⟨rfl, by assumption⟩

/-! ### THE ROW's STEP: WRITTEN OUT: LEAVE IT -/
set_option maxRecDepth 100000 in
theorem lifted (os : Os) (started : os.Started) (H : Type) (enc : TypeId × Value → H) :
    ReturnsInHanded {} Try.checked os 6 .any (Rows.numBackSpec.pre6 enc Try.prog Try.f6 Rows.numBackRow.domain false) (Rows.numBackSpec.post enc Try.prog Try.f6 false true false false) := by
  refine returnsInHanded_of_change (C := Try.checked) own started (by kernel_rfl) Try.func6
    (ChangeSpec.witness6 (enc := enc) (C := Try.checked) false ⟨#[], #[.int .i64 0, .int .i64 0, .int .u8 0], []⟩ 8 (by kernel_rfl) (by kernel_rfl) (by kernel_rfl) (by kernel_rfl)) ?_
  intro W base args ds gs before hval0 hW hcnd _
  have hval : ∀ (j : Nat) t v, Try.f6.params[j]? = some t → args[j]? = some v → Value.okWide Try.prog W .any base t v := hval0
  have hW' := hW
  obtain ⟨p, q, hA0, hV, rfl, hfz, hnd⟩ := hW
  have hA : DataW.TrodAll enc Try.prog W 0 (fun _ => true) true Try.f6.params.toList args.toList ds p := hA0
  rw [Try.params6] at hA hval
  obtain ⟨v0, vs0, d0, ds0, p0, q0, hargs, rfl, rfl, h0, r0⟩ := trodAll_cons hA
  obtain ⟨v1, vs1, d1, ds1, p1, q1, rfl, rfl, rfl, h1, r1⟩ := trodAll_cons r0
  obtain ⟨v2, vs2, d2, ds2, p2, q2, rfl, rfl, rfl, h2, r2⟩ := trodAll_cons r1
  obtain ⟨rfl, rfl, rfl⟩ := trodAll_nil r2
  obtain rfl : args = #[v0, v1, v2] := by cases args; simp_all
  obtain ⟨rfl, rfl⟩ := trodVars_none hV
  obtain ⟨a0, rfl, rfl, rfl, w0⟩ := open_int Try.underlying3 (hval 0 3 v0 rfl rfl) h0
  obtain ⟨a1, rfl, rfl, rfl, w1⟩ := open_int Try.underlying3 (hval 1 3 v1 rfl rfl) h1
  obtain ⟨a2, rfl, rfl, rfl, w2⟩ := open_int Try.underlying5 (hval 2 5 v2 rfl rfl) h2
  clear hA0 hval0
  simp only [List.append_nil] at hW'
  refine (walk a0 a1 a2 w0 w1 w2 W).mono fun e W' ⟨he, hg⟩ => ?_
  subst he
  exact ⟨_, rfl, _, _, _, [], [], [], hW', trodAll_mk1 (shut_bool Try.underlying4 _), (trodAll_cons_mk (shut_int Try.underlying3 w0) (trodAll_cons_mk (shut_int Try.underlying3 w1) (trodAll_cons_mk (shut_int Try.underlying5 w2) trodAll_mk0))), rfl, hg.frame _, fun h => by cases h⟩

theorem over : Rows.numBackRow.holds Try.pinned (OpenSpec.ofChange Rows.numBackSpec) :=
  OpenClaim.holds_of_wide 6 Try.f6 rfl rfl rfl rfl rfl rfl rfl ⟨rfl, rfl, rfl, rfl, rfl⟩ rfl rfl rfl rfl rfl (by kernel_rfl) Try.func6 (by kernel_rfl)
    (of_decide_eq_true (by kernel_rfl)) (by unfold Func.isWrapper; first | (rw [if_pos (by decide +kernel)]; kernel_rfl) | (rw [if_neg (by decide +kernel)]; exact ⟨rfl, rfl⟩))
    (fun os started H enc _ => lifted os started H enc)

/-- ████ THE STATEMENT ████ -/
theorem proved : Rows.NumBackSaid :=
  over
end Go.Proofs.Ytaogieelmomfhaa.numBack
