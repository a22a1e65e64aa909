/- The law FrameSeals of the repository answers true for every input. No conditions. -/
import Derived.Test.YtkipgipfplejoaaFrmSame
import Derived.Test.YtkipgipfplejoaaRows
import Derived.WalkKit
import Derived.ProofKit
import Derived.OpenShut
import Derived.Below
import Derived.ShutString
namespace Go.Proofs.Ytkipgipfplejoaa.frameSeals
open Go.ChangeShapes Go.WideShapes Go.ChangeAt Go.RowKit
open Go.ChangeMaps (open_string shut_string)
set_option linter.unusedVariables false      -- a walk need not use every 'w<i>' (that an integer argument fits its kind)

theorem own : ownKnob Try.prog.godebug = none := by kernel_rfl

theorem seals_strs (l : List (List UInt8)) : strs l = (l.map bs).map Value.string := by simp [strs]
theorem bodies_len (s : List UInt8) : (bodies s).length ≤ s.length := by
  suffices h : ∀ n (s : List UInt8), s.length ≤ n → (bodies s).length ≤ s.length from h _ s (Nat.le_refl _)
  intro n
  induction n with
  | zero =>
    intro s hs
    have : s = [] := List.eq_nil_of_length_eq_zero (by omega)
    subst this
    rw [bodies_end (by rw [openE_nil]; omega)]; simp
  | succ n ih =>
    intro s hs
    by_cases h : openE s = 0
    · have := openN_le h
      have := ih (s.drop (openN s)) (by rw [List.length_drop]; omega)
      rw [bodies_ok h, List.length_cons]
      rw [List.length_drop] at this
      omega
    · rw [bodies_end h]; simp

/-! ### STEP 1: THE WALK: the Go text returns true. 'Grown w w'': the world has at most new blocks (Derived/RowKit3.lean). Part the cases AHEAD of 'go_enter' where a test parts the walk; take each callee by a contract of your own. -/
theorem walk (a0 : ByteArray) (a1 : ByteArray) (a2 : Int) (w0 : a0.size ≤ maxLen) (w1 : a1.size ≤ maxLen) (w2 : (Lit.int .i64 a2).wf = true) (w : World) :
    Calls Try.prog 3 #[.string a0, .string a1, .int .i64 a2] w fun e w' => e = .returned (.bool true) ∧ Below w.heap.size w w' := by
  unfold maxLen at w0 w1
  by_cases hg1 : 300 < a0.size
  · have d1 : decide ((300 : Int) < a0.size) = true := decide_eq_true (by omega)
    go_enter Try.func3, Try.ntmps3
    go_wp2_with (go_at_call 5; refine (awake_any _).mono ?_; rintro e w' ⟨rfl, hb⟩)
    go_ret
    exact ⟨rfl, by assumption⟩
  have d1 : decide ((300 : Int) < a0.size) = false := decide_eq_false (by omega)
  by_cases hg2 : 300 < a1.size
  · have d2 : decide ((300 : Int) < a1.size) = true := decide_eq_true (by omega)
    go_enter Try.func3, Try.ntmps3
    go_wp2_with (go_at_call 5; refine (awake_any _).mono ?_; rintro e w' ⟨rfl, hb⟩)
    go_ret
    exact ⟨rfl, by assumption⟩
  have d2 : decide ((300 : Int) < a1.size) = false := decide_eq_false (by omega)
  have S1 := Lib.hid fun w => fseal_any a0 w (by omega)
  have S2 := Lib.hid fun w => rseal_any a0 w (by omega)
  have O1 := Lib.hid fun w => fopen_any a1 w (by omega)
  have O2 := Lib.hid fun w => ropen_any a1 w (by omega)
  have A1 := fun w => fall_any a1 w (by omega)
  have A2 := fun w => rall_any a1 w (by omega)
  unfold AllR at A1 A2
  have A1 := Lib.hid A1
  have A2 := Lib.hid A2
  have Z := Lib.hid fun w => size_any a2 w
  have hlen : ((bodies a1.data.toList).map bs).length ≤ 1000000 := by
    have := bodies_len a1.data.toList
    rw [data_len] at this
    simp; omega
  have hst := seals_strs (bodies a1.data.toList)
  rw [hst] at A1 A2
  clear hst
  generalize (bodies a1.data.toList).map bs = L at *
  generalize used a1.data.toList = U at *
  generalize bs (openB a1.data.toList) = OB at *
  generalize openN a1.data.toList = ON at *
  generalize openE a1.data.toList = OE at *
  generalize sealT a0 = ST at *
  generalize sealE a0 = SE at *
  by_cases hn : 0 ≤ a2 ∧ a2 ≤ 200
  · unfold sizeV at Z
    rw [if_pos hn] at Z
    obtain ⟨hn1, hn2⟩ := hn
    have e1 : decide ((0 : Int) ≤ a2) = true := decide_eq_true hn1
    have e2 : decide (a2 ≤ (200 : Int)) = true := decide_eq_true hn2
    go_enter Try.func3, Try.ntmps3
    go_wp2_with fail
    refine (S1.out _).mono ?_; rintro e x1 ⟨rfl, b1⟩
    go_wp2_with fail
    refine (S2.out _).mono ?_; rintro e x2 ⟨rfl, b2⟩
    go_wp2_with fail
    refine (O1.out _).mono ?_; rintro e x3 ⟨rfl, b3⟩
    go_wp2_with fail
    refine (O2.out _).mono ?_; rintro e x4 ⟨rfl, b4⟩
    go_wp2_with fail
    refine (A1.out _).mono ?_; rintro e x5 ⟨v1, rfl, r1, b5⟩
    go_wp2_with fail
    refine (A2.out _).mono ?_; rintro e x6 ⟨v2, rfl, r2, b6⟩
    have HR1 := Lib.hid ((r1.below b6).more b6.size)
    have HR2 := Lib.hid r2
    have z1 := b1.size
    have z2 := b2.size
    have z3 := b3.size
    have z4 := b4.size
    have z5 := b5.size
    have HB := Lib.hid (((((b1.trans (b2.mono (by omega))).trans (b3.mono (by omega))).trans (b4.mono (by omega))).trans (b5.mono (by omega))).trans (b6.mono (by omega)))
    clear r1 r2 b1 b2 b3 b4 b5 b6 z1 z2 z3 z4 z5
    go_wp2_with fail
    refine (same_true _ _ _ _ _ hlen HR1.out HR2.out).mono ?_; rintro e x7 ⟨rfl, k7, rfl⟩
    go_wp2_with fail
    refine (Z.out _).mono ?_; rintro e x8 ⟨rfl, rfl⟩
    go_wp2_with fail
    refine (awake_any _).mono ?_; rintro e x9 ⟨rfl, b9⟩
    have HB9 := Lib.hid ((below_drewN HB.out k7).trans (b9.mono HB.out.size))
    clear b9
    go_wp2_with fail
    go_ret
    exact ⟨rfl, HB9.out⟩
  · unfold sizeV at Z
    rw [if_neg hn] at Z
    have hor : a2 < 0 ∨ (0 ≤ a2 ∧ 200 < a2) := by omega
    clear hn
    rcases hor with h | ⟨h, h2⟩
    · have e1 : decide ((0 : Int) ≤ a2) = false := decide_eq_false (by omega)
      go_enter Try.func3, Try.ntmps3
      go_wp2_with fail
      refine (S1.out _).mono ?_; rintro e x1 ⟨rfl, b1⟩
      go_wp2_with fail
      refine (S2.out _).mono ?_; rintro e x2 ⟨rfl, b2⟩
      go_wp2_with fail
      refine (O1.out _).mono ?_; rintro e x3 ⟨rfl, b3⟩
      go_wp2_with fail
      refine (O2.out _).mono ?_; rintro e x4 ⟨rfl, b4⟩
      go_wp2_with fail
      refine (A1.out _).mono ?_; rintro e x5 ⟨v1, rfl, r1, b5⟩
      go_wp2_with fail
      refine (A2.out _).mono ?_; rintro e x6 ⟨v2, rfl, r2, b6⟩
      have HR1 := Lib.hid ((r1.below b6).more b6.size)
      have HR2 := Lib.hid r2
      have z1 := b1.size
      have z2 := b2.size
      have z3 := b3.size
      have z4 := b4.size
      have z5 := b5.size
      have HB := Lib.hid (((((b1.trans (b2.mono (by omega))).trans (b3.mono (by omega))).trans (b4.mono (by omega))).trans (b5.mono (by omega))).trans (b6.mono (by omega)))
      clear r1 r2 b1 b2 b3 b4 b5 b6 z1 z2 z3 z4 z5
      go_wp2_with fail
      refine (same_true _ _ _ _ _ hlen HR1.out HR2.out).mono ?_; rintro e x7 ⟨rfl, k7, rfl⟩
      go_wp2_with fail
      refine (Z.out _).mono ?_; rintro e x8 ⟨rfl, rfl⟩
      go_wp2_with fail
      refine (awake_any _).mono ?_; rintro e x9 ⟨rfl, b9⟩
      have HB9 := Lib.hid ((below_drewN HB.out k7).trans (b9.mono HB.out.size))
      clear b9
      go_wp2_with fail
      go_ret
      exact ⟨rfl, HB9.out⟩
    · have e1 : decide ((0 : Int) ≤ a2) = true := decide_eq_true h
      have e2 : decide (a2 ≤ (200 : Int)) = false := decide_eq_false (by omega)
      go_enter Try.func3, Try.ntmps3
      go_wp2_with fail
      refine (S1.out _).mono ?_; rintro e x1 ⟨rfl, b1⟩
      go_wp2_with fail
      refine (S2.out _).mono ?_; rintro e x2 ⟨rfl, b2⟩
      go_wp2_with fail
      refine (O1.out _).mono ?_; rintro e x3 ⟨rfl, b3⟩
      go_wp2_with fail
      refine (O2.out _).mono ?_; rintro e x4 ⟨rfl, b4⟩
      go_wp2_with fail
      refine (A1.out _).mono ?_; rintro e x5 ⟨v1, rfl, r1, b5⟩
      go_wp2_with fail
      refine (A2.out _).mono ?_; rintro e x6 ⟨v2, rfl, r2, b6⟩
      have HR1 := Lib.hid ((r1.below b6).more b6.size)
      have HR2 := Lib.hid r2
      have z1 := b1.size
      have z2 := b2.size
      have z3 := b3.size
      have z4 := b4.size
      have z5 := b5.size
      have HB := Lib.hid (((((b1.trans (b2.mono (by omega))).trans (b3.mono (by omega))).trans (b4.mono (by omega))).trans (b5.mono (by omega))).trans (b6.mono (by omega)))
      clear r1 r2 b1 b2 b3 b4 b5 b6 z1 z2 z3 z4 z5
      go_wp2_with fail
      refine (same_true _ _ _ _ _ hlen HR1.out HR2.out).mono ?_; rintro e x7 ⟨rfl, k7, rfl⟩
      go_wp2_with fail
      refine (Z.out _).mono ?_; rintro e x8 ⟨rfl, rfl⟩
      go_wp2_with fail
      refine (awake_any _).mono ?_; rintro e x9 ⟨rfl, b9⟩
      have HB9 := Lib.hid ((below_drewN HB.out k7).trans (b9.mono HB.out.size))
      clear b9
      go_wp2_with fail
      go_ret
      exact ⟨rfl, HB9.out⟩

/-! ### THE ROW's STEP: WRITTEN OUT: LEAVE IT -/
set_option maxRecDepth 100000 in
theorem lifted (os : Os) (started : os.Started) (H : Type) (enc : TypeId × Value → H) :
    ReturnsInHanded {} Try.checked os 3 .any (Rows.frameSealsSpec.pre6 enc Try.prog Try.f3 Rows.frameSealsRow.domain false) (Rows.frameSealsSpec.post enc Try.prog Try.f3 false true false false) := by
  refine returnsInHanded_of_change (C := Try.checked) own started (by kernel_rfl) Try.func3
    (ChangeSpec.witness6 (enc := enc) (C := Try.checked) false ⟨#[], #[.string ByteArray.empty, .string ByteArray.empty, .int .i64 0], []⟩ 8 (by kernel_rfl) (by kernel_rfl) (by kernel_rfl) (by kernel_rfl)) ?_
  intro W base args ds gs before hval0 hW hcnd _
  have hval : ∀ (j : Nat) t v, Try.f3.params[j]? = some t → args[j]? = some v → Value.okWide Try.prog W .any base t v := hval0
  have hW' := hW
  obtain ⟨p, q, hA0, hV, rfl, hfz, hnd⟩ := hW
  have hA : DataW.TrodAll enc Try.prog W 0 (fun _ => true) true Try.f3.params.toList args.toList ds p := hA0
  rw [Try.params3] at hA hval
  obtain ⟨v0, vs0, d0, ds0, p0, q0, hargs, rfl, rfl, h0, r0⟩ := trodAll_cons hA
  obtain ⟨v1, vs1, d1, ds1, p1, q1, rfl, rfl, rfl, h1, r1⟩ := trodAll_cons r0
  obtain ⟨v2, vs2, d2, ds2, p2, q2, rfl, rfl, rfl, h2, r2⟩ := trodAll_cons r1
  obtain ⟨rfl, rfl, rfl⟩ := trodAll_nil r2
  obtain rfl : args = #[v0, v1, v2] := by cases args; simp_all
  obtain ⟨rfl, rfl⟩ := trodVars_none hV
  obtain ⟨a0, rfl, rfl, rfl, w0⟩ := open_string Try.underlying9 (hval 0 9 v0 rfl rfl) h0
  obtain ⟨a1, rfl, rfl, rfl, w1⟩ := open_string Try.underlying9 (hval 1 9 v1 rfl rfl) h1
  obtain ⟨a2, rfl, rfl, rfl, w2⟩ := open_int Try.underlying3 (hval 2 3 v2 rfl rfl) h2
  clear hA0 hval0
  simp only [List.append_nil] at hW'
  refine (walk a0 a1 a2 w0 w1 w2 W).mono fun e W' ⟨he, hg⟩ => ?_
  subst he
  exact ⟨_, rfl, _, _, _, [], [], [], hW', trodAll_mk1 (shut_bool Try.underlying4 _), (trodAll_cons_mk (shut_string Try.underlying9 w0) (trodAll_cons_mk (shut_string Try.underlying9 w1) (trodAll_cons_mk (shut_int Try.underlying3 w2) trodAll_mk0))), rfl, hg.frame _, fun h => by cases h⟩

theorem over : Rows.frameSealsRow.holds Try.pinned (OpenSpec.ofChange Rows.frameSealsSpec) :=
  OpenClaim.holds_of_wide 3 Try.f3 rfl rfl rfl rfl rfl rfl rfl ⟨rfl, rfl, rfl, rfl, rfl⟩ rfl rfl rfl rfl rfl (by kernel_rfl) Try.func3 (by kernel_rfl)
    (of_decide_eq_true (by kernel_rfl)) (by unfold Func.isWrapper; first | (rw [if_pos (by decide +kernel)]; kernel_rfl) | (rw [if_neg (by decide +kernel)]; exact ⟨rfl, rfl⟩))
    (fun os started H enc _ => lifted os started H enc)

/-- ████ THE STATEMENT ████ -/
theorem proved : Rows.FrameSealsSaid :=
  over
end Go.Proofs.Ytkipgipfplejoaa.frameSeals
