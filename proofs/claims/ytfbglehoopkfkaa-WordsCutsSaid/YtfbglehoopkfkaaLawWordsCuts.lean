/- The law WordsCuts of the repository answers true for every input. No conditions. -/
import Derived.Test.YtfbglehoopkfkaaWrdAwake
import Derived.Test.YtfbglehoopkfkaaRows
import Derived.WalkKit
import Derived.ProofKit
import Derived.OpenShut
import Derived.Below
import Derived.ShutString
import Derived.Carry
import Derived.Test.YtfbglehoopkfkaaArgs
namespace Go.Proofs.Ytfbglehoopkfkaa.wordsCuts
open Go.ChangeShapes Go.WideShapes Go.ChangeAt Go.RowKit
open Go.ChangeMaps (open_string shut_string)
set_option linter.unusedVariables false
set_option linter.unusedSimpArgs false

theorem own : ownKnob Try.prog.godebug = none := by kernel_rfl
theorem laidOut : laidOutB Try.prog = true := by kernel_rfl

set_option maxRecDepth 100000 in
set_option maxHeartbeats 4000000 in
theorem walk (a0 : ByteArray) (a1 : Int) (w : World) (w0 : a0.size ≤ maxLen) (w1 : (Lit.int .u8 a1).wf = true) :
    Calls Try.prog 3 #[.string a0, .int .u8 a1] w fun e w' => e = .returned (.bool true) ∧ Below w.heap.size w w' := by
  unfold maxLen at w0
  obtain ⟨c, rfl⟩ : ∃ c : UInt8, a1 = (c.toNat : Nat) := by
    have h : 0 ≤ a1 ∧ a1 < 256 := by
      have := w1
      simp [Lit.wf] at this
      have := bounds_u8 w1
      omega
    exact ⟨UInt8.ofNat a1.toNat, by simp; omega⟩
  clear w1
  by_cases hg1 : 400 < a0.size
  · have d1 : decide ((400 : Int) < a0.size) = true := decide_eq_true (by omega)
    go_enter Try.func3, Try.ntmps3
    go_wp2_with (go_at_call 6; refine (words_awake _).mono ?_; rintro e w' ⟨rfl, hb⟩)
    go_ret
    exact ⟨rfl, by assumption⟩
  have d1 : decide ((400 : Int) < a0.size) = false := decide_eq_false (by omega)
  have C1 := Lib.hid fun w => wcut_any a0 c w (by omega)
  have C2 := Lib.hid fun w => rcut_any a0 c w (by omega)
  have L1 := fun w => wlines_any a0 w (by omega)
  have L2 := fun w => rlines_any a0 w (by omega)
  have W1 := fun w => wwords_any a0 w (by omega)
  have W2 := fun w => rwords_any a0 w (by omega)
  unfold StrsR at L1 L2 W1 W2
  have L1 := Lib.hid L1
  have L2 := Lib.hid L2
  have W1 := Lib.hid W1
  have W2 := Lib.hid W2
  have hll : (linesL a0.data.toList).length ≤ 1000000 := by have := linesA_len a0.data.toList []; rw [data_len] at this; unfold linesL; omega
  have hwl : (wordsL a0.data.toList).length ≤ 1000000 := by have := wordsA_len a0.data.toList []; rw [data_len] at this; unfold wordsL; omega
  have HLL := Lib.hid hll
  have HWL := Lib.hid hwl
  clear hll hwl
  generalize linesL a0.data.toList = LL at *
  generalize wordsL a0.data.toList = WL at *
  generalize bs (cutA a0.data.toList c) = X at *
  generalize bs (cutB a0.data.toList c) = Y at *
  generalize (findA c a0.data.toList).isSome = Z at *
  generalize c.toNat = cn at *
  go_enter Try.func3, Try.ntmps3
  go_wp2_with fail
  refine (C1.out _).mono ?_; rintro e x1 ⟨rfl, b1⟩
  have HB1 := Lib.hid b1
  clear b1
  go_wp2_with fail
  refine (C2.out _).mono ?_; rintro e x2 ⟨rfl, n2, rfl⟩
  have HB2 := Lib.hid (show Below w.heap.size w (x1.drewN n2) from ⟨HB1.out.os, HB1.out.tape, HB1.out.output, HB1.out.size, HB1.out.block⟩)
  generalize x1.drewN n2 = x2 at *
  go_wp2_with fail
  refine (L1.out _).mono ?_; rintro e x3 ⟨v3, rfl, r3, b3⟩
  have HB3 := Lib.hid (HB2.out.trans (b3.mono HB2.out.size))
  have HR3 := Lib.hid r3
  clear b3 r3
  go_wp2_with fail
  refine (L2.out _).mono ?_; rintro e x4 ⟨v4, rfl, r4, b4⟩
  have HB4 := Lib.hid (HB3.out.trans (b4.mono HB3.out.size))
  have SM := Lib.hid (sames v3 v4 LL _ x4 HLL.out ((HR3.out.below b4).more b4.size) r4)
  clear b4 r4
  go_wp2_with fail
  refine SM.out.mono ?_; rintro e x5 ⟨rfl, b5⟩
  have HB5 := Lib.hid (HB4.out.trans (b5.mono HB4.out.size))
  clear b5 SM
  go_wp2_with fail
  refine (W1.out _).mono ?_; rintro e x6 ⟨v6, rfl, r6, b6⟩
  have HB6 := Lib.hid (HB5.out.trans (b6.mono HB5.out.size))
  have HR6 := Lib.hid r6
  clear b6 r6
  go_wp2_with fail
  refine (W2.out _).mono ?_; rintro e x7 ⟨v7, rfl, r7, b7⟩
  have HB7 := Lib.hid (HB6.out.trans (b7.mono HB6.out.size))
  have SM := Lib.hid (sames v6 v7 WL _ x7 HWL.out ((HR6.out.below b7).more b7.size) r7)
  clear b7 r7
  go_wp2_with fail
  refine SM.out.mono ?_; rintro e x8 ⟨rfl, b8⟩
  have HB8 := Lib.hid (HB7.out.trans (b8.mono HB7.out.size))
  clear b8 SM
  have dz : (Z == Z) = true := by simp
  go_wp2_with fail
  refine (words_awake _).mono ?_; rintro e x9 ⟨rfl, b9⟩
  have HB9 := Lib.hid (HB8.out.trans (b9.mono HB8.out.size))
  clear b9
  go_wp2_with fail
  go_ret
  exact ⟨rfl, HB9.out⟩

set_option maxRecDepth 100000 in
theorem lifted (os : Os) (started : os.Started) (H : Type) (enc : TypeId × Value → H) :
    ReturnsInHanded {} Try.checked os 3 .any (Rows.wordsCutsSpec.pre6 enc Try.prog Try.f3 Rows.wordsCutsRow.domain false) (Rows.wordsCutsSpec.post enc Try.prog Try.f3 false true false false) := by
  refine returnsInHanded_of_change (C := Try.checked) own started (by kernel_rfl) Try.func3
    (ChangeSpec.witness6 (enc := enc) (C := Try.checked) false ⟨#[], #[.string ByteArray.empty, .int .u8 0], []⟩ 8 (by kernel_rfl) (by kernel_rfl) (by kernel_rfl) (by kernel_rfl)) ?_
  intro W base args ds gs before hval0 hW hcnd _
  have hval : ∀ (j : Nat) t v, Try.f3.params[j]? = some t → args[j]? = some v → Value.okWide Try.prog W .any base t v := hval0
  have hW' := hW
  obtain ⟨p, q, hA0, hV, rfl, hfz, hnd⟩ := hW
  have hA : DataW.TrodAll enc Try.prog W 0 (fun _ => true) true Try.f3.params.toList args.toList ds p := hA0
  rw [Try.params3] at hA hval
  obtain ⟨v0, vs0, d0, ds0, p0, q0, hargs, rfl, rfl, h0, r0⟩ := trodAll_cons hA
  obtain ⟨v1, vs1, d1, ds1, p1, q1, rfl, rfl, rfl, h1, r1⟩ := trodAll_cons r0
  obtain ⟨rfl, rfl, rfl⟩ := trodAll_nil r1
  obtain rfl : args = #[v0, v1] := by cases args; simp_all
  obtain ⟨rfl, rfl⟩ := trodVars_none hV
  obtain ⟨a0, rfl, rfl, rfl, w0⟩ := open_string Try.underlying9 (hval 0 9 v0 rfl rfl) h0
  obtain ⟨a1, rfl, rfl, rfl, w1⟩ := open_int Try.underlying5 (hval 1 5 v1 rfl rfl) h1
  clear hA0 hval0
  refine (walk a0 a1 W w0 w1).mono fun e W' ⟨he, bel⟩ => ?_
  subst he
  exact ⟨_, rfl, _, _, _, [], _, [], hW', trodAll_mk1 (shut_bool Try.underlying4 _), (trodAll_cons_mk (shut_string Try.underlying9 w0) (trodAll_cons_mk (shut_int Try.underlying5 w1) trodAll_mk0)), rfl, bel.frame _, fun h => by cases h⟩

theorem over : Rows.wordsCutsRow.holds Try.pinned (OpenSpec.ofChange Rows.wordsCutsSpec) :=
  OpenClaim.holds_of_wide 3 Try.f3 rfl rfl rfl rfl rfl rfl rfl ⟨rfl, rfl, rfl, rfl, rfl⟩ rfl rfl rfl rfl rfl (by kernel_rfl) Try.func3 (by kernel_rfl)
    (of_decide_eq_true (by kernel_rfl)) (by unfold Func.isWrapper; first | (rw [if_pos (by decide +kernel)]; kernel_rfl) | (rw [if_neg (by decide +kernel)]; exact ⟨rfl, rfl⟩))
    (fun os started H enc _ => lifted os started H enc)

/-- ████ THE STATEMENT ████ -/
theorem proved : Rows.WordsCutsSaid := over
end Go.Proofs.Ytfbglehoopkfkaa.wordsCuts
