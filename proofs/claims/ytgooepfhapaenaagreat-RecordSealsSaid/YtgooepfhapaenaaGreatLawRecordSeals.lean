/- The law RecordSeals of the repository answers true for every input. No conditions. -/
import Derived.Test.YtgooepfhapaenaaGreatRecW
import Derived.Test.YtgooepfhapaenaaGreatRecArgs
import Derived.Test.YtgooepfhapaenaaGreatRows
import Derived.WalkKit
import Derived.ProofKit
import Derived.OpenShut
import Derived.Below
import Derived.ShutString
import Derived.Carry
import Derived.Test.YtgooepfhapaenaaGreatArgs
namespace Go.Proofs.YtgooepfhapaenaaGreat.recordSeals
open Go.ChangeShapes Go.WideShapes Go.ChangeAt Go.RowKit
open Go.ChangeMaps (open_string shut_string)
set_option linter.unusedVariables false
set_option linter.unusedSimpArgs false

theorem own : ownKnob Tryz.prog.godebug = none := by kernel_rfl
theorem laidOut : laidOutB Tryz.prog = true := by kernel_rfl
theorem op3 : Opens Tryz.prog 3 (.int .i64) := opens_int Tryz.underlying3
theorem op23 : Opens Tryz.prog 23 (Sh.rep (.int .i64) 3) := opens_array Tryz.underlying23 (by kernel_rfl) (by kernel_rfl) op3
theorem op25 : Opens Tryz.prog 25 (.pair (.int .i64) (.pair (.int .i64) (.pair (.int .i64) (.pair (.int .i64) (.pair (.int .i64) (.pair (Sh.rep (.int .i64) 3) .unit)))))) := opens_struct Tryz.underlying25 (by kernel_rfl) (fields_cons rfl (by kernel_rfl) op3 (fields_cons rfl (by kernel_rfl) op3 (fields_cons rfl (by kernel_rfl) op3 (fields_cons rfl (by kernel_rfl) op3 (fields_cons rfl (by kernel_rfl) op3 (fields_cons rfl (by kernel_rfl) op23 fields_nil))))))
theorem op27 : Opens Tryz.prog 27 (.pair (.int .i64) (.pair (.int .i64) (.pair (.pair (.int .i64) (.pair (.int .i64) (.pair (.int .i64) (.pair (.int .i64) (.pair (.int .i64) (.pair (Sh.rep (.int .i64) 3) .unit)))))) .unit))) := opens_struct Tryz.underlying27 (by kernel_rfl) (fields_cons rfl (by kernel_rfl) op3 (fields_cons rfl (by kernel_rfl) op3 (fields_cons rfl (by kernel_rfl) op25 fields_nil)))

set_option maxRecDepth 100000 in
set_option maxHeartbeats 16000000 in
theorem walk (c0 : Array Value) (a1 : ByteArray) (w : World) (w0 : Has w (.pair (.int .i64) (.pair (.int .i64) (.pair (.pair (.int .i64) (.pair (.int .i64) (.pair (.int .i64) (.pair (.int .i64) (.pair (.int .i64) (.pair (Sh.rep (.int .i64) 3) .unit)))))) .unit))) c0.toList) (w1 : a1.size ≤ maxLen) :
    Calls Tryz.prog 3 #[.agg c0, .string a1] w fun e w' => e = .returned (.bool true) ∧ Below w.heap.size w w' := by
  obtain ⟨r, hr, rfl⟩ := rec_came w0
  have AW := Lib.hid fun w' => record_awake w'
  clear w0 w1
  have hbx : (w.alloc (.cells r.cells 27)).heap[w.heap.size]? = some (.cells r.cells 27 (0, 0)) := blk_new w _
  have hba : Below w.heap.size w (w.alloc (.cells r.cells 27)) := (Below.refl _ _).alloc (Nat.le_refl _) _
  have hrow : r.row.toArray = r.cells := rfl
  rw [hrow]
  by_cases hlen : a1.size ≤ 300
  · have S1 := Lib.hid fun w' => reseal_any r w' hr
    have S2 := Lib.hid fun w' => rrseal_any r w'
    have O1 := Lib.hid fun w' => reopen_any a1 w' (by omega)
    have O2 := Lib.hid fun w' => rropen_any a1 w' (by omega)
    have K1 := Lib.hid fun w' => recheck_any r w' hr
    have K2 := Lib.hid fun w' => rrcheck_any r w'
    have dl : decide (a1.size > 300) = false := decide_eq_false (by omega)
    have dl2 : decide (300 < a1.size) = false := dl
    have dl3 : decide ((a1.size : Int) > 300) = false := decide_eq_false (by omega)
    have dl4 : decide (300 < (a1.size : Int)) = false := dl3
    generalize bs (sealR r).1 = s at *
    generalize (sealR r).2 = q at *
    generalize (openR a1.data.toList).1 = x at *
    generalize (openR a1.data.toList).2.1 = n at *
    generalize (openR a1.data.toList).2.2 = g at *
    generalize checkR r = c at *
    have EQ := Lib.hid (show ∀ w, (binOp .eql 27 x.val x.val).run Tryz.prog w = .ok (.bool true) w from fun w => by rw [eqlR_run, eqR_self])
    have EG := Lib.hid (fun w a b => eqlR_guard w x x a b)
    have dss : (s.toList == s.toList) = true := by simp
    have hS1 := S1
    have hS2 := S2
    have hO1 := O1
    have hO2 := O2
    unfold Rec.val at hS1 hS2 hO1 hO2
    unfold Rec.cells
    clear hlen hr S1 S2 O1 O2
    go_enter Tryz.func3, Tryz.ntmps3
    go_wp2_with fail
    refine (hS1.out _).mono ?_; rintro e w1 ⟨rfl, hB⟩
    rw [World.size_alloc] at hB
    have X1 := Lib.hid (blk_below hB hbx (by omega))
    have hB1 := Lib.hid (hba.trans (hB.mono (by omega)))
    have hl1 : w.heap.size + 1 ≤ w1.heap.size := by have := hB.size; simpa using this
    clear hB hbx hba hS1
    obtain ⟨x0, x1, x2, x3, x4, x5, x6, x7, x8, x9⟩ := rec_cells X1.out
    go_wp2_with fail
    refine (hS2.out _).mono ?_; rintro e w2 ⟨rfl, hB⟩
    have X2 := Lib.hid (blk_below hB X1.out (lt_of_block X1.out))
    have hB2 := Lib.hid (hB1.out.trans (hB.mono hB1.out.size))
    clear hB X1 hB1 x0 x1 x2 x3 x4 x5 x6 x7 x8 x9 hS2
    go_wp2_with fail
    refine (hO1.out _).mono ?_; rintro e w3 ⟨rfl, hB⟩
    have X3 := Lib.hid (blk_old (.cells x.cells 27) (blk_below hB X2.out (lt_of_block X2.out)))
    have hB3 := Lib.hid ((hB2.out.trans (hB.mono hB2.out.size)).alloc (hB2.out.trans (hB.mono hB2.out.size)).size (.cells x.cells 27))
    have Y3 := Lib.hid (blk_new w3 (.cells x.cells 27))
    clear hB hB2 hO1 X2
    go_wp2_with fail
    refine (hO2.out _).mono ?_; rintro e w4 ⟨rfl, hB⟩
    rw [World.size_alloc] at hB
    have X4 := Lib.hid (blk_old (.cells x.cells 27) (blk_below hB X3.out (by have := lt_of_block X3.out; simpa using this)))
    have Y4 := Lib.hid (blk_old (.cells x.cells 27) (blk_below hB Y3.out (by omega)))
    have hB4 := Lib.hid ((hB3.out.trans (hB.mono (by have := hB3.out.size; simpa using this))).alloc (hB3.out.trans (hB.mono (by have := hB3.out.size; simpa using this))).size (.cells x.cells 27))
    have Z4 := Lib.hid (blk_new w4 (.cells x.cells 27))
    have hl4 : w3.heap.size + 1 ≤ w4.heap.size := by have := hB.size; simpa using this
    clear hB hB3 hO2 X3 Y3
    go_wp2_with fail
    unfold Rec.cells at hB4 X4 Y4 Z4
    generalize (w4.alloc (.cells #[.int .i64 x.s, .int .i64 x.e, .int .i64 x.v.k, .int .i64 x.v.n, .int .i64 x.v.j, .int .i64 x.v.i, .int .i64 x.v.p, .int .i64 x.v.r.a, .int .i64 x.v.r.b, .int .i64 x.v.r.c] 27)) = w5 at *
    refine wp_region_hold (fun w' => Below w5.heap.size w5 w') (by kernel_rfl) (by kernel_rfl) ⟨rfl, rfl, rfl, Nat.le_refl _, fun _ _ => rfl⟩ ?_
    have HX := Lib.hid (show ∀ w', Below w5.heap.size w5 w' → w'.heap[w.heap.size]? = some (.cells r.cells 27 (0, 0)) from fun w' hb => blk_below hb X4.out (lt_of_block X4.out))
    have HY := Lib.hid (show ∀ w', Below w5.heap.size w5 w' → w'.heap[w3.heap.size]? = some (.cells x.cells 27 (0, 0)) from fun w' hb => blk_below hb Y4.out (lt_of_block Y4.out))
    have HZ := Lib.hid (show ∀ w', Below w5.heap.size w5 w' → w'.heap[w4.heap.size]? = some (.cells x.cells 27 (0, 0)) from fun w' hb => blk_below hb Z4.out (lt_of_block Z4.out))
    clear X4 Y4 Z4
    repeat
      first
      | (refine hold_call (v := .int .i64 c) (by rfl) ?_ (fun w' hS => made_call hS (Nat.le_refl _) (K1.out w')) ?_
         · (intro w' hS; go_simp; done)
         simp only [Act.put, List.setIfInBounds_toArray, List.set_cons_zero, List.set_cons_succ])
      | (refine hold_call (v := .int .i64 c) (by rfl) ?_ (fun w' hS => made_call hS (Nat.le_refl _) (K2.out w')) ?_
         · (intro w' hS; go_simp; done)
         simp only [Act.put, List.setIfInBounds_toArray, List.set_cons_zero, List.set_cons_succ])
      | (refine hold_call (v := .bool true) (by rfl) ?_ (fun w' hS => made_call hS (Nat.le_refl _) (AW.out w')) ?_
         · (intro w' hS; go_simp; done)
         simp only [Act.put, List.setIfInBounds_toArray, List.set_cons_zero, List.set_cons_succ])
      | (refine hold_val (v := r.val) (by rfl) ?_ ?_
         · (intro w' hS
            obtain ⟨x0, x1, x2, x3, x4, x5, x6, x7, x8, x9⟩ := rec_cells (HX.out w' hS)
            unfold Rec.val
            go_simp
            done)
         simp only [Act.put, List.setIfInBounds_toArray, List.set_cons_zero, List.set_cons_succ])
      | (refine hold_val (v := x.val) (by rfl) ?_ ?_
         · (intro w' hS
            obtain ⟨x0, x1, x2, x3, x4, x5, x6, x7, x8, x9⟩ := rec_cells (HY.out w' hS)
            unfold Rec.val
            go_simp
            done)
         simp only [Act.put, List.setIfInBounds_toArray, List.set_cons_zero, List.set_cons_succ])
      | (refine hold_val (v := x.val) (by rfl) ?_ ?_
         · (intro w' hS
            obtain ⟨x0, x1, x2, x3, x4, x5, x6, x7, x8, x9⟩ := rec_cells (HZ.out w' hS)
            unfold Rec.val
            go_simp
            done)
         simp only [Act.put, List.setIfInBounds_toArray, List.set_cons_zero, List.set_cons_succ])
      | (refine hold_val (v := ?_) (by rfl) ?_ ?_
         rotate_left
         · (intro w' hS
            have e1 := EQ.out w'
            have e2 := EG.out w'
            go_simp
            try with_reducible rfl)
         simp only [Act.put, List.setIfInBounds_toArray, List.set_cons_zero, List.set_cons_succ])
      | (refine hold_skip (by rfl) ?_
         simp only [Act.put, List.setIfInBounds_toArray, List.set_cons_zero, List.set_cons_succ])
    refine hold_nil (fun w' hS => ?_)
    have HF := Lib.hid (hB4.out.trans (hS.mono hB4.out.size))
    clear hS
    go_wp2_with fail
    go_ret
    exact ⟨rfl, HF.out⟩
  · have dl : decide (a1.size > 300) = true := decide_eq_true (by omega)
    have dl2 : decide (300 < a1.size) = true := dl
    have dl3 : decide ((a1.size : Int) > 300) = true := decide_eq_true (by omega)
    have dl4 : decide (300 < (a1.size : Int)) = true := dl3
    unfold Rec.cells at hba hbx ⊢
    clear hlen
    go_enter Tryz.func3, Tryz.ntmps3
    go_wp2_with fail
    refine (AW.out _).mono ?_; rintro e w1 ⟨rfl, hB⟩
    have hB1 := Lib.hid (hba.trans (hB.mono hba.size))
    clear hB
    go_wp2_with fail
    go_ret
    exact ⟨rfl, hB1.out⟩

set_option maxRecDepth 100000 in
theorem lifted (os : Os) (started : os.Started) (H : Type) (enc : TypeId × Value → H) :
    ReturnsInHanded {} Tryz.checked os 3 .any (Rows.recordSealsSpec.pre6 enc Tryz.prog Tryz.f3 Rows.recordSealsRow.domain false) (Rows.recordSealsSpec.post enc Tryz.prog Tryz.f3 false true false false) := by
  refine returnsInHanded_of_change (C := Tryz.checked) own started (by kernel_rfl) Tryz.func3
    (ChangeSpec.witness6 (enc := enc) (C := Tryz.checked) false ⟨#[], #[.agg #[.int .i64 0, .int .i64 0, .int .i64 0, .int .i64 0, .int .i64 0, .int .i64 0, .int .i64 0, .int .i64 0, .int .i64 0, .int .i64 0], .string ByteArray.empty], []⟩ 8 (by kernel_rfl) (by kernel_rfl) (by kernel_rfl) (by kernel_rfl)) ?_
  intro W base args ds gs before hval0 hW hcnd _
  have hval : ∀ (j : Nat) t v, Tryz.f3.params[j]? = some t → args[j]? = some v → Value.okWide Tryz.prog W .any base t v := hval0
  have hW' := hW
  obtain ⟨p, q, hA0, hV, rfl, hfz, hnd⟩ := hW
  have hA : DataW.TrodAll enc Tryz.prog W 0 (fun _ => true) true Tryz.f3.params.toList args.toList ds p := hA0
  rw [Tryz.params3] at hA hval
  obtain ⟨v0, vs0, d0, ds0, p0, q0, hargs, rfl, rfl, h0, r0⟩ := trodAll_cons hA
  obtain ⟨v1, vs1, d1, ds1, p1, q1, rfl, rfl, rfl, h1, r1⟩ := trodAll_cons r0
  obtain ⟨rfl, rfl, rfl⟩ := trodAll_nil r1
  obtain rfl : args = #[v0, v1] := by cases args; simp_all
  obtain ⟨rfl, rfl⟩ := trodVars_none hV
  obtain ⟨c0, rfl, _⟩ := okWide_struct Tryz.underlying27 (hval 0 27 v0 rfl rfl)
  have k0 := h0
  have lt0 : ∀ x ∈ p0, x.block < W.heap.size := by obtain ⟨m, hm⟩ := k0; exact DataW.trod_lt m _ _ _ hm
  have w0 : Has W (.pair (.int .i64) (.pair (.int .i64) (.pair (.pair (.int .i64) (.pair (.int .i64) (.pair (.int .i64) (.pair (.int .i64) (.pair (.int .i64) (.pair (Sh.rep (.int .i64) 3) .unit)))))) .unit))) c0.toList := by obtain ⟨m, hm⟩ := h0; exact op27 _ _ _ _ _ _ _ _ _ hm
  obtain ⟨a1, rfl, rfl, rfl, w1⟩ := open_string Tryz.underlying9 (hval 1 9 v1 rfl rfl) h1
  clear hA0 hval0
  refine (walk c0 a1 W w0 w1).mono fun e W' ⟨he, bel⟩ => ?_
  subst he
  exact ⟨_, rfl, _, _, _, [], _, [], hW', trodAll_mk1 (shut_bool Tryz.underlying4 _), (trodAll_cons_mk (Below.trod laidOut (by kernel_rfl) (of_decide_eq_true (by kernel_rfl)) k0 bel lt0) (trodAll_cons_mk (shut_string Tryz.underlying9 w1) trodAll_mk0)), rfl, bel.frame _, fun h => by cases h⟩

theorem over : Rows.recordSealsRow.holds Tryz.pinned (OpenSpec.ofChange Rows.recordSealsSpec) :=
  OpenClaim.holds_of_wide 3 Tryz.f3 rfl rfl rfl rfl rfl rfl rfl ⟨rfl, rfl, rfl, rfl, rfl⟩ rfl rfl rfl rfl rfl (by kernel_rfl) Tryz.func3 (by kernel_rfl)
    (of_decide_eq_true (by kernel_rfl)) (by unfold Func.isWrapper; first | (rw [if_pos (by decide +kernel)]; kernel_rfl) | (rw [if_neg (by decide +kernel)]; exact ⟨rfl, rfl⟩))
    (fun os started H enc _ => lifted os started H enc)

/-- ████ THE STATEMENT ████ -/
theorem proved : Rows.RecordSealsSaid := over
end Go.Proofs.YtgooepfhapaenaaGreat.recordSeals
