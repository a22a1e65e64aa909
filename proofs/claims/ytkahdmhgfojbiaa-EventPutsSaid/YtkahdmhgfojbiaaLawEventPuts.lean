/- The law EventPuts of the repository answers true for every input. No conditions. -/
import Derived.Test.YtkahdmhgfojbiaaEvtW
import Derived.Test.YtkahdmhgfojbiaaEvtArgs
import Derived.Test.YtkahdmhgfojbiaaRows
import Derived.WalkKit
import Derived.ProofKit
import Derived.OpenShut
import Derived.Below
import Derived.ShutString
import Derived.Carry
import Derived.Test.YtkahdmhgfojbiaaArgs
namespace Go.Proofs.Ytkahdmhgfojbiaa.eventPuts
open Go.ChangeShapes Go.WideShapes Go.ChangeAt Go.RowKit
open Go.ChangeMaps (open_string shut_string)
set_option linter.unusedVariables false
set_option linter.unusedSimpArgs false

theorem own : ownKnob Try.prog.godebug = none := by kernel_rfl
theorem laidOut : laidOutB Try.prog = true := by kernel_rfl
theorem op3 : Opens Try.prog 3 (.int .i64) := opens_int Try.underlying3
theorem op23 : Opens Try.prog 23 (Sh.rep (.int .i64) 3) := opens_array Try.underlying23 (by kernel_rfl) (by kernel_rfl) op3
theorem op25 : Opens Try.prog 25 (.pair (.int .i64) (.pair (.int .i64) (.pair (.int .i64) (.pair (.int .i64) (.pair (.int .i64) (.pair (Sh.rep (.int .i64) 3) .unit)))))) := opens_struct Try.underlying25 (by kernel_rfl) (fields_cons rfl (by kernel_rfl) op3 (fields_cons rfl (by kernel_rfl) op3 (fields_cons rfl (by kernel_rfl) op3 (fields_cons rfl (by kernel_rfl) op3 (fields_cons rfl (by kernel_rfl) op3 (fields_cons rfl (by kernel_rfl) op23 fields_nil))))))

set_option maxRecDepth 100000 in
set_option maxHeartbeats 16000000 in
theorem walk (c0 : Array Value) (w : World) (w0 : Has w (.pair (.int .i64) (.pair (.int .i64) (.pair (.int .i64) (.pair (.int .i64) (.pair (.int .i64) (.pair (Sh.rep (.int .i64) 3) .unit)))))) c0.toList) :
    Calls Try.prog 3 #[.agg c0] w fun e w' => e = .returned (.bool true) ∧ Below w.heap.size w w' := by
  obtain ⟨v, hv, rfl⟩ := evt_came w0
  clear w0
  have AW := Lib.hid fun w => event_awake w
  have P1 := Lib.hid fun w => evput_any v w hv
  have P2 := Lib.hid fun w => rputE_any v w hv
  have K1 := Lib.hid fun w => evcheck_any v w hv
  have K2 := Lib.hid fun w => rcheck_any v w
  have U1 := Lib.hid fun w => evpure_any v w hv
  have U2 := Lib.hid fun w => rpure_any v w
  generalize bs (putE v).1 = s at *
  generalize (putE v).2 = r at *
  generalize checkE v = q at *
  generalize pureE v = x at *
  have EQ := Lib.hid (show ∀ w, (binOp .eql 25 x.val x.val).run Try.prog w = .ok (.bool true) w from fun w => by rw [eqlE_run, eqE_self])
  have EG := Lib.hid (fun w a b => eqlE_guard w x x a b)
  have dss : (s.toList == s.toList) = true := by simp
  have hbx : (w.alloc (.cells v.cells 25)).heap[w.heap.size]? = some (.cells v.cells 25 (0, 0)) := blk_new w _
  have hba : Below w.heap.size w (w.alloc (.cells v.cells 25)) := (Below.refl _ _).alloc (Nat.le_refl _) _
  have hrow : v.row.toArray = v.cells := rfl
  rw [hrow]
  have hP1 := P1
  have hP2 := P2
  unfold Evt.val at hP1 hP2
  unfold Evt.cells
  go_enter Try.func3, Try.ntmps3
  go_wp2_with fail
  refine (hP1.out _).mono ?_; rintro e w1 ⟨rfl, hB⟩
  rw [World.size_alloc] at hB
  have X1 := Lib.hid (blk_below hB hbx (by omega))
  have hB1 := Lib.hid (hba.trans (hB.mono (by omega)))
  have hl1 : w.heap.size + 1 ≤ w1.heap.size := by have := hB.size; simpa using this
  clear hB hbx hba
  obtain ⟨x0, x1, x2, x3, x4, x5, x6, x7⟩ := evt_cells X1.out
  go_wp2_with fail
  refine (hP2.out _).mono ?_; rintro e w2 ⟨rfl, hB⟩
  have hl2 : w1.heap.size ≤ w2.heap.size := hB.size
  have X2 := Lib.hid (blk_below hB X1.out (by omega))
  have hB2 := Lib.hid (hB1.out.trans (hB.mono hB1.out.size))
  clear hB X1 hB1 x0 x1 x2 x3 x4 x5 x6 x7
  go_wp2_with fail
  refine wp_region_hold (fun w' => Below w2.heap.size w2 w') (by kernel_rfl) (by kernel_rfl) ⟨rfl, rfl, rfl, Nat.le_refl _, fun _ _ => rfl⟩ ?_
  have HL := Lib.hid (show ∀ w', Below w2.heap.size w2 w' → w'.heap[w.heap.size]? = some (.cells v.cells 25 (0, 0)) from fun w' hb => blk_below hb X2.out (by omega))
  repeat
    first
    | (refine hold_call (v := .int .i64 q) (by rfl) ?_ (fun w' hS => made_call hS (Nat.le_refl _) (K1.out w')) ?_
       · (intro w' hS; go_simp; done)
       simp only [Act.put, List.setIfInBounds_toArray, List.set_cons_zero, List.set_cons_succ])
    | (refine hold_call (v := .int .i64 q) (by rfl) ?_ (fun w' hS => made_call hS (Nat.le_refl _) (K2.out w')) ?_
       · (intro w' hS; go_simp; done)
       simp only [Act.put, List.setIfInBounds_toArray, List.set_cons_zero, List.set_cons_succ])
    | (refine hold_call (v := x.val) (by rfl) ?_ (fun w' hS => made_call hS (Nat.le_refl _) (U1.out w')) ?_
       · (intro w' hS; go_simp; done)
       simp only [Act.put, List.setIfInBounds_toArray, List.set_cons_zero, List.set_cons_succ])
    | (refine hold_call (v := x.val) (by rfl) ?_ (fun w' hS => made_call hS (Nat.le_refl _) (U2.out w')) ?_
       · (intro w' hS; go_simp; done)
       simp only [Act.put, List.setIfInBounds_toArray, List.set_cons_zero, List.set_cons_succ])
    | (refine hold_call (v := .bool true) (by rfl) ?_ (fun w' hS => made_call hS (Nat.le_refl _) (AW.out w')) ?_
       · (intro w' hS; go_simp; done)
       simp only [Act.put, List.setIfInBounds_toArray, List.set_cons_zero, List.set_cons_succ])
    | (refine hold_val (v := v.val) (by rfl) ?_ ?_
       · (intro w' hS
          obtain ⟨x0, x1, x2, x3, x4, x5, x6, x7⟩ := evt_cells (HL.out w' hS)
          unfold Evt.val
          go_simp
          done)
       simp only [Act.put, List.setIfInBounds_toArray, List.set_cons_zero, List.set_cons_succ])
    | (refine hold_val (v := ?_) (by rfl) ?_ ?_
       rotate_left
       · (intro w' hS
          have e1 := EQ.out w'
          have e2 := EG.out w'
          go_simp
          try with_reducible rfl)
       simp only [Act.put, List.setIfInBounds_toArray, List.set_cons_zero, List.set_cons_succ])
    | (refine hold_skip (by rfl) ?_
       simp only [Act.put, List.setIfInBounds_toArray, List.set_cons_zero, List.set_cons_succ])
  refine hold_nil (fun w' hS => ?_)
  have HF := Lib.hid (hB2.out.trans (hS.mono hB2.out.size))
  clear hS
  go_wp2_with fail
  go_ret
  exact ⟨rfl, HF.out⟩

set_option maxRecDepth 100000 in
theorem lifted (os : Os) (started : os.Started) (H : Type) (enc : TypeId × Value → H) :
    ReturnsInHanded {} Try.checked os 3 .any (Rows.eventPutsSpec.pre6 enc Try.prog Try.f3 Rows.eventPutsRow.domain false) (Rows.eventPutsSpec.post enc Try.prog Try.f3 false true false false) := by
  refine returnsInHanded_of_change (C := Try.checked) own started (by kernel_rfl) Try.func3
    (ChangeSpec.witness6 (enc := enc) (C := Try.checked) false ⟨#[], #[.agg #[.int .i64 0, .int .i64 0, .int .i64 0, .int .i64 0, .int .i64 0, .int .i64 0, .int .i64 0, .int .i64 0]], []⟩ 8 (by kernel_rfl) (by kernel_rfl) (by kernel_rfl) (by kernel_rfl)) ?_
  intro W base args ds gs before hval0 hW hcnd _
  have hval : ∀ (j : Nat) t v, Try.f3.params[j]? = some t → args[j]? = some v → Value.okWide Try.prog W .any base t v := hval0
  have hW' := hW
  obtain ⟨p, q, hA0, hV, rfl, hfz, hnd⟩ := hW
  have hA : DataW.TrodAll enc Try.prog W 0 (fun _ => true) true Try.f3.params.toList args.toList ds p := hA0
  rw [Try.params3] at hA hval
  obtain ⟨v0, vs0, d0, ds0, p0, q0, hargs, rfl, rfl, h0, r0⟩ := trodAll_cons hA
  obtain ⟨rfl, rfl, rfl⟩ := trodAll_nil r0
  obtain rfl : args = #[v0] := by cases args; simp_all
  obtain ⟨rfl, rfl⟩ := trodVars_none hV
  obtain ⟨c0, rfl, _⟩ := okWide_struct Try.underlying25 (hval 0 25 v0 rfl rfl)
  have k0 := h0
  have lt0 : ∀ x ∈ p0, x.block < W.heap.size := by obtain ⟨m, hm⟩ := k0; exact DataW.trod_lt m _ _ _ hm
  have w0 : Has W (.pair (.int .i64) (.pair (.int .i64) (.pair (.int .i64) (.pair (.int .i64) (.pair (.int .i64) (.pair (Sh.rep (.int .i64) 3) .unit)))))) c0.toList := by obtain ⟨m, hm⟩ := h0; exact op25 _ _ _ _ _ _ _ _ _ hm
  clear hA0 hval0
  refine (walk c0 W w0).mono fun e W' ⟨he, bel⟩ => ?_
  subst he
  exact ⟨_, rfl, _, _, _, [], _, [], hW', trodAll_mk1 (shut_bool Try.underlying4 _), (trodAll_cons_mk (Below.trod laidOut (by kernel_rfl) (of_decide_eq_true (by kernel_rfl)) k0 bel lt0) trodAll_mk0), rfl, bel.frame _, fun h => by cases h⟩

theorem over : Rows.eventPutsRow.holds Try.pinned (OpenSpec.ofChange Rows.eventPutsSpec) :=
  OpenClaim.holds_of_wide 3 Try.f3 rfl rfl rfl rfl rfl rfl rfl ⟨rfl, rfl, rfl, rfl, rfl⟩ rfl rfl rfl rfl rfl (by kernel_rfl) Try.func3 (by kernel_rfl)
    (of_decide_eq_true (by kernel_rfl)) (by unfold Func.isWrapper; first | (rw [if_pos (by decide +kernel)]; kernel_rfl) | (rw [if_neg (by decide +kernel)]; exact ⟨rfl, rfl⟩))
    (fun os started H enc _ => lifted os started H enc)

/-- ████ THE STATEMENT ████ -/
theorem proved : Rows.EventPutsSaid := over
end Go.Proofs.Ytkahdmhgfojbiaa.eventPuts
