/- The law RankNodes of the repository answers true for every input. No conditions. -/
import Derived.Test.YtipmlbbbjafpiaaRnkArgs
import Derived.Test.YtipmlbbbjafpiaaThgRef
import Derived.Test.YtipmlbbbjafpiaaRows
import Derived.WalkKit
import Derived.ProofKit
import Derived.OpenShut
import Derived.Below
import Derived.ShutString
import Derived.Carry
import Derived.Test.YtipmlbbbjafpiaaArgs
namespace Go.Proofs.Ytipmlbbbjafpiaa.rankNodes
open Go.ChangeShapes Go.WideShapes Go.ChangeAt Go.RowKit
open Go.ChangeMaps (open_string shut_string)
set_option linter.unusedVariables false
set_option linter.unusedSimpArgs false

theorem own : ownKnob Try.prog.godebug = none := by kernel_rfl
theorem laidOut : laidOutB Try.prog = true := by kernel_rfl
theorem op4 : Opens Try.prog 4 .bool := opens_bool Try.underlying4
theorem op3 : Opens Try.prog 3 (.int .i64) := opens_int Try.underlying3
theorem op23 : Opens Try.prog 23 (Sh.rep (.int .i64) 3) := opens_array Try.underlying23 (by kernel_rfl) (by kernel_rfl) op3
theorem op36 : Opens Try.prog 36 (.pair (.int .i64) (.pair (.int .i64) (.pair (.int .i64) (.pair (Sh.rep (.int .i64) 3) (.pair (Sh.rep (.int .i64) 3) (.pair .bool .unit)))))) := opens_struct Try.underlying36 (by kernel_rfl) (fields_cons rfl (by kernel_rfl) op3 (fields_cons rfl (by kernel_rfl) op3 (fields_cons rfl (by kernel_rfl) op3 (fields_cons rfl (by kernel_rfl) op23 (fields_cons rfl (by kernel_rfl) op23 (fields_cons rfl (by kernel_rfl) op4 fields_nil))))))

set_option maxRecDepth 100000 in
set_option maxHeartbeats 16000000 in
theorem walk (c0 : Array Value) (c1 : Array Value) (c2 : Array Value) (w : World) (w0 : Has w (.pair (.int .i64) (.pair (.int .i64) (.pair (.int .i64) (.pair (Sh.rep (.int .i64) 3) (.pair (Sh.rep (.int .i64) 3) (.pair .bool .unit)))))) c0.toList) (w1 : Has w (.pair (.int .i64) (.pair (.int .i64) (.pair (.int .i64) (.pair (Sh.rep (.int .i64) 3) (.pair (Sh.rep (.int .i64) 3) (.pair .bool .unit)))))) c1.toList) (w2 : Has w (Sh.rep (.int .i64) 3) c2.toList) :
    Calls Try.prog 4 #[.agg c0, .agg c1, .agg c2] w fun e w' => e = .returned (.bool true) ∧ Below w.heap.size w w' := by
  obtain ⟨x, hx, rfl⟩ := node_came w0
  obtain ⟨y, hy, rfl⟩ := node_came w1
  obtain ⟨v, hv, rfl⟩ := need_came w2
  clear w0 w1 w2
  have N1 := fun w => grw_call (rnode_any x y w)
  have N2 := fun w => grw_call (knode_any x y w)
  have K1 := fun w => grw_call (rnkey_any x w)
  have F1 := fun w => rfree_any x w
  have F2 := fun w => kfree_any x w
  have T1 := fun w => rtakes_any x v w hv
  have T2 := fun w => ktakes_any x v w
  have AW := Lib.hid fun w => rank_awake w
  have EK := fun w => eqK_run w (keyN x) (keyN x)
  rw [show eq3 (keyN x) (keyN x) = true from (eq3_iff _ _).2 rfl] at EK
  have EF := fun w => eq3_same (freeV x) w
  generalize freeV x = f at *
  generalize ndTakes x v = t at *
  generalize nodeB x y = b at *
  unfold keyN at K1 EK
  unfold V3.val at K1 F1 F2 T1 T2
  unfold Nd.val at N1 N2 K1 F1 F2 T1 T2
  dsimp only at K1 EK
  replace N1 := Lib.hid N1
  replace N2 := Lib.hid N2
  replace K1 := Lib.hid K1
  replace F1 := Lib.hid F1
  replace F2 := Lib.hid F2
  replace T1 := Lib.hid T1
  replace T2 := Lib.hid T2
  unfold Nd.row
  obtain ⟨W, hW⟩ : ∃ W, W = (twoN w x y).alloc (.cells #[.int .i64 v.a, .int .i64 v.b, .int .i64 v.c] 23) := ⟨_, rfl⟩
  have hbs : BNod w.heap.size x W ∧ BNod (w.heap.size + 1) y W ∧ BX (w.heap.size + 1 + 1) v W ∧ Below w.heap.size w W := by
    rw [hW]
    refine ⟨blk_old _ (twoN_blk w x y).1, blk_old _ (twoN_blk w x y).2, blk3 _ _ _ _, ((twoN_grw w x y).below).alloc ?_ _⟩
    unfold twoN; simp; omega
  have HB := Lib.hid hbs
  have HL := Lib.hid (show ∀ w', Below W.heap.size W w' → (w'.cell? ⟨w.heap.size, 0, none⟩ = some (.int .i64 x.id) ∧ w'.cell? ⟨w.heap.size, 1, none⟩ = some (.int .i64 x.inc) ∧ w'.cell? ⟨w.heap.size, 2, none⟩ = some (.int .i64 x.load) ∧ w'.cell? ⟨w.heap.size, 3, none⟩ = some (.int .i64 x.cap.a) ∧ w'.cell? ⟨w.heap.size, 4, none⟩ = some (.int .i64 x.cap.b) ∧ w'.cell? ⟨w.heap.size, 5, none⟩ = some (.int .i64 x.cap.c) ∧ w'.cell? ⟨w.heap.size, 6, none⟩ = some (.int .i64 x.used.a) ∧ w'.cell? ⟨w.heap.size, 7, none⟩ = some (.int .i64 x.used.b) ∧ w'.cell? ⟨w.heap.size, 8, none⟩ = some (.int .i64 x.used.c) ∧ w'.cell? ⟨w.heap.size, 9, none⟩ = some (.bool x.up)) ∧ (w'.cell? ⟨w.heap.size + 1, 0, none⟩ = some (.int .i64 y.id) ∧ w'.cell? ⟨w.heap.size + 1, 1, none⟩ = some (.int .i64 y.inc) ∧ w'.cell? ⟨w.heap.size + 1, 2, none⟩ = some (.int .i64 y.load) ∧ w'.cell? ⟨w.heap.size + 1, 3, none⟩ = some (.int .i64 y.cap.a) ∧ w'.cell? ⟨w.heap.size + 1, 4, none⟩ = some (.int .i64 y.cap.b) ∧ w'.cell? ⟨w.heap.size + 1, 5, none⟩ = some (.int .i64 y.cap.c) ∧ w'.cell? ⟨w.heap.size + 1, 6, none⟩ = some (.int .i64 y.used.a) ∧ w'.cell? ⟨w.heap.size + 1, 7, none⟩ = some (.int .i64 y.used.b) ∧ w'.cell? ⟨w.heap.size + 1, 8, none⟩ = some (.int .i64 y.used.c) ∧ w'.cell? ⟨w.heap.size + 1, 9, none⟩ = some (.bool y.up)) ∧ (w'.cell? ⟨w.heap.size + 1 + 1, 0, none⟩ = some (.int .i64 v.a) ∧ w'.cell? ⟨w.heap.size + 1 + 1, 1, none⟩ = some (.int .i64 v.b) ∧ w'.cell? ⟨w.heap.size + 1 + 1, 2, none⟩ = some (.int .i64 v.c)) from fun w' hb => ⟨(hbs.1.below hb hbs.1.lt).cells, (hbs.2.1.below hb hbs.2.1.lt).cells, bx_cells (bx_below hbs.2.2.1 hb)⟩)
  have HWE := Lib.hid hW
  clear hbs hW
  go_enter Try.func4, Try.ntmps4
  go_wp2_with fail
  change Code.wp _ _ _ _ ((twoN w x y).alloc (.cells #[.int .i64 v.a, .int .i64 v.b, .int .i64 v.c] 23))
  rw [← HWE.out]
  refine wp_region_hold (fun w' => Below W.heap.size W w') (by kernel_rfl) (by kernel_rfl) ⟨rfl, rfl, rfl, Nat.le_refl _, fun _ _ => rfl⟩ ?_
  repeat
    first
    | (refine hold_val (v := ?_) (by rfl) ?_ ?_
       rotate_left
       · (intro w' hS
          obtain ⟨⟨_, _, _, _, _, _, _, _, _, _⟩, ⟨_, _, _, _, _, _, _, _, _, _⟩, _, _, _⟩ := HL.out w' hS
          go_simp
          try with_reducible rfl)
       simp only [Act.put, List.setIfInBounds_toArray, List.set_cons_zero, List.set_cons_succ])
    | (refine hold_skip (by rfl) ?_
       simp only [Act.put, List.setIfInBounds_toArray, List.set_cons_zero, List.set_cons_succ])
    | ((first
        | (refine hold_call (by rfl) ?_ (fun w' hS => made_call hS (Nat.le_refl _) (N1.out w')) ?_; focus (intro w' hS; go_simp; done))
        | (refine hold_call (by rfl) ?_ (fun w' hS => made_call hS (Nat.le_refl _) (N2.out w')) ?_; focus (intro w' hS; go_simp; done))
        | (refine hold_call (by rfl) ?_ (fun w' hS => made_call hS (Nat.le_refl _) (K1.out w')) ?_; focus (intro w' hS; go_simp; done))
        | (refine hold_call (by rfl) ?_ (fun w' hS => made_call hS (Nat.le_refl _) (F1.out w')) ?_; focus (intro w' hS; go_simp; done))
        | (refine hold_call (by rfl) ?_ (fun w' hS => made_call hS (Nat.le_refl _) (F2.out w')) ?_; focus (intro w' hS; go_simp; done))
        | (refine hold_call (by rfl) ?_ (fun w' hS => made_call hS (Nat.le_refl _) (T1.out w')) ?_; focus (intro w' hS; go_simp; done))
        | (refine hold_call (by rfl) ?_ (fun w' hS => made_call hS (Nat.le_refl _) (T2.out w')) ?_; focus (intro w' hS; go_simp; done))
        | (refine hold_call (by rfl) ?_ (fun w' hS => made_call hS (Nat.le_refl _) (AW.out w')) ?_; focus (intro w' hS; go_simp; done)))
       simp only [Act.put, List.setIfInBounds_toArray, List.set_cons_zero, List.set_cons_succ])
  refine hold_nil (fun wx hS => ?_)
  have HF := Lib.hid (HB.out.2.2.2.trans (hS.mono HB.out.2.2.2.size))
  clear hS
  go_wp2_with fail
  go_ret
  exact ⟨rfl, HF.out⟩

set_option maxRecDepth 100000 in
theorem lifted (os : Os) (started : os.Started) (H : Type) (enc : TypeId × Value → H) :
    ReturnsInHanded {} Try.checked os 4 .any (Rows.rankNodesSpec.pre6 enc Try.prog Try.f4 Rows.rankNodesRow.domain false) (Rows.rankNodesSpec.post enc Try.prog Try.f4 false true false false) := by
  refine returnsInHanded_of_change (C := Try.checked) own started (by kernel_rfl) Try.func4
    (ChangeSpec.witness6 (enc := enc) (C := Try.checked) false ⟨#[], #[.agg #[.int .i64 0, .int .i64 0, .int .i64 0, .int .i64 0, .int .i64 0, .int .i64 0, .int .i64 0, .int .i64 0, .int .i64 0, .bool false], .agg #[.int .i64 0, .int .i64 0, .int .i64 0, .int .i64 0, .int .i64 0, .int .i64 0, .int .i64 0, .int .i64 0, .int .i64 0, .bool false], .agg #[.int .i64 0, .int .i64 0, .int .i64 0]], []⟩ 8 (by kernel_rfl) (by kernel_rfl) (by kernel_rfl) (by kernel_rfl)) ?_
  intro W base args ds gs before hval0 hW hcnd _
  have hval : ∀ (j : Nat) t v, Try.f4.params[j]? = some t → args[j]? = some v → Value.okWide Try.prog W .any base t v := hval0
  have hW' := hW
  obtain ⟨p, q, hA0, hV, rfl, hfz, hnd⟩ := hW
  have hA : DataW.TrodAll enc Try.prog W 0 (fun _ => true) true Try.f4.params.toList args.toList ds p := hA0
  rw [Try.params4] at hA hval
  obtain ⟨v0, vs0, d0, ds0, p0, q0, hargs, rfl, rfl, h0, r0⟩ := trodAll_cons hA
  obtain ⟨v1, vs1, d1, ds1, p1, q1, rfl, rfl, rfl, h1, r1⟩ := trodAll_cons r0
  obtain ⟨v2, vs2, d2, ds2, p2, q2, rfl, rfl, rfl, h2, r2⟩ := trodAll_cons r1
  obtain ⟨rfl, rfl, rfl⟩ := trodAll_nil r2
  obtain rfl : args = #[v0, v1, v2] := by cases args; simp_all
  obtain ⟨rfl, rfl⟩ := trodVars_none hV
  obtain ⟨c0, rfl, _⟩ := okWide_struct Try.underlying36 (hval 0 36 v0 rfl rfl)
  have k0 := h0
  have lt0 : ∀ x ∈ p0, x.block < W.heap.size := by obtain ⟨m, hm⟩ := k0; exact DataW.trod_lt m _ _ _ hm
  have w0 : Has W (.pair (.int .i64) (.pair (.int .i64) (.pair (.int .i64) (.pair (Sh.rep (.int .i64) 3) (.pair (Sh.rep (.int .i64) 3) (.pair .bool .unit)))))) c0.toList := by obtain ⟨m, hm⟩ := h0; exact op36 _ _ _ _ _ _ _ _ _ hm
  obtain ⟨c1, rfl, _⟩ := okWide_struct Try.underlying36 (hval 1 36 v1 rfl rfl)
  have k1 := h1
  have lt1 : ∀ x ∈ p1, x.block < W.heap.size := by obtain ⟨m, hm⟩ := k1; exact DataW.trod_lt m _ _ _ hm
  have w1 : Has W (.pair (.int .i64) (.pair (.int .i64) (.pair (.int .i64) (.pair (Sh.rep (.int .i64) 3) (.pair (Sh.rep (.int .i64) 3) (.pair .bool .unit)))))) c1.toList := by obtain ⟨m, hm⟩ := h1; exact op36 _ _ _ _ _ _ _ _ _ hm
  obtain ⟨c2, rfl, _⟩ := okWide_array Try.underlying23 (hval 2 23 v2 rfl rfl)
  have k2 := h2
  have lt2 : ∀ x ∈ p2, x.block < W.heap.size := by obtain ⟨m, hm⟩ := k2; exact DataW.trod_lt m _ _ _ hm
  have w2 : Has W (Sh.rep (.int .i64) 3) c2.toList := by obtain ⟨m, hm⟩ := h2; exact op23 _ _ _ _ _ _ _ _ _ hm
  clear hA0 hval0
  refine (walk c0 c1 c2 W w0 w1 w2).mono fun e W' ⟨he, bel⟩ => ?_
  subst he
  exact ⟨_, rfl, _, _, _, [], _, [], hW', trodAll_mk1 (shut_bool Try.underlying4 _), (trodAll_cons_mk (Below.trod laidOut (by kernel_rfl) (of_decide_eq_true (by kernel_rfl)) k0 bel lt0) (trodAll_cons_mk (Below.trod laidOut (by kernel_rfl) (of_decide_eq_true (by kernel_rfl)) k1 bel lt1) (trodAll_cons_mk (Below.trod laidOut (by kernel_rfl) (of_decide_eq_true (by kernel_rfl)) k2 bel lt2) trodAll_mk0))), rfl, bel.frame _, fun h => by cases h⟩

theorem over : Rows.rankNodesRow.holds Try.pinned (OpenSpec.ofChange Rows.rankNodesSpec) :=
  OpenClaim.holds_of_wide 4 Try.f4 rfl rfl rfl rfl rfl rfl rfl ⟨rfl, rfl, rfl, rfl, rfl⟩ rfl rfl rfl rfl rfl (by kernel_rfl) Try.func4 (by kernel_rfl)
    (of_decide_eq_true (by kernel_rfl)) (by unfold Func.isWrapper; first | (rw [if_pos (by decide +kernel)]; kernel_rfl) | (rw [if_neg (by decide +kernel)]; exact ⟨rfl, rfl⟩))
    (fun os started H enc _ => lifted os started H enc)

/-- ████ THE STATEMENT ████ -/
theorem proved : Rows.RankNodesSaid := over
end Go.Proofs.Ytipmlbbbjafpiaa.rankNodes
