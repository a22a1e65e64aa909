/- The law RankOrders of the repository answers true for every input. No conditions. -/
import Derived.Test.YtipmlbbbjafpiaaRnkI
import Derived.Test.YtipmlbbbjafpiaaThgRef
import Derived.Test.YtipmlbbbjafpiaaRows
import Derived.WalkKit
import Derived.ProofKit
import Derived.OpenShut
import Derived.Below
import Derived.ShutString
import Derived.Carry
import Derived.Test.YtipmlbbbjafpiaaArgs
namespace Go.Proofs.Ytipmlbbbjafpiaa.rankOrders
open Go.ChangeShapes Go.WideShapes Go.ChangeAt Go.RowKit
open Go.ChangeMaps (open_string shut_string)
set_option linter.unusedVariables false
set_option linter.unusedSimpArgs false

theorem own : ownKnob Try.prog.godebug = none := by kernel_rfl
theorem laidOut : laidOutB Try.prog = true := by kernel_rfl
theorem op3 : Opens Try.prog 3 (.int .i64) := opens_int Try.underlying3
theorem op23 : Opens Try.prog 23 (Sh.rep (.int .i64) 3) := opens_array Try.underlying23 (by kernel_rfl) (by kernel_rfl) op3
theorem op25 : Opens Try.prog 25 (.pair (.int .i64) (.pair (.int .i64) (.pair (.int .i64) (.pair (.int .i64) (.pair (.int .i64) (.pair (Sh.rep (.int .i64) 3) .unit)))))) := opens_struct Try.underlying25 (by kernel_rfl) (fields_cons rfl (by kernel_rfl) op3 (fields_cons rfl (by kernel_rfl) op3 (fields_cons rfl (by kernel_rfl) op3 (fields_cons rfl (by kernel_rfl) op3 (fields_cons rfl (by kernel_rfl) op3 (fields_cons rfl (by kernel_rfl) op23 fields_nil))))))
theorem op42 : Opens Try.prog 42 (Sh.rep (.pair (.int .i64) (.pair (.int .i64) (.pair (.int .i64) (.pair (.int .i64) (.pair (.int .i64) (.pair (Sh.rep (.int .i64) 3) .unit)))))) 3) := opens_array Try.underlying42 (by kernel_rfl) (by kernel_rfl) op25
theorem op4 : Opens Try.prog 4 .bool := opens_bool Try.underlying4
theorem op36 : Opens Try.prog 36 (.pair (.int .i64) (.pair (.int .i64) (.pair (.int .i64) (.pair (Sh.rep (.int .i64) 3) (.pair (Sh.rep (.int .i64) 3) (.pair .bool .unit)))))) := opens_struct Try.underlying36 (by kernel_rfl) (fields_cons rfl (by kernel_rfl) op3 (fields_cons rfl (by kernel_rfl) op3 (fields_cons rfl (by kernel_rfl) op3 (fields_cons rfl (by kernel_rfl) op23 (fields_cons rfl (by kernel_rfl) op23 (fields_cons rfl (by kernel_rfl) op4 fields_nil))))))
theorem op43 : Opens Try.prog 43 (Sh.rep (.pair (.int .i64) (.pair (.int .i64) (.pair (.int .i64) (.pair (Sh.rep (.int .i64) 3) (.pair (Sh.rep (.int .i64) 3) (.pair .bool .unit)))))) 3) := opens_array Try.underlying43 (by kernel_rfl) (by kernel_rfl) op36

theorem rblock_x {Q : Exit → Act → World → Prop} {a : Act} {w : World} {id : Nat} (h : Q .normal a w) : Exit.inBlock id Q (.exit id) a w := by
  simpa [Exit.inBlock] using h

set_option maxRecDepth 100000 in
set_option maxHeartbeats 16000000 in
theorem walk (c0 : Array Value) (c1 : Array Value) (w : World) (w0 : Has w (Sh.rep (.pair (.int .i64) (.pair (.int .i64) (.pair (.int .i64) (.pair (.int .i64) (.pair (.int .i64) (.pair (Sh.rep (.int .i64) 3) .unit)))))) 3) c0.toList) (w1 : Has w (Sh.rep (.pair (.int .i64) (.pair (.int .i64) (.pair (.int .i64) (.pair (Sh.rep (.int .i64) 3) (.pair (Sh.rep (.int .i64) 3) (.pair .bool .unit)))))) 3) c1.toList) :
    Calls Try.prog 5 #[.agg c0, .agg c1] w fun e w' => e = .returned (.bool true) ∧ Below w.heap.size w w' := by
  obtain ⟨x, y, z, hx, hy, hz, rfl⟩ := jobs3_came w0
  obtain ⟨p, q, r, hp, hq, hr, rfl⟩ := nodes3_came w1
  clear w0 w1
  have hb1 := (blk_pair w (.cells (x.row ++ (y.row ++ z.row)).toArray 42) (.cells (p.row ++ (q.row ++ r.row)).toArray 43)).1
  have hb2 := (blk_pair w (.cells (x.row ++ (y.row ++ z.row)).toArray 42) (.cells (p.row ++ (q.row ++ r.row)).toArray 43)).2
  have HB := Lib.hid (((Below.refl w.heap.size w).alloc (Nat.le_refl _) (.cells (x.row ++ (y.row ++ z.row)).toArray 42)).alloc (by simp) (.cells (p.row ++ (q.row ++ r.row)).toArray 43))
  have AW := Lib.hid fun w => rank_awake w
  have HX := Lib.hid hb1
  have HY := Lib.hid hb2
  have OK := Lib.hid (show x.ok ∧ y.ok ∧ z.ok ∧ p.ok ∧ q.ok ∧ r.ok from ⟨hx, hy, hz, hp, hq, hr⟩)
  clear hb1 hb2 hx hy hz hp hq hr
  go_enter Try.func5, Try.ntmps5
  go_upto_block 0 with (fail)
  repeat refine wp_seq ?_
  refine wp_block ?_
  refine rloop _ _ _ _ _ x y z p q r OK.out.1 OK.out.2.1 OK.out.2.2.1 OK.out.2.2.2.1 OK.out.2.2.2.2.1 OK.out.2.2.2.2.2 ⟨rfl, rfl, rfl, rfl, rfl⟩ HX.out HY.out (fun A1 w1 L1 b1 => ?_)
  have HF := Lib.hid (HB.out.trans (b1.mono HB.out.size))
  obtain ⟨bs, bd, l2, l3, l5⟩ := L1
  clear b1 l2 l3 l5 HX HY HB OK
  repeat first | with_reducible refine rblock_x ?_ | with_reducible refine rthen_n ?_
  go_wp2_with fail
  refine (AW.out _).mono ?_; rintro e w2 ⟨rfl, b2⟩
  replace HF := Lib.hid (HF.out.trans (b2.mono HF.out.size))
  clear b2
  go_wp2_with fail
  exact fv_ret (i := 4) rfl (sl_eq _ (by simp only [Array.size_setIfInBounds, bs]; decide)) rfl ⟨rfl, HF.out⟩

set_option maxRecDepth 100000 in
theorem lifted (os : Os) (started : os.Started) (H : Type) (enc : TypeId × Value → H) :
    ReturnsInHanded {} Try.checked os 5 .any (Rows.rankOrdersSpec.pre6 enc Try.prog Try.f5 Rows.rankOrdersRow.domain false) (Rows.rankOrdersSpec.post enc Try.prog Try.f5 false true false false) := by
  refine returnsInHanded_of_change (C := Try.checked) own started (by kernel_rfl) Try.func5
    (ChangeSpec.witness6 (enc := enc) (C := Try.checked) false ⟨#[], #[.agg #[.int .i64 0, .int .i64 0, .int .i64 0, .int .i64 0, .int .i64 0, .int .i64 0, .int .i64 0, .int .i64 0, .int .i64 0, .int .i64 0, .int .i64 0, .int .i64 0, .int .i64 0, .int .i64 0, .int .i64 0, .int .i64 0, .int .i64 0, .int .i64 0, .int .i64 0, .int .i64 0, .int .i64 0, .int .i64 0, .int .i64 0, .int .i64 0], .agg #[.int .i64 0, .int .i64 0, .int .i64 0, .int .i64 0, .int .i64 0, .int .i64 0, .int .i64 0, .int .i64 0, .int .i64 0, .bool false, .int .i64 0, .int .i64 0, .int .i64 0, .int .i64 0, .int .i64 0, .int .i64 0, .int .i64 0, .int .i64 0, .int .i64 0, .bool false, .int .i64 0, .int .i64 0, .int .i64 0, .int .i64 0, .int .i64 0, .int .i64 0, .int .i64 0, .int .i64 0, .int .i64 0, .bool false]], []⟩ 8 (by kernel_rfl) (by kernel_rfl) (by kernel_rfl) (by kernel_rfl)) ?_
  intro W base args ds gs before hval0 hW hcnd _
  have hval : ∀ (j : Nat) t v, Try.f5.params[j]? = some t → args[j]? = some v → Value.okWide Try.prog W .any base t v := hval0
  have hW' := hW
  obtain ⟨p, q, hA0, hV, rfl, hfz, hnd⟩ := hW
  have hA : DataW.TrodAll enc Try.prog W 0 (fun _ => true) true Try.f5.params.toList args.toList ds p := hA0
  rw [Try.params5] at hA hval
  obtain ⟨v0, vs0, d0, ds0, p0, q0, hargs, rfl, rfl, h0, r0⟩ := trodAll_cons hA
  obtain ⟨v1, vs1, d1, ds1, p1, q1, rfl, rfl, rfl, h1, r1⟩ := trodAll_cons r0
  obtain ⟨rfl, rfl, rfl⟩ := trodAll_nil r1
  obtain rfl : args = #[v0, v1] := by cases args; simp_all
  obtain ⟨rfl, rfl⟩ := trodVars_none hV
  obtain ⟨c0, rfl, _⟩ := okWide_array Try.underlying42 (hval 0 42 v0 rfl rfl)
  have k0 := h0
  have lt0 : ∀ x ∈ p0, x.block < W.heap.size := by obtain ⟨m, hm⟩ := k0; exact DataW.trod_lt m _ _ _ hm
  have w0 : Has W (Sh.rep (.pair (.int .i64) (.pair (.int .i64) (.pair (.int .i64) (.pair (.int .i64) (.pair (.int .i64) (.pair (Sh.rep (.int .i64) 3) .unit)))))) 3) c0.toList := by obtain ⟨m, hm⟩ := h0; exact op42 _ _ _ _ _ _ _ _ _ hm
  obtain ⟨c1, rfl, _⟩ := okWide_array Try.underlying43 (hval 1 43 v1 rfl rfl)
  have k1 := h1
  have lt1 : ∀ x ∈ p1, x.block < W.heap.size := by obtain ⟨m, hm⟩ := k1; exact DataW.trod_lt m _ _ _ hm
  have w1 : Has W (Sh.rep (.pair (.int .i64) (.pair (.int .i64) (.pair (.int .i64) (.pair (Sh.rep (.int .i64) 3) (.pair (Sh.rep (.int .i64) 3) (.pair .bool .unit)))))) 3) c1.toList := by obtain ⟨m, hm⟩ := h1; exact op43 _ _ _ _ _ _ _ _ _ hm
  clear hA0 hval0
  refine (walk c0 c1 W w0 w1).mono fun e W' ⟨he, bel⟩ => ?_
  subst he
  exact ⟨_, rfl, _, _, _, [], _, [], hW', trodAll_mk1 (shut_bool Try.underlying4 _), (trodAll_cons_mk (Below.trod laidOut (by kernel_rfl) (of_decide_eq_true (by kernel_rfl)) k0 bel lt0) (trodAll_cons_mk (Below.trod laidOut (by kernel_rfl) (of_decide_eq_true (by kernel_rfl)) k1 bel lt1) trodAll_mk0)), rfl, bel.frame _, fun h => by cases h⟩

theorem over : Rows.rankOrdersRow.holds Try.pinned (OpenSpec.ofChange Rows.rankOrdersSpec) :=
  OpenClaim.holds_of_wide 5 Try.f5 rfl rfl rfl rfl rfl rfl rfl ⟨rfl, rfl, rfl, rfl, rfl⟩ rfl rfl rfl rfl rfl (by kernel_rfl) Try.func5 (by kernel_rfl)
    (of_decide_eq_true (by kernel_rfl)) (by unfold Func.isWrapper; first | (rw [if_pos (by decide +kernel)]; kernel_rfl) | (rw [if_neg (by decide +kernel)]; exact ⟨rfl, rfl⟩))
    (fun os started H enc _ => lifted os started H enc)

/-- ████ THE STATEMENT ████ -/
theorem proved : Rows.RankOrdersSaid := over
end Go.Proofs.Ytipmlbbbjafpiaa.rankOrders
