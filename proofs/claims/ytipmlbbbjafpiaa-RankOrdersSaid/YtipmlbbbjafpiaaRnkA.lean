/- What package rank's comparisons and keys come to, and the document's own. Conditions: as stated. -/
import Derived.Test.YtipmlbbbjafpiaaHpqB
import Derived.Test.YtipmlbbbjafpiaaRnkPlain
namespace Go.Proofs.Ytipmlbbbjafpiaa
open Go.ChangeShapes Go.WideShapes Go.ChangeAt Go.RowKit
set_option linter.unusedVariables false
set_option maxRecDepth 100000
set_option linter.unusedSimpArgs false

theorem grw_two (w : World) (o1 o2 : Obj) : Grw w ((w.alloc o1).alloc o2) := ⟨0, #[o1] ++ #[o2], by
  rw [Go.Sort.alloc_eq_grow, Go.Sort.alloc_eq_grow, Go.Sort.grow_grow]; rfl⟩
theorem grw_refl (w : World) : Grw w w := ⟨0, #[], by rw [Go.Sort.grow_empty]; rfl⟩
theorem drewN_grow_more (w : World) (os : Array Obj) (a b : Nat) : (Go.Sort.grow (w.drewN a) os).drewN b = Go.Sort.grow (w.drewN (a + b)) os := by
  show Go.Sort.grow ((w.drewN a).drewN b) os = _
  rw [World.drewN_drewN]
theorem grw_trans {a b c : World} (h1 : Grw a b) (h2 : Grw b c) : Grw a c := by
  obtain ⟨q, os, rfl⟩ := h1
  obtain ⟨q2, os2, rfl⟩ := h2
  refine ⟨q + q2, os ++ os2, ?_⟩
  rw [← Go.Sort.grow_grow]
  exact congrArg (fun u => Go.Sort.grow u os2) (drewN_grow_more a os q q2)
theorem grw_drew {a w : World} (h : Grw a w) : Grw a w.drew := grw_trans h ⟨1, #[], by rw [Go.Sort.grow_empty]; rfl⟩
theorem grw_drewN {a w : World} (h : Grw a w) (n : Nat) : Grw a (w.drewN n) := grw_trans h ⟨n, #[], by rw [Go.Sort.grow_empty]⟩
theorem grw_alloc {a w : World} (h : Grw a w) (o : Obj) : Grw a (w.alloc o) := grw_trans h ⟨0, #[o], by rw [Go.Sort.alloc_eq_grow]; rfl⟩
theorem boolq {a b : Bool} (h : a = b) : Ending.returned (.bool a) = .returned (.bool b) := by rw [h]
/-- Two jobs that were boxed. -/
def twoJ (w : World) (x y : Jb) : World := (w.alloc (.cells #[.int .i64 x.id, .int .i64 x.prio, .int .i64 x.seq, .int .i64 x.phase, .int .i64 x.node, .int .i64 x.need.a, .int .i64 x.need.b, .int .i64 x.need.c] 25)).alloc (.cells #[.int .i64 y.id, .int .i64 y.prio, .int .i64 y.seq, .int .i64 y.phase, .int .i64 y.node, .int .i64 y.need.a, .int .i64 y.need.b, .int .i64 y.need.c] 25)
theorem twoJ_grw (w : World) (x y : Jb) : Grw w (twoJ w x y) := grw_two _ _ _
def oneJ (w : World) (x : Jb) : World := w.alloc (.cells #[.int .i64 x.id, .int .i64 x.prio, .int .i64 x.seq, .int .i64 x.phase, .int .i64 x.node, .int .i64 x.need.a, .int .i64 x.need.b, .int .i64 x.need.c] 25)
theorem oneJ_grw (w : World) (x : Jb) : Grw w (oneJ w x) := grw_alloc (grw_refl w) _
/-- Two nodes that were boxed. -/
def twoN (w : World) (x y : Nd) : World := (w.alloc (.cells #[.int .i64 x.id, .int .i64 x.inc, .int .i64 x.load, .int .i64 x.cap.a, .int .i64 x.cap.b, .int .i64 x.cap.c, .int .i64 x.used.a, .int .i64 x.used.b, .int .i64 x.used.c, .bool x.up] 36)).alloc (.cells #[.int .i64 y.id, .int .i64 y.inc, .int .i64 y.load, .int .i64 y.cap.a, .int .i64 y.cap.b, .int .i64 y.cap.c, .int .i64 y.used.a, .int .i64 y.used.b, .int .i64 y.used.c, .bool y.up] 36)
theorem twoN_grw (w : World) (x y : Nd) : Grw w (twoN w x y) := grw_two _ _ _
def oneN (w : World) (x : Nd) : World := w.alloc (.cells #[.int .i64 x.id, .int .i64 x.inc, .int .i64 x.load, .int .i64 x.cap.a, .int .i64 x.cap.b, .int .i64 x.cap.c, .int .i64 x.used.a, .int .i64 x.used.b, .int .i64 x.used.c, .bool x.up] 36)
theorem oneN_grw (w : World) (x : Nd) : Grw w (oneN w x) := grw_alloc (grw_refl w) _
set_option maxHeartbeats 1000000 in
theorem rjob_any (x y : Jb) (w : World) : Calls Try.prog 7 #[x.val, y.val] w fun e w' => e = .returned (.bool (jobB x y)) ∧ Grw w w' := by
  have HG := Lib.hid (twoJ_grw w x y)
  by_cases h1 : x.prio = y.prio
  · have d1 : (x.prio != y.prio) = false := by rw [h1]; simp
    by_cases h2 : x.seq = y.seq
    · have d2 : (x.seq != y.seq) = false := by rw [h2]; simp
      have HX := Lib.hid (show jobB x y = decide (x.id < y.id) by unfold jobB; rw [if_neg (fun h => h h1), if_neg (fun h => h h2)])
      clear h1 h2
      unfold Jb.val
      go_enter Try.func7, Try.ntmps7
      go_wp2_with fail
      go_ret
      exact ⟨boolq HX.out.symm, HG.out⟩
    · have d2 : (x.seq != y.seq) = true := by simpa using h2
      have HX := Lib.hid (show jobB x y = decide (x.seq < y.seq) by unfold jobB; rw [if_neg (fun h => h h1), if_pos h2])
      clear h1 h2
      unfold Jb.val
      go_enter Try.func7, Try.ntmps7
      go_wp2_with fail
      go_ret
      exact ⟨boolq HX.out.symm, HG.out⟩
  · have d1 : (x.prio != y.prio) = true := by simpa using h1
    have HX := Lib.hid (show jobB x y = decide (y.prio < x.prio) by unfold jobB; rw [if_pos h1])
    clear h1
    unfold Jb.val
    go_enter Try.func7, Try.ntmps7
    go_wp2_with fail
    go_ret
    exact ⟨boolq HX.out.symm, HG.out⟩
set_option maxHeartbeats 1000000 in
theorem kjob_any (x y : Jb) (w : World) : Calls Try.prog 8 #[x.val, y.val] w fun e w' => e = .returned (.bool (jobB x y)) ∧ Grw w w' := by
  have HG := Lib.hid (twoJ_grw w x y)
  by_cases h1 : x.prio = y.prio
  · have d1 : (x.prio != y.prio) = false := by rw [h1]; simp
    by_cases h2 : x.seq = y.seq
    · have d2 : (x.seq != y.seq) = false := by rw [h2]; simp
      have HX := Lib.hid (show jobB x y = decide (x.id < y.id) by unfold jobB; rw [if_neg (fun h => h h1), if_neg (fun h => h h2)])
      clear h1 h2
      unfold Jb.val
      go_enter Try.func8, Try.ntmps8
      go_wp2_with fail
      go_ret
      exact ⟨boolq HX.out.symm, HG.out⟩
    · have d2 : (x.seq != y.seq) = true := by simpa using h2
      have HX := Lib.hid (show jobB x y = decide (x.seq < y.seq) by unfold jobB; rw [if_neg (fun h => h h1), if_pos h2])
      clear h1 h2
      unfold Jb.val
      go_enter Try.func8, Try.ntmps8
      go_wp2_with fail
      go_ret
      exact ⟨boolq HX.out.symm, HG.out⟩
  · have d1 : (x.prio != y.prio) = true := by simpa using h1
    have HX := Lib.hid (show jobB x y = decide (y.prio < x.prio) by unfold jobB; rw [if_pos h1])
    clear h1
    unfold Jb.val
    go_enter Try.func8, Try.ntmps8
    go_wp2_with fail
    go_ret
    exact ⟨boolq HX.out.symm, HG.out⟩
set_option maxHeartbeats 1000000 in
theorem rnode_any (x y : Nd) (w : World) : Calls Try.prog 14 #[x.val, y.val] w fun e w' => e = .returned (.bool (nodeB x y)) ∧ Grw w w' := by
  have HG := Lib.hid (twoN_grw w x y)
  by_cases h1 : x.load = y.load
  · have d1 : (x.load != y.load) = false := by rw [h1]; simp
    have HX := Lib.hid (show nodeB x y = decide (x.id < y.id) by unfold nodeB; rw [if_neg (fun h => h h1)])
    clear h1
    unfold Nd.val
    go_enter Try.func14, Try.ntmps14
    go_wp2_with fail
    go_ret
    exact ⟨boolq HX.out.symm, HG.out⟩
  · have d1 : (x.load != y.load) = true := by simpa using h1
    have HX := Lib.hid (show nodeB x y = decide (x.load < y.load) by unfold nodeB; rw [if_pos h1])
    clear h1
    unfold Nd.val
    go_enter Try.func14, Try.ntmps14
    go_wp2_with fail
    go_ret
    exact ⟨boolq HX.out.symm, HG.out⟩
set_option maxHeartbeats 1000000 in
theorem knode_any (x y : Nd) (w : World) : Calls Try.prog 15 #[x.val, y.val] w fun e w' => e = .returned (.bool (nodeB x y)) ∧ Grw w w' := by
  have HG := Lib.hid (twoN_grw w x y)
  by_cases h1 : x.load < y.load
  · have d1 : decide (x.load < y.load) = true := decide_eq_true h1
    have HX := Lib.hid (show nodeB x y = true by rw [nodeB_iff]; omega)
    clear h1
    unfold Nd.val
    go_enter Try.func15, Try.ntmps15
    go_wp2_with fail
    go_ret
    exact ⟨boolq HX.out.symm, HG.out⟩
  · have d1 : decide (x.load < y.load) = false := decide_eq_false h1
    by_cases h2 : x.load = y.load
    · have d2 : (x.load == y.load) = true := by rw [h2]; simp
      have HX := Lib.hid (show nodeB x y = decide (x.id < y.id) by unfold nodeB; rw [if_neg (fun h => h h2)])
      clear h1 h2
      unfold Nd.val
      go_enter Try.func15, Try.ntmps15
      go_wp2_with fail
      go_ret
      exact ⟨boolq HX.out.symm, HG.out⟩
    · have d2 : (x.load == y.load) = false := beq_false_of_ne h2
      have HX := Lib.hid (show nodeB x y = false by rw [not_iff (nodeB_iff x y)]; omega)
      clear h1 h2
      unfold Nd.val
      go_enter Try.func15, Try.ntmps15
      go_wp2_with fail
      go_ret
      exact ⟨boolq HX.out.symm, HG.out⟩
/-- A key that is a result, out of its block. -/
theorem key_results {fn : Func} {t : Tmp} (hr : fn.results = #[.cell t 29]) {tmps : Array Value} {w : World} {g : Nat} {cs : Array Value} (hg : w.heap[g]? = some (.cells cs 29 (0, 0))) (hs : cs.size = 3) (hp : tmps.getD t undef = .pointer (some ⟨g, 0, none⟩)) :
    (results fn tmps).run Try.prog w = .ok (.agg cs) w := by
  have hl := run_loadVar_row (P := Try.prog) w g _ 29 cs (0, 0) (.array 3 3) hg (by kernel_rfl) rfl (by rw [hs]; kernel_rfl)
  have hp' : tmps[t]?.getD undef = .pointer (some ⟨g, 0, none⟩) := by simpa using hp
  simp [results, hr, hp', asAddr, hl]
theorem key_second (w : World) (o : Obj) (a b c : Int) : ((w.alloc o).alloc (.cells #[.int .i64 a, .int .i64 b, .int .i64 c] 29)).heap[w.heap.size + 1]? = some (.cells #[.int .i64 a, .int .i64 b, .int .i64 c] 29 (0, 0)) := by
  have := blk_new (w.alloc o) (.cells #[.int .i64 a, .int .i64 b, .int .i64 c] 29)
  rwa [show (w.alloc o).heap.size = w.heap.size + 1 by simp] at this
/-- A Job's block. -/
def BJob (b : Nat) (x : Jb) (w : World) : Prop := w.heap[b]? = some (.cells #[.int .i64 x.id, .int .i64 x.prio, .int .i64 x.seq, .int .i64 x.phase, .int .i64 x.node, .int .i64 x.need.a, .int .i64 x.need.b, .int .i64 x.need.c] 25 (0, 0))
theorem BJob.cells {b : Nat} {x : Jb} {w : World} (h : BJob b x w) : w.cell? ⟨b, 0, none⟩ = some (.int .i64 x.id) ∧ w.cell? ⟨b, 1, none⟩ = some (.int .i64 x.prio) ∧ w.cell? ⟨b, 2, none⟩ = some (.int .i64 x.seq) ∧ w.cell? ⟨b, 3, none⟩ = some (.int .i64 x.phase) ∧ w.cell? ⟨b, 4, none⟩ = some (.int .i64 x.node) ∧ w.cell? ⟨b, 5, none⟩ = some (.int .i64 x.need.a) ∧ w.cell? ⟨b, 6, none⟩ = some (.int .i64 x.need.b) ∧ w.cell? ⟨b, 7, none⟩ = some (.int .i64 x.need.c) :=
  ⟨blk_cell h 0, blk_cell h 1, blk_cell h 2, blk_cell h 3, blk_cell h 4, blk_cell h 5, blk_cell h 6, blk_cell h 7⟩
theorem BJob.grw {b : Nat} {x : Jb} {w w' : World} (h : BJob b x w) (hg : Grw w w') : BJob b x w' := (hg.below.block b (lt_of_block h)).trans h
theorem BJob.below {b : Nat} {x : Jb} {w w' : World} {B : Nat} (h : BJob b x w) (hg : Below B w w') (hB : b < B) : BJob b x w' := (hg.block b hB).trans h
theorem BJob.lt {b : Nat} {x : Jb} {w : World} (h : BJob b x w) : b < w.heap.size := lt_of_block h
/-- A Nod's block. -/
def BNod (b : Nat) (x : Nd) (w : World) : Prop := w.heap[b]? = some (.cells #[.int .i64 x.id, .int .i64 x.inc, .int .i64 x.load, .int .i64 x.cap.a, .int .i64 x.cap.b, .int .i64 x.cap.c, .int .i64 x.used.a, .int .i64 x.used.b, .int .i64 x.used.c, .bool x.up] 36 (0, 0))
theorem BNod.cells {b : Nat} {x : Nd} {w : World} (h : BNod b x w) : w.cell? ⟨b, 0, none⟩ = some (.int .i64 x.id) ∧ w.cell? ⟨b, 1, none⟩ = some (.int .i64 x.inc) ∧ w.cell? ⟨b, 2, none⟩ = some (.int .i64 x.load) ∧ w.cell? ⟨b, 3, none⟩ = some (.int .i64 x.cap.a) ∧ w.cell? ⟨b, 4, none⟩ = some (.int .i64 x.cap.b) ∧ w.cell? ⟨b, 5, none⟩ = some (.int .i64 x.cap.c) ∧ w.cell? ⟨b, 6, none⟩ = some (.int .i64 x.used.a) ∧ w.cell? ⟨b, 7, none⟩ = some (.int .i64 x.used.b) ∧ w.cell? ⟨b, 8, none⟩ = some (.int .i64 x.used.c) ∧ w.cell? ⟨b, 9, none⟩ = some (.bool x.up) :=
  ⟨blk_cell h 0, blk_cell h 1, blk_cell h 2, blk_cell h 3, blk_cell h 4, blk_cell h 5, blk_cell h 6, blk_cell h 7, blk_cell h 8, blk_cell h 9⟩
theorem BNod.grw {b : Nat} {x : Nd} {w w' : World} (h : BNod b x w) (hg : Grw w w') : BNod b x w' := (hg.below.block b (lt_of_block h)).trans h
theorem BNod.below {b : Nat} {x : Nd} {w w' : World} {B : Nat} (h : BNod b x w) (hg : Below B w w') (hB : b < B) : BNod b x w' := (hg.block b hB).trans h
theorem BNod.lt {b : Nat} {x : Nd} {w : World} (h : BNod b x w) : b < w.heap.size := lt_of_block h
theorem twoJ_blk (w : World) (x y : Jb) : BJob w.heap.size x (twoJ w x y) ∧ BJob (w.heap.size + 1) y (twoJ w x y) := blk_pair w _ _
theorem twoN_blk (w : World) (x y : Nd) : BNod w.heap.size x (twoN w x y) ∧ BNod (w.heap.size + 1) y (twoN w x y) := blk_pair w _ _
set_option maxHeartbeats 1000000 in
theorem rjkey_any (x : Jb) (w : World) (hx : x.ok) : Calls Try.prog 9 #[x.val] w fun e w' => e = .returned (keyJ x).val ∧ Grw w w' := by
  have KS := Lib.hid (fun o a b c => key_second w o a b c)
  have HG := Lib.hid (grw_alloc (oneJ_grw w x) (.cells #[.int .i64 (keyJ x).a, .int .i64 (keyJ x).b, .int .i64 (keyJ x).c] 29))
  unfold keyJ at HG
  obtain ⟨m, hm⟩ : ∃ m, max x.prio 0 = m := ⟨_, rfl⟩
  have q1 : IntKind.i64.wrap (9223372036854775807 - m) = 9223372036854775807 - m := IntWalk.i64_in _ (by have := hx.2.1; unfold inI at this; omega)
  rw [hm] at HG
  unfold Jb.val V3.val keyJ
  go_enter Try.func9, Try.ntmps9
  go_wp2_with fail
  refine bodyPost_ret (key_results rfl (KS.out _ _ _ _) rfl rfl) rfl ⟨rfl, HG.out⟩
set_option maxHeartbeats 1000000 in
theorem kjkey_any (x : Jb) (w : World) (hx : x.ok) : Calls Try.prog 10 #[x.val] w fun e w' => e = .returned (keyJ x).val ∧ Grw w w' := by
  have KS := Lib.hid (fun o a b c => key_second w o a b c)
  have HG := Lib.hid (grw_alloc (oneJ_grw w x) (.cells #[.int .i64 (keyJ x).a, .int .i64 (keyJ x).b, .int .i64 (keyJ x).c] 29))
  unfold keyJ at HG
  obtain ⟨m, hm⟩ : ∃ m, max x.prio 0 = m := ⟨_, rfl⟩
  have q1 : IntKind.i64.wrap (9223372036854775807 - m) = 9223372036854775807 - m := IntWalk.i64_in _ (by have := hx.2.1; unfold inI at this; omega)
  rw [hm] at HG
  unfold Jb.val V3.val keyJ
  go_enter Try.func10, Try.ntmps10
  go_wp2_with fail
  refine bodyPost_ret (key_results rfl (KS.out _ _ _ _) rfl rfl) rfl ⟨rfl, HG.out⟩
set_option maxHeartbeats 1000000 in
theorem rnkey_any (x : Nd) (w : World) : Calls Try.prog 16 #[x.val] w fun e w' => e = .returned (keyN x).val ∧ Grw w w' := by
  have KS := Lib.hid (fun o a b c => key_second w o a b c)
  have HG := Lib.hid (grw_alloc (oneN_grw w x) (.cells #[.int .i64 (keyN x).a, .int .i64 (keyN x).b, .int .i64 (keyN x).c] 29))
  unfold keyN at HG
  unfold Nd.val V3.val keyN
  go_enter Try.func16, Try.ntmps16
  go_wp2_with fail
  refine bodyPost_ret (key_results rfl (KS.out _ _ _ _) rfl rfl) rfl ⟨rfl, HG.out⟩
set_option maxHeartbeats 1000000 in
theorem jcmp_any (x y : Jb) (w : World) : Calls Try.prog 24 #[x.val, y.val] w fun e w' => e = .returned (.int .i64 (cmpJ x y)) ∧ Grw w w' := by
  have HG := Lib.hid (twoJ_grw w x y)
  have HB := Lib.hid (twoJ_blk w x y)
  have C1 := Lib.hid fun w => rjob_any x y w
  have C2 := Lib.hid fun w => rjob_any y x w
  have HX := Lib.hid (show cmpJ x y = if jobB x y = true then -1 else if jobB y x = true then 1 else 0 from rfl)
  generalize jobB x y = b1 at *
  generalize jobB y x = b2 at *
  generalize cmpJ x y = c at *
  unfold Jb.val at *
  go_enter Try.func24, Try.ntmps24
  go_wp2_with fail
  change Calls _ _ _ (twoJ w x y) _
  generalize twoJ w x y = W at *
  refine (C1.out _).mono ?_; rintro e w1 ⟨rfl, g1⟩
  have HB1 := Lib.hid (HB.out.1.grw g1)
  have HB2 := Lib.hid (HB.out.2.grw g1)
  have HG1 := Lib.hid (grw_trans HG.out g1)
  clear g1 C1 HB HG
  cases b1 with
  | true =>
    obtain rfl : c = -1 := HX.out
    go_wp2_with fail
    go_ret
    exact ⟨rfl, HG1.out⟩
  | false =>
    obtain ⟨x0, x1, x2, x3, x4, x5, x6, x7⟩ := HB1.out.cells
    obtain ⟨y0, y1, y2, y3, y4, y5, y6, y7⟩ := HB2.out.cells
    go_wp2_with fail
    refine (C2.out _).mono ?_; rintro e w2 ⟨rfl, g2⟩
    have HG2 := Lib.hid (grw_trans HG1.out g2)
    clear g2 C2 HB1 HB2 HG1 x0 y0 x1 y1 x2 y2 x3 y3 x4 y4 x5 y5 x6 y6 x7 y7
    cases b2 with
    | true =>
      obtain rfl : c = 1 := HX.out
      go_wp2_with fail
      go_ret
      exact ⟨rfl, HG2.out⟩
    | false =>
      obtain rfl : c = 0 := HX.out
      go_wp2_with fail
      go_ret
      exact ⟨rfl, HG2.out⟩
end Go.Proofs.Ytipmlbbbjafpiaa
