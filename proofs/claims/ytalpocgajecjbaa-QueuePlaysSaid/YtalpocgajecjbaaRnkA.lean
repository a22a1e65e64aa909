/- What package rank's comparisons and keys come to, and the document's own. Conditions: as stated. -/
import Derived.Test.YtalpocgajecjbaaHpqB
import Derived.Test.YtalpocgajecjbaaPlains
namespace Go.Proofs.Ytalpocgajecjbaa
open Go.ChangeShapes Go.WideShapes Go.ChangeAt Go.RowKit
set_option linter.unusedVariables false
set_option maxRecDepth 100000
set_option linter.unusedSimpArgs false

theorem grw_two (w : World) (o1 o2 : Obj) : Grw w ((w.alloc o1).alloc o2) := ⟨0, #[o1] ++ #[o2], by
  rw [Go.Sort.alloc_eq_grow, Go.Sort.alloc_eq_grow, Go.Sort.grow_grow]; rfl⟩
theorem grw_refl (w : World) : Grw w w := ⟨0, #[], by rw [Go.Sort.grow_empty]; rfl⟩
theorem drewN_grow_more (w : World) (os : Array Obj) (a b : Nat) : (Go.Sort.grow (w.drewN a) os).drewN b = Go.Sort.grow (w.drewN (a + b)) os := by
  show Go.Sort.grow ((w.drewN a).drewN b) os = _
  rw [World.drewN_drewN]
theorem grw_trans {a b c : World} (h1 : Grw a b) (h2 : Grw b c) : Grw a c := by
  obtain ⟨q, os, rfl⟩ := h1
  obtain ⟨q2, os2, rfl⟩ := h2
  refine ⟨q + q2, os ++ os2, ?_⟩
  rw [← Go.Sort.grow_grow]
  exact congrArg (fun u => Go.Sort.grow u os2) (drewN_grow_more a os q q2)
theorem grw_drew {a w : World} (h : Grw a w) : Grw a w.drew := grw_trans h ⟨1, #[], by rw [Go.Sort.grow_empty]; rfl⟩
theorem grw_drewN {a w : World} (h : Grw a w) (n : Nat) : Grw a (w.drewN n) := grw_trans h ⟨n, #[], by rw [Go.Sort.grow_empty]⟩
theorem grw_alloc {a w : World} (h : Grw a w) (o : Obj) : Grw a (w.alloc o) := grw_trans h ⟨0, #[o], by rw [Go.Sort.alloc_eq_grow]; rfl⟩
theorem boolq {a b : Bool} (h : a = b) : Ending.returned (.bool a) = .returned (.bool b) := by rw [h]
/-- Two jobs that were boxed. -/
def twoJ (w : World) (x y : Jb) : World := (w.alloc (.cells #[.int .i64 x.id, .int .i64 x.prio, .int .i64 x.seq, .int .i64 x.phase, .int .i64 x.node, .int .i64 x.need.a, .int .i64 x.need.b, .int .i64 x.need.c] 37)).alloc (.cells #[.int .i64 y.id, .int .i64 y.prio, .int .i64 y.seq, .int .i64 y.phase, .int .i64 y.node, .int .i64 y.need.a, .int .i64 y.need.b, .int .i64 y.need.c] 37)
theorem twoJ_grw (w : World) (x y : Jb) : Grw w (twoJ w x y) := grw_two _ _ _
def oneJ (w : World) (x : Jb) : World := w.alloc (.cells #[.int .i64 x.id, .int .i64 x.prio, .int .i64 x.seq, .int .i64 x.phase, .int .i64 x.node, .int .i64 x.need.a, .int .i64 x.need.b, .int .i64 x.need.c] 37)
theorem oneJ_grw (w : World) (x : Jb) : Grw w (oneJ w x) := grw_alloc (grw_refl w) _
set_option maxHeartbeats 1000000 in
theorem kjob_any (x y : Jb) (w : World) : Calls Try.prog 18 #[x.val, y.val] w fun e w' => e = .returned (.bool (jobB x y)) ∧ Grw w w' := by
  have HG := Lib.hid (twoJ_grw w x y)
  by_cases h1 : x.prio = y.prio
  · have d1 : (x.prio != y.prio) = false := by rw [h1]; simp
    by_cases h2 : x.seq = y.seq
    · have d2 : (x.seq != y.seq) = false := by rw [h2]; simp
      have HX := Lib.hid (show jobB x y = decide (x.id < y.id) by unfold jobB; rw [if_neg (fun h => h h1), if_neg (fun h => h h2)])
      clear h1 h2
      unfold Jb.val
      go_enter Try.func18, Try.ntmps18
      go_wp2_with fail
      go_ret
      exact ⟨boolq HX.out.symm, HG.out⟩
    · have d2 : (x.seq != y.seq) = true := by simpa using h2
      have HX := Lib.hid (show jobB x y = decide (x.seq < y.seq) by unfold jobB; rw [if_neg (fun h => h h1), if_pos h2])
      clear h1 h2
      unfold Jb.val
      go_enter Try.func18, Try.ntmps18
      go_wp2_with fail
      go_ret
      exact ⟨boolq HX.out.symm, HG.out⟩
  · have d1 : (x.prio != y.prio) = true := by simpa using h1
    have HX := Lib.hid (show jobB x y = decide (y.prio < x.prio) by unfold jobB; rw [if_pos h1])
    clear h1
    unfold Jb.val
    go_enter Try.func18, Try.ntmps18
    go_wp2_with fail
    go_ret
    exact ⟨boolq HX.out.symm, HG.out⟩
/-- A key that is a result, out of its block. -/
theorem key_results {fn : Func} {t : Tmp} (hr : fn.results = #[.cell t 55]) {tmps : Array Value} {w : World} {g : Nat} {cs : Array Value} (hg : w.heap[g]? = some (.cells cs 55 (0, 0))) (hs : cs.size = 3) (hp : tmps.getD t undef = .pointer (some ⟨g, 0, none⟩)) :
    (results fn tmps).run Try.prog w = .ok (.agg cs) w := by
  have hl := run_loadVar_row (P := Try.prog) w g _ 55 cs (0, 0) (.array 3 3) hg (by kernel_rfl) rfl (by rw [hs]; kernel_rfl)
  have hp' : tmps[t]?.getD undef = .pointer (some ⟨g, 0, none⟩) := by simpa using hp
  simp [results, hr, hp', asAddr, hl]
theorem key_second (w : World) (o : Obj) (a b c : Int) : ((w.alloc o).alloc (.cells #[.int .i64 a, .int .i64 b, .int .i64 c] 55)).heap[w.heap.size + 1]? = some (.cells #[.int .i64 a, .int .i64 b, .int .i64 c] 55 (0, 0)) := by
  have := blk_new (w.alloc o) (.cells #[.int .i64 a, .int .i64 b, .int .i64 c] 55)
  rwa [show (w.alloc o).heap.size = w.heap.size + 1 by simp] at this
/-- A Job's block. -/
def BJob (b : Nat) (x : Jb) (w : World) : Prop := w.heap[b]? = some (.cells #[.int .i64 x.id, .int .i64 x.prio, .int .i64 x.seq, .int .i64 x.phase, .int .i64 x.node, .int .i64 x.need.a, .int .i64 x.need.b, .int .i64 x.need.c] 37 (0, 0))
theorem BJob.cells {b : Nat} {x : Jb} {w : World} (h : BJob b x w) : w.cell? ⟨b, 0, none⟩ = some (.int .i64 x.id) ∧ w.cell? ⟨b, 1, none⟩ = some (.int .i64 x.prio) ∧ w.cell? ⟨b, 2, none⟩ = some (.int .i64 x.seq) ∧ w.cell? ⟨b, 3, none⟩ = some (.int .i64 x.phase) ∧ w.cell? ⟨b, 4, none⟩ = some (.int .i64 x.node) ∧ w.cell? ⟨b, 5, none⟩ = some (.int .i64 x.need.a) ∧ w.cell? ⟨b, 6, none⟩ = some (.int .i64 x.need.b) ∧ w.cell? ⟨b, 7, none⟩ = some (.int .i64 x.need.c) :=
  ⟨blk_cell h 0, blk_cell h 1, blk_cell h 2, blk_cell h 3, blk_cell h 4, blk_cell h 5, blk_cell h 6, blk_cell h 7⟩
theorem BJob.grw {b : Nat} {x : Jb} {w w' : World} (h : BJob b x w) (hg : Grw w w') : BJob b x w' := (hg.below.block b (lt_of_block h)).trans h
theorem BJob.below {b : Nat} {x : Jb} {w w' : World} {B : Nat} (h : BJob b x w) (hg : Below B w w') (hB : b < B) : BJob b x w' := (hg.block b hB).trans h
theorem BJob.lt {b : Nat} {x : Jb} {w : World} (h : BJob b x w) : b < w.heap.size := lt_of_block h
theorem twoJ_blk (w : World) (x y : Jb) : BJob w.heap.size x (twoJ w x y) ∧ BJob (w.heap.size + 1) y (twoJ w x y) := blk_pair w _ _
set_option maxHeartbeats 1000000 in
theorem rjkey_any (x : Jb) (w : World) (hx : x.ok) : Calls Try.prog 20 #[x.val] w fun e w' => e = .returned (keyJ x).val ∧ Grw w w' := by
  have KS := Lib.hid (fun o a b c => key_second w o a b c)
  have HG := Lib.hid (grw_alloc (oneJ_grw w x) (.cells #[.int .i64 (keyJ x).a, .int .i64 (keyJ x).b, .int .i64 (keyJ x).c] 55))
  unfold keyJ at HG
  obtain ⟨m, hm⟩ : ∃ m, max x.prio 0 = m := ⟨_, rfl⟩
  have q1 : IntKind.i64.wrap (9223372036854775807 - m) = 9223372036854775807 - m := IntWalk.i64_in _ (by have := hx.2.1; unfold inI at this; omega)
  rw [hm] at HG
  unfold Jb.val V3.val keyJ
  go_enter Try.func20, Try.ntmps20
  go_wp2_with fail
  refine bodyPost_ret (key_results rfl (KS.out _ _ _ _) rfl rfl) rfl ⟨rfl, HG.out⟩
end Go.Proofs.Ytalpocgajecjbaa
