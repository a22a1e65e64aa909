/- What package heap's compare and Less come to. Conditions: as stated. -/
import Derived.Test.YtipmlbbbjafpiaaHpqA
import Derived.Test.YtipmlbbbjafpiaaHoldM
namespace Go.Proofs.Ytipmlbbbjafpiaa
open Go.ChangeShapes Go.WideShapes Go.ChangeAt Go.RowKit
set_option linter.unusedVariables false
set_option maxRecDepth 100000
set_option linter.unusedSimpArgs false

/-- What only grew. -/
def Grw (w w' : World) : Prop := ∃ q os, w' = Go.Sort.grow (w.drewN q) os
theorem Grw.below {w w' : World} (h : Grw w w') : Below w.heap.size w w' := by
  obtain ⟨q, os, rfl⟩ := h; exact grow_below w q os
theorem below_drew1 {B : Nat} {a w : World} (h : Below B a w) : Below B a w.drew := ⟨h.os, h.tape, h.output, h.size, h.block⟩
theorem k3_cells {w w' : World} {b o : Nat} {v : V3} (h : K3 b o v w) (hk : ∀ i, i < 3 → w'.cell? ⟨b, o + i, none⟩ = w.cell? ⟨b, o + i, none⟩) : K3 b o v w' := fun k h3 => (hk k h3).trans (h k h3)
theorem k3_alloc {w : World} {b o : Nat} {v : V3} (h : K3 b o v w) (ob : Obj) (hb : b < w.heap.size) : K3 b o v (w.alloc ob) :=
  k3_cells h fun i _ => ((Below.refl w.heap.size w).alloc (Nat.le_refl _) ob).cell (p := ⟨b, o + i, none⟩) hb
set_option maxHeartbeats 2000000 in
theorem hless_any (v u : V3) (w : World) (hv : v.ok) (hu : u.ok) : Calls Try.prog 21 #[v.val, u.val] w fun e w' => e = .returned (.bool (lessB v u)) ∧ Below w.heap.size w w' := by
  obtain ⟨h1, h2⟩ := blk_pair w (.cells #[.int .i64 v.a, .int .i64 v.b, .int .i64 v.c] 29) (.cells #[.int .i64 u.a, .int .i64 u.b, .int .i64 u.c] 29)
  have E1 := Lib.hid (show K3 w.heap.size 0 v _ ∧ K3 (w.heap.size + 1) 0 u _ from ⟨k3_of (blk_cell h1 0) (blk_cell h1 1) (blk_cell h1 2), k3_of (blk_cell h2 0) (blk_cell h2 1) (blk_cell h2 2)⟩)
  have HB := Lib.hid (((Below.refl w.heap.size w).alloc (Nat.le_refl _) (.cells #[.int .i64 v.a, .int .i64 v.b, .int .i64 v.c] 29)).alloc (by simp) (.cells #[.int .i64 u.a, .int .i64 u.b, .int .i64 u.c] 29))
  have HL0 := Lib.hid (cmpK_less v u)
  clear h1 h2
  unfold V3.val
  go_enter Try.func21, Try.ntmps21
  go_wp2_with fail
  generalize (w.alloc (.cells #[.int .i64 v.a, .int .i64 v.b, .int .i64 v.c] 29)).alloc (.cells #[.int .i64 u.a, .int .i64 u.b, .int .i64 u.c] 29) = W at *
  have C1 := Lib.hid fun w' (h : w' = W.drew) => kcmp_any v u w.heap.size 0 (w.heap.size + 1) 0 w' (by rw [h]; exact E1.out.1) (by rw [h]; exact E1.out.2)
  generalize cmpK v u = c at *
  refine wp_region_hold (fun w' => w' = W.drew) (by kernel_rfl) (by kernel_rfl) rfl ?_
  repeat
    first
    | (refine hold_val (v := ?_) (by rfl) ?_ ?_
       rotate_left
       · (intro w' hS
          go_simp
          try with_reducible rfl)
       simp only [Act.put, List.setIfInBounds_toArray, List.set_cons_zero, List.set_cons_succ])
    | (refine hold_call (by rfl) ?_ (fun w' hS => (C1.out w' hS).mono fun e w2 h => ⟨h.1, h.2.symm.trans hS⟩) ?_; focus (intro w' hS; go_simp; done)
       simp only [Act.put, List.setIfInBounds_toArray, List.set_cons_zero, List.set_cons_succ])
  refine hold_nil (fun w' hS => ?_)
  subst hS
  have HF := Lib.hid (below_drew1 HB.out)
  go_wp2_with fail
  go_ret
  exact ⟨by rw [← HL0.out]; rfl, HF.out⟩
end Go.Proofs.Ytipmlbbbjafpiaa
