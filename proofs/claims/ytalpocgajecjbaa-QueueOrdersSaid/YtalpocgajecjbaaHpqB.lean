/- What package heap's compare and Less come to. Conditions: as stated. -/
import Derived.Test.YtalpocgajecjbaaHpqA
import Derived.Test.YtalpocgajecjbaaHolds
namespace Go.Proofs.Ytalpocgajecjbaa
open Go.ChangeShapes Go.WideShapes Go.ChangeAt Go.RowKit
set_option linter.unusedVariables false
set_option maxRecDepth 100000
set_option linter.unusedSimpArgs false

/-- What only grew. -/
def Grw (w w' : World) : Prop := ∃ q os, w' = Go.Sort.grow (w.drewN q) os
theorem Grw.below {w w' : World} (h : Grw w w') : Below w.heap.size w w' := by
  obtain ⟨q, os, rfl⟩ := h; exact grow_below w q os
theorem below_drew1 {B : Nat} {a w : World} (h : Below B a w) : Below B a w.drew := ⟨h.os, h.tape, h.output, h.size, h.block⟩
/-- Two items that were boxed. -/
def twoT (w : World) (x y : Thg) : World := (w.alloc (.cells #[.int .i64 x.id, .int .i64 x.key.a, .int .i64 x.key.b, .int .i64 x.key.c] 66)).alloc (.cells #[.int .i64 y.id, .int .i64 y.key.a, .int .i64 y.key.b, .int .i64 y.key.c] 66)
theorem twoT_cells (w : World) (x y : Thg) : (twoT w x y).cell? ⟨w.heap.size, 0, none⟩ = some (.int .i64 x.id) ∧ (twoT w x y).cell? ⟨w.heap.size + 1, 0, none⟩ = some (.int .i64 y.id) ∧ K3 w.heap.size 1 x.key (twoT w x y) ∧ K3 (w.heap.size + 1) 1 y.key (twoT w x y) := by
  obtain ⟨h1, h2⟩ := blk_pair w (.cells #[.int .i64 x.id, .int .i64 x.key.a, .int .i64 x.key.b, .int .i64 x.key.c] 66) (.cells #[.int .i64 y.id, .int .i64 y.key.a, .int .i64 y.key.b, .int .i64 y.key.c] 66)
  exact ⟨blk_cell h1 0, blk_cell h2 0, k3_of (blk_cell h1 1) (blk_cell h1 2) (blk_cell h1 3), k3_of (blk_cell h2 1) (blk_cell h2 2) (blk_cell h2 3)⟩
theorem k3_cells {w w' : World} {b o : Nat} {v : V3} (h : K3 b o v w) (hk : ∀ i, i < 3 → w'.cell? ⟨b, o + i, none⟩ = w.cell? ⟨b, o + i, none⟩) : K3 b o v w' := fun k h3 => (hk k h3).trans (h k h3)
theorem k3_alloc {w : World} {b o : Nat} {v : V3} (h : K3 b o v w) (ob : Obj) (hb : b < w.heap.size) : K3 b o v (w.alloc ob) :=
  k3_cells h fun i _ => ((Below.refl w.heap.size w).alloc (Nat.le_refl _) ob).cell (p := ⟨b, o + i, none⟩) hb
set_option maxHeartbeats 2000000 in
theorem hcompare_any (x y : Thg) (w : World) : Calls Try.prog 30 #[x.val, y.val] w fun e w' => e = .returned (.int .i64 (cmpT x y)) ∧ Grw w w' := by
  obtain ⟨c1, c2, c3, c4⟩ := twoT_cells w x y
  have hs : (twoT w x y).heap.size = w.heap.size + 1 + 1 := by unfold twoT; simp
  have HG := Lib.hid (show ∀ o, Grw w ((twoT w x y).drew.alloc o) from fun o => ⟨1, #[_] ++ #[_] ++ #[o], by
    unfold twoT
    rw [Go.Sort.alloc_eq_grow, Go.Sort.alloc_eq_grow, Go.Sort.alloc_eq_grow, Go.Sort.drew_grow, Go.Sort.drew_grow, Go.Sort.grow_grow, Go.Sort.grow_grow]; rfl⟩)
  have HC := Lib.hid (show cmpT x y = orI (cmpK x.key y.key) (ordI x.id y.id) from rfl)
  unfold Thg.val
  go_enter Try.func30, Try.ntmps30
  go_wp2_with fail
  show Code.wp _ _ _ _ (twoT w x y)
  generalize twoT w x y = W at *
  have hd1 : W.drew.heap.size = W.heap.size := rfl
  have e1 : ∀ w', w' = W.drew ∨ w' = W.drew.alloc (.cells #[.int .i64 (cmpK x.key y.key), .int .i64 (ordI x.id y.id)] 3) → w'.cell? ⟨w.heap.size, 0, none⟩ = some (.int .i64 x.id) ∧ w'.cell? ⟨w.heap.size + 1, 0, none⟩ = some (.int .i64 y.id) ∧ K3 w.heap.size 1 x.key w' ∧ K3 (w.heap.size + 1) 1 y.key w' := by
    rintro w' (rfl | rfl)
    · exact ⟨c1, c2, c3, c4⟩
    · have hb := (Below.refl W.drew.heap.size W.drew).alloc (Nat.le_refl _) (.cells #[.int .i64 (cmpK x.key y.key), .int .i64 (ordI x.id y.id)] 3)
      exact ⟨(hb.cell (p := ⟨w.heap.size, 0, none⟩) (by show w.heap.size < W.heap.size; omega)).trans c1, (hb.cell (p := ⟨w.heap.size + 1, 0, none⟩) (by show w.heap.size + 1 < W.heap.size; omega)).trans c2, k3_alloc c3 _ (by show _ < W.heap.size; omega), k3_alloc c4 _ (by show _ < W.heap.size; omega)⟩
  have E1 := Lib.hid e1
  have hz : W.drew.heap.size = w.heap.size + 1 + 1 := hs
  have HO := Lib.hid (show ∀ m w', m[0]? = some true → oneC W.drew (W.drew.alloc (.cells #[.int .i64 (cmpK x.key y.key), .int .i64 (ordI x.id y.id)] 3)) m w' → w'.cell? ⟨w.heap.size + 1 + 1, 0, none⟩ = some (.int .i64 (cmpK x.key y.key)) ∧ w'.cell? ⟨w.heap.size + 1 + 1, 1, none⟩ = some (.int .i64 (ordI x.id y.id)) from fun m w' hm hC => by
    obtain rfl := oneC_on hm hC
    have hb := blk_new W.drew (.cells #[.int .i64 (cmpK x.key y.key), .int .i64 (ordI x.id y.id)] 3)
    rw [hz] at hb
    exact ⟨blk_cell hb 0, blk_cell hb 1⟩)
  clear e1 c1 c2 c3 c4 hd1 hs
  refine wp_region_holdC [10] (oneC W.drew (W.drew.alloc (.cells #[.int .i64 (cmpK x.key y.key), .int .i64 (ordI x.id y.id)] 3))) (by kernel_rfl) (by kernel_rfl) (by kernel_rfl) (oneC_start _ _) ?_
  repeat
    first
    | (refine holdC_val (v := ?_) (by rfl) (by rfl) ?_ ?_
       rotate_left
       · (intro m w' hC
          obtain ⟨_, _, _, _⟩ := E1.out w' (oneC_any hC)
          go_simp
          try with_reducible rfl)
       simp only [Act.put, List.setIfInBounds_toArray, List.set_cons_zero, List.set_cons_succ])
    | ((first
        | (refine holdC_call (by rfl) (by rfl) ?_ (fun m w' hC => (kcmp_any x.key y.key _ _ _ _ w' (E1.out w' (oneC_any hC)).2.2.1 (E1.out w' (oneC_any hC)).2.2.2).mono fun e w2 h => ⟨h.1, by rw [← h.2]; exact hC⟩) ?_; focus (intro m w' hC; go_simp; done))
        | (refine holdC_call (by rfl) (by rfl) ?_ (fun m w' hC => (icmp_any x.id y.id w').mono fun e w2 h => ⟨h.1, by rw [← h.2]; exact hC⟩) ?_; focus (intro m w' hC; go_simp; done))
        | (refine holdC_callP [0] (by rfl) (by rfl) (by rfl) (by kernel_rfl) ?_ (fun m w' hm hC => (ior_any (cmpK x.key y.key) (ordI x.id y.id) (w.heap.size + 1 + 1) w' (HO.out _ w' (hm 0 (by simp)) hC).1 (HO.out _ w' (hm 0 (by simp)) hC).2).mono fun e w2 h => ⟨h.1, by rw [← h.2]; exact hC⟩) ?_; focus (intro m w' hC; go_simp; done)))
       simp only [Act.put, List.setIfInBounds_toArray, List.set_cons_zero, List.set_cons_succ])
    | (refine holdC_make (v := .slice (some ⟨w.heap.size + 1 + 1, 0, none⟩) 2 2) 0 [] (by rfl) (by rfl) (by decide) (by rfl) (by rfl) (fun m w' hm _ hC => ?_) ?_
       · (obtain rfl := oneC_off hm hC
          refine ⟨_, ?_, oneC_set hm⟩
          go_simp
          try with_reducible rfl)
       simp only [Act.put, List.setIfInBounds_toArray, List.set_cons_zero, List.set_cons_succ])
  refine holdC_nil (fun w' hC => ?_)
  have hw := oneC_on rfl hC
  subst hw
  have HF := Lib.hid (HG.out (.cells #[.int .i64 (cmpK x.key y.key), .int .i64 (ordI x.id y.id)] 3))
  clear hC
  go_wp2_with fail
  go_ret
  exact ⟨intq HC.out.symm, HF.out⟩
end Go.Proofs.Ytalpocgajecjbaa
