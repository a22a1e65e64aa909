/- What the document's own Put on rows of jobs comes to. Conditions: lists of at most 90,000 jobs. -/
import Derived.Test.YtalpocgajecjbaaQueR
namespace Go.Proofs.Ytalpocgajecjbaa
open Go.ChangeShapes Go.WideShapes Go.ChangeAt Go.RowKit
set_option linter.unusedVariables false
set_option maxRecDepth 100000
set_option linter.unusedSimpArgs false

/-- A row, old or made anew. -/
def RowR (K : Nat → Prop) (l : List Jb) (w : World) (e : Ending) (w' : World) : Prop := ∃ v, e = .returned v ∧ RdK 8 w' (fun b => K b ∨ w.heap.size ≤ b) v (rowsJ l) ∧ Below w.heap.size w w'
theorem cells_in {w w' : World} {cs : Array Value} {t : TypeId} (hb : Below (w.alloc (.cells cs t)).heap.size (w.alloc (.cells cs t)) w') : ∀ j u, cs.toList[j]? = some u → w'.cell? ((⟨w.heap.size, 0, none⟩ : Addr).add j) = some u := by
  intro j u hj
  rw [← cells_new w cs t j u hj, show ((⟨w.heap.size, 0, none⟩ : Addr).add j) = ⟨w.heap.size, j, none⟩ by unfold Addr.add; split <;> simp_all]
  exact hb.cell (p := ⟨w.heap.size, j, none⟩) (by simp)
theorem app_below {w Wc w4 : World} {base n : Nat} {vD : Value} {xs : List Value} (h1 : Below w.heap.size w Wc) (hown : Wc.ownsRow base 37 8 vD n xs) (hb : w.heap.size ≤ base) (hg : Wc.grownBy w4 vD.ownBlock) : Below w.heap.size w w4 :=
  grown_below h1 hg (fun g hg => Nat.le_trans hb (owns_row hown hg)) h1.size
theorem app_read {w4 : World} {base g cap : Nat} {D : List Jb} {x : Jb} (h : w4.ownsRow base 37 8 (.slice (some ⟨g, 0, none⟩) (D.length + 1) cap) (D.length + 1) ((rowsJ D).flatten ++ x.row)) : RdK 8 w4 (fun b => base ≤ b) (.slice (some ⟨g, 0, none⟩) (D.length + 1) cap) (rowsJ (D ++ [x])) :=
  RdK.own (by rw [rowsJ_snoc]; exact h) (by rw [rowsJ_len]; simp) (rowsJ_eight _)
set_option maxHeartbeats 8000000 in
theorem k11put_any (v : Value) (l : List Jb) (x : Jb) (K : Nat → Prop) (w : World) (hn : l.length ≤ 90000) (h : RdK 8 w K v (rowsJ l)) :
    Calls Try.prog 9 #[v, x.val] w (RowR K (putJ l x) w) := by
  have hjb := jv_below w x
  have hj := jv_blk w x
  obtain ⟨j0, j1, j2, j3, j4, j5, j6, j7⟩ := hj.cells
  by_cases hp : x.prio < 0
  · have d1 : decide (x.prio < 0) = true := decide_eq_true hp
    have HQ := Lib.hid (show RowR K (putJ l x) w (.returned v) (jv w x) from ⟨v, rfl, by unfold putJ; rw [if_pos hp]; exact (h.below hjb).imp (fun b hb _ => .inl hb), hjb⟩)
    obtain ⟨A, c, rfl, hc, _⟩ := h.form
    clear h hp hjb hj hc
    unfold Jb.val
    go_enter Try.func9, Try.ntmps9
    go_wp2_with fail
    go_ret
    exact HQ.out
  · have d1 : decide (x.prio < 0) = false := decide_eq_false hp
    have HPJ := Lib.hid (show putJ l x = stb jobB (dropJ l x.id ++ [x]) by unfold putJ; rw [if_neg hp])
    obtain ⟨i0, hi, hz0, hz1, hz2⟩ := info_parts infoJ
    have HDL := Lib.hid (dropJ_le l x.id)
    have HJB := Lib.hid hjb
    have HJ := Lib.hid hj
    have HR8 := Lib.hid (jrow_one x)
    have HDR := Lib.hid (show ∀ W, Below w.heap.size w W → Calls Try.prog 11 #[v, .int .i64 x.id] W (OwnJ (dropJ l x.id) W) from fun W hb => k11drop_any v l x.id K W (by omega) (h.below hb))
    obtain ⟨A, c, rfl, hc, _⟩ := h.form
    unfold Jb.row at HR8
    unfold Jb.val
    clear h hp hjb hj hc
    go_enter Try.func9, Try.ntmps9
    go_wp2_with fail
    clear d1 j0 j1 j2 j3 j4 j5 j6 j7
    generalize hW : w.alloc (.cells #[.int .i64 x.id, .int .i64 x.prio, .int .i64 x.seq, .int .i64 x.phase, .int .i64 x.node, .int .i64 x.need.a, .int .i64 x.need.b, .int .i64 x.need.c] 37) = W1
    have hb1 : Below w.heap.size w W1 := by rw [← hW]; exact HJB.out
    have hJ1 : BJob w.heap.size x W1 := by rw [← hW]; exact HJ.out
    have D1 := HDR.out W1.drew ⟨hb1.os, hb1.tape, hb1.output, hb1.size, hb1.block⟩
    have D2 := HDR.out (W1.drew.alloc (.cells #[.int .i64 x.id, .int .i64 x.prio, .int .i64 x.seq, .int .i64 x.phase, .int .i64 x.node, .int .i64 x.need.a, .int .i64 x.need.b, .int .i64 x.need.c] 37)) ((show Below w.heap.size w W1.drew from ⟨hb1.os, hb1.tape, hb1.output, hb1.size, hb1.block⟩).alloc hb1.size _)
    have D1 := Lib.hid D1
    have D2 := Lib.hid D2
    have HB1 := Lib.hid hb1
    have HJ1 := Lib.hid hJ1
    obtain ⟨j0, j1, j2, j3, j4, j5, j6, j7⟩ := hJ1.cells
    obtain ⟨k0, k1, k2, k3, k4, k5, k6, k7⟩ := (hJ1.below (jv_below W1 x) (lt_of_block hJ1)).cells
    unfold jv at k0 k1 k2 k3 k4 k5 k6 k7
    clear hW HJB HJ HDR hb1 hJ1
    generalize dropJ l x.id = D at *
    go_region_law (first
      | (go_simp; go_at_call 11; refine D1.out.mono ?_; rintro e w2 ⟨vD, rfl, hown, b2⟩; have J2 := (show BJob w.heap.size x W1.drew from HJ1.out).below b2 (lt_of_block HJ1.out); obtain ⟨y0, y1, y2, y3, y4, y5, y6, y7⟩ := J2.cells; have HO2 := Lib.hid hown; have HB2 := Lib.hid b2; clear hown b2 J2)
      | (go_simp; go_at_call 11; refine D2.out.mono ?_; rintro e w2 ⟨vD, rfl, hown, b2⟩; have LT := Lib.hid (cells_in b2); have HO2 := Lib.hid hown; have HB2 := Lib.hid b2; clear hown b2)
      | (refine step_append_lies _ rfl (.tmp 12) (.tmp 14) 33 rfl _ 37 i0 (.agg #[.int .i64 0, .int .i64 0, .int .i64 0, .int .i64 0, .int .i64 0, .int .i64 0, .int .i64 0, .int .i64 0]) 8 64 Try.underlying33 hi hz0 hz1 hz2 rfl (by decide) _ D.length _ (by simp [Act.eval, Act.put]) (HO2.out.alloc (.cells #[.int .i64 x.id, .int .i64 x.prio, .int .i64 x.seq, .int .i64 x.phase, .int .i64 x.node, .int .i64 x.need.a, .int .i64 x.need.b, .int .i64 x.need.c] 37)) ⟨w2.heap.size, 0, none⟩ 1 1 [.int .i64 x.id, .int .i64 x.prio, .int .i64 x.seq, .int .i64 x.phase, .int .i64 x.node, .int .i64 x.need.a, .int .i64 x.need.b, .int .i64 x.need.c] (by simp [Act.eval, Act.put]) rfl (cells_new _ _ _) HR8.out (by omega) (by have := HDL.out; unfold maxLen; omega) (by have := HDL.out; omega) (by have := HB2.out.size; simp at this ⊢; omega) _ rfl ?_; intro g cap w4 hown4 hgrow hat hltg; have HB4 := Lib.hid (app_below (w := w) ((HB1.out.trans ((show Below W1.heap.size W1 w2 from (show Below W1.heap.size W1 W1.drew from ⟨rfl, rfl, rfl, Nat.le_refl _, fun _ _ => rfl⟩).trans HB2.out).mono HB1.out.size)).alloc (by have := HB1.out.size; have := HB2.out.size; simp at this; omega) _) (HO2.out.alloc (.cells #[.int .i64 x.id, .int .i64 x.prio, .int .i64 x.seq, .int .i64 x.phase, .int .i64 x.node, .int .i64 x.need.a, .int .i64 x.need.b, .int .i64 x.need.c] 37)) (by have := HB1.out.size; simp; omega) hgrow); have HJO := Lib.hid (kjobs_any _ (D ++ [x]) _ w4 (by have := HDL.out; simp; omega) (app_read hown4)); clear hown4 hgrow hat hltg)
      | (refine step_append_lies _ rfl (.tmp 12) (.tmp 14) 33 rfl _ 37 i0 (.agg #[.int .i64 0, .int .i64 0, .int .i64 0, .int .i64 0, .int .i64 0, .int .i64 0, .int .i64 0, .int .i64 0]) 8 64 Try.underlying33 hi hz0 hz1 hz2 rfl (by decide) _ D.length _ (by simp [Act.eval, Act.put]) HO2.out ⟨W1.heap.size, 0, none⟩ 1 1 [.int .i64 x.id, .int .i64 x.prio, .int .i64 x.seq, .int .i64 x.phase, .int .i64 x.node, .int .i64 x.need.a, .int .i64 x.need.b, .int .i64 x.need.c] (by simp [Act.eval, Act.put]) rfl LT.out HR8.out (by omega) (by have := HDL.out; unfold maxLen; omega) (by have := HDL.out; omega) (by have := HB2.out.size; simp at this ⊢; omega) _ rfl ?_; intro g cap w4 hown4 hgrow hat hltg; have HB4 := Lib.hid (app_below (w := w) (HB1.out.trans ((show Below W1.heap.size W1 w2 from ((show Below W1.heap.size W1 W1.drew from ⟨rfl, rfl, rfl, Nat.le_refl _, fun _ _ => rfl⟩).alloc (Nat.le_refl _) _).trans (HB2.out.mono (by simp))).mono HB1.out.size)) HO2.out (by have := HB1.out.size; simp; omega) hgrow); have HJO := Lib.hid (kjobs_any _ (D ++ [x]) _ w4 (by have := HDL.out; simp; omega) (app_read hown4)); clear hown4 hgrow hat hltg)
      | (go_simp; go_at_call 21; refine HJO.out.mono ?_; rintro e w5 ⟨v5, rfl, hr5, b5⟩; obtain ⟨A5, c5, rfl, _, _⟩ := hr5.form; have HR5 := Lib.hid hr5; have HB5 := Lib.hid (HB4.out.trans (b5.mono HB4.out.size)); clear hr5 b5))
    all_goals
      have HF := Lib.hid (HR5.out.imp (K' := fun b => K b ∨ w.heap.size ≤ b) fun b hb _ => .inr (Nat.le_trans HB4.out.size hb))
      have HG := Lib.hid HB5.out
      clear HR5 HB5 HB4 HJO HO2 HB2
      go_wp2_with fail
      go_ret
      exact ⟨_, rfl, by rw [HPJ.out]; exact HF.out, HG.out⟩
end Go.Proofs.Ytalpocgajecjbaa
