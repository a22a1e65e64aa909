/- What package rank's Free and Takes come to, and the document's own. Conditions: numbers that an int holds. -/
import Derived.Test.YtipmlbbbjafpiaaRnkA
import Derived.Test.YtipmlbbbjafpiaaResB
namespace Go.Proofs.Ytipmlbbbjafpiaa
open Go.ChangeShapes Go.WideShapes Go.ChangeAt Go.RowKit
set_option linter.unusedVariables false
set_option maxRecDepth 100000
set_option linter.unusedSimpArgs false

/-- A node's block, and two blocks of three numbers behind it. -/
def freeW (w : World) (x : Nd) : World := ((oneN w x).alloc (.cells #[.int .i64 0, .int .i64 0, .int .i64 0] 23)).alloc (.cells #[.int .i64 0, .int .i64 0, .int .i64 0] 23)
theorem freeW_blk (w : World) (x : Nd) : BNod w.heap.size x (freeW w x) ∧ BX (w.heap.size + 1) zero3 (freeW w x) ∧ BX (w.heap.size + 1 + 1) zero3 (freeW w x) ∧ Below w.heap.size w (freeW w x) := by
  refine ⟨blk_old _ (blk_old _ (blk_new w _)), blk_old _ ?_, ?_, (((Below.refl w.heap.size w).alloc (Nat.le_refl _) _).alloc (by simp) _).alloc (by simp; omega) _⟩
  · have := blk_new (oneN w x) (.cells #[.int .i64 0, .int .i64 0, .int .i64 0] 23)
    rwa [show (oneN w x).heap.size = w.heap.size + 1 by unfold oneN; simp] at this
  · exact blk3 _ _ _ _
theorem freeI_yes {c u : Int} (h : u < c) : freeI c u = IntKind.i64.wrap (c - u) := if_pos h
theorem freeI_no {c u : Int} (h : ¬ u < c) : freeI c u = 0 := if_neg h
theorem bnod_set {b c : Nat} {x : Nd} {w : World} (h : BNod b x w) (hne : b ≠ c) (k : Nat) (v : Value) : BNod b x (w.setCell ⟨c, k, none⟩ v) := blk_far v h hne
theorem below_drewQ {B : Nat} {a w : World} (h : Below B a w) (n : Nat) : Below B a (w.drewN n) := ⟨h.os, h.tape, h.output, h.size, h.block⟩
theorem partV_skip {f : V3} {k : Nat} (h3 : k < 3) (h : f.at_ k = 0) : partV f (k + 1) = partV f k := by
  have hk3 : k = 0 ∨ k = 1 ∨ k = 2 := by omega
  unfold partV V3.at_ at *
  rcases hk3 with rfl | rfl | rfl <;> simp at h ⊢ <;> exact h
theorem bnod_drew {b : Nat} {x : Nd} {w : World} (h : BNod b x w) (n : Nat) : BNod b x (w.drewN n) := h
theorem bx_drewN {b : Nat} {v : V3} {w : World} (h : BX b v w) (n : Nat) : BX b v (w.drewN n) := h
set_option maxHeartbeats 4000000 in
theorem rfree_any (x : Nd) (w : World) : Calls Try.prog 17 #[x.val] w fun e w' => e = .returned (freeV x).val ∧ Below w.heap.size w w' := by
  have hw := freeW_blk w x
  have HW := Lib.hid hw
  clear hw
  obtain ⟨f, hf⟩ : ∃ f, freeV x = f := ⟨_, rfl⟩
  have hfa : f.a = freeI x.cap.a x.used.a := by rw [← hf]; rfl
  have hfb : f.b = freeI x.cap.b x.used.b := by rw [← hf]; rfl
  have hfc : f.c = freeI x.cap.c x.used.c := by rw [← hf]; rfl
  rw [hf]
  have HFA := Lib.hid hfa
  have HFB := Lib.hid hfb
  have HFC := Lib.hid hfc
  clear hfa hfb hfc hf
  unfold Nd.val V3.val
  go_enter Try.func17, Try.ntmps17
  go_wp2_with fail
  change Code.wp _ _ _ _ (freeW w x)
  generalize freeW w x = w1 at *
  go_loopw [5] (fun i wr => ∃ k : Nat, k ≤ 3 ∧ i = .int .i64 k ∧ BNod w.heap.size x wr ∧ BX (w.heap.size + 1) zero3 wr ∧ BX (w.heap.size + 1 + 1) (partV f k) wr ∧ Below w.heap.size w wr) (fun i _ => 3 - (intOf i).toNat)
  case atStart => exact ⟨0, by omega, rfl, HW.out⟩
  case round =>
    obtain ⟨k, hk, rfl, h1, h2, h3, h4⟩ := hrel
    have H1 := Lib.hid h1
    have H2 := Lib.hid h2
    have H3 := Lib.hid h3
    have H4 := Lib.hid h4
    clear h1 h2 h3 h4 HW
    have hk4 : k = 0 ∨ k = 1 ∨ k = 2 ∨ k = 3 := by omega
    rcases hk4 with rfl | rfl | rfl | rfl
    · have n0 : f.at_ 0 = f.a := rfl
      obtain ⟨_, _, _, g0, g1, g2, u0, u1, u2, _⟩ := H1.out.cells
      by_cases hlt : x.used.a < x.cap.a
      · have d1 : decide (x.used.a < x.cap.a) = true := decide_eq_true hlt
        have hq := freeI_yes hlt
        rw [← HFA.out] at hq
        have HQ := Lib.hid hq
        clear hlt hq
        go_wp2_with fail
        go_quiet (fail)
        go_wp2_with fail
        generalize hwq : wr.drewN nq = wq at *
        replace H1 := Lib.hid (show BNod w.heap.size x wq by rw [← hwq]; exact H1.out)
        replace H2 := Lib.hid (show BX (w.heap.size + 1) zero3 wq by rw [← hwq]; exact H2.out)
        replace H3 := Lib.hid (show BX (w.heap.size + 1 + 1) (partV f 0) wq by rw [← hwq]; exact H3.out)
        replace H4 := Lib.hid (show Below w.heap.size w wq by rw [← hwq]; exact below_drewQ H4.out nq)
        clear g0 g1 g2 u0 u1 u2 hwq
        obtain ⟨_, _, _, g0, g1, g2, u0, u1, u2, _⟩ := H1.out.cells
        have r0 := bx_at H3.out 0 (by omega)
        have fz := blk_free H3.out 0
        go_still_tail 11, (by kernel_rfl)
        change wpList _ _ _ _ _ wq.drew
        have HN1 := Lib.hid (show BNod w.heap.size x wq.drew from H1.out)
        have HN2 := Lib.hid (show BX (w.heap.size + 1) zero3 wq.drew from H2.out)
        have HN3 := Lib.hid (show BX (w.heap.size + 1 + 1) (partV f 0) wq.drew from H3.out)
        have HN4 := Lib.hid (show Below w.heap.size w wq.drew from H4.out.drew)
        clear g0 g1 g2 u0 u1 u2 r0 fz H1 H2 H3 H4
        generalize wq.drew = w2 at *
        have r0 := bx_at HN3.out 0 (by omega)
        have fz := blk_free HN3.out 0
        have HM1 := Lib.hid (bnod_set (c := w.heap.size + 1 + 1) HN1.out (by omega) 0 (.int .i64 f.a))
        have HM2 := Lib.hid (bx_off (c := w.heap.size + 1 + 1) HN2.out (by omega) 0 (.int .i64 f.a))
        have HM3 := Lib.hid (show BX (w.heap.size + 1 + 1) (partV f 1) (w2.setCell ⟨w.heap.size + 1 + 1, 0, none⟩ (.int .i64 f.a)) from bx_part 0 (by omega) HN3.out)
        have HM4 := Lib.hid (HN4.out.setCell (p := ⟨w.heap.size + 1 + 1, 0, none⟩) (by show w.heap.size ≤ w.heap.size + 1 + 1; omega) (.int .i64 f.a))
        rw [← HQ.out]
        generalize f.a = fv at *
        go_wp2_with fail
        go_roundw
        case rel => exact ⟨1, by omega, rfl, HM1.out, HM2.out, HM3.out, HM4.out⟩
        case measure => simp [intOf]
      · have d1 : decide (x.used.a < x.cap.a) = false := decide_eq_false hlt
        have hq := freeI_no hlt
        rw [← HFA.out] at hq
        rw [← partV_skip (by omega) (n0.trans hq)] at H3
        clear hlt hq n0
        go_wp2_with fail
        go_quiet (fail)
        go_wp2_with fail
        go_roundw
        case rel => exact ⟨1, by omega, rfl, H1.out, H2.out, H3.out, below_drewQ H4.out _⟩
        case measure => simp [intOf]
    · have n0 : f.at_ 1 = f.b := rfl
      obtain ⟨_, _, _, g0, g1, g2, u0, u1, u2, _⟩ := H1.out.cells
      by_cases hlt : x.used.b < x.cap.b
      · have d1 : decide (x.used.b < x.cap.b) = true := decide_eq_true hlt
        have hq := freeI_yes hlt
        rw [← HFB.out] at hq
        have HQ := Lib.hid hq
        clear hlt hq
        go_wp2_with fail
        go_quiet (fail)
        go_wp2_with fail
        generalize hwq : wr.drewN nq = wq at *
        replace H1 := Lib.hid (show BNod w.heap.size x wq by rw [← hwq]; exact H1.out)
        replace H2 := Lib.hid (show BX (w.heap.size + 1) zero3 wq by rw [← hwq]; exact H2.out)
        replace H3 := Lib.hid (show BX (w.heap.size + 1 + 1) (partV f 1) wq by rw [← hwq]; exact H3.out)
        replace H4 := Lib.hid (show Below w.heap.size w wq by rw [← hwq]; exact below_drewQ H4.out nq)
        clear g0 g1 g2 u0 u1 u2 hwq
        obtain ⟨_, _, _, g0, g1, g2, u0, u1, u2, _⟩ := H1.out.cells
        have r0 := bx_at H3.out 1 (by omega)
        have fz := blk_free H3.out 1
        go_still_tail 11, (by kernel_rfl)
        change wpList _ _ _ _ _ wq.drew
        have HN1 := Lib.hid (show BNod w.heap.size x wq.drew from H1.out)
        have HN2 := Lib.hid (show BX (w.heap.size + 1) zero3 wq.drew from H2.out)
        have HN3 := Lib.hid (show BX (w.heap.size + 1 + 1) (partV f 1) wq.drew from H3.out)
        have HN4 := Lib.hid (show Below w.heap.size w wq.drew from H4.out.drew)
        clear g0 g1 g2 u0 u1 u2 r0 fz H1 H2 H3 H4
        generalize wq.drew = w2 at *
        have r0 := bx_at HN3.out 1 (by omega)
        have fz := blk_free HN3.out 1
        have HM1 := Lib.hid (bnod_set (c := w.heap.size + 1 + 1) HN1.out (by omega) 1 (.int .i64 f.b))
        have HM2 := Lib.hid (bx_off (c := w.heap.size + 1 + 1) HN2.out (by omega) 1 (.int .i64 f.b))
        have HM3 := Lib.hid (show BX (w.heap.size + 1 + 1) (partV f 2) (w2.setCell ⟨w.heap.size + 1 + 1, 1, none⟩ (.int .i64 f.b)) from bx_part 1 (by omega) HN3.out)
        have HM4 := Lib.hid (HN4.out.setCell (p := ⟨w.heap.size + 1 + 1, 1, none⟩) (by show w.heap.size ≤ w.heap.size + 1 + 1; omega) (.int .i64 f.b))
        rw [← HQ.out]
        generalize f.b = fv at *
        go_wp2_with fail
        go_roundw
        case rel => exact ⟨2, by omega, rfl, HM1.out, HM2.out, HM3.out, HM4.out⟩
        case measure => simp [intOf]
      · have d1 : decide (x.used.b < x.cap.b) = false := decide_eq_false hlt
        have hq := freeI_no hlt
        rw [← HFB.out] at hq
        rw [← partV_skip (by omega) (n0.trans hq)] at H3
        clear hlt hq n0
        go_wp2_with fail
        go_quiet (fail)
        go_wp2_with fail
        go_roundw
        case rel => exact ⟨2, by omega, rfl, H1.out, H2.out, H3.out, below_drewQ H4.out _⟩
        case measure => simp [intOf]
    · have n0 : f.at_ 2 = f.c := rfl
      obtain ⟨_, _, _, g0, g1, g2, u0, u1, u2, _⟩ := H1.out.cells
      by_cases hlt : x.used.c < x.cap.c
      · have d1 : decide (x.used.c < x.cap.c) = true := decide_eq_true hlt
        have hq := freeI_yes hlt
        rw [← HFC.out] at hq
        have HQ := Lib.hid hq
        clear hlt hq
        go_wp2_with fail
        go_quiet (fail)
        go_wp2_with fail
        generalize hwq : wr.drewN nq = wq at *
        replace H1 := Lib.hid (show BNod w.heap.size x wq by rw [← hwq]; exact H1.out)
        replace H2 := Lib.hid (show BX (w.heap.size + 1) zero3 wq by rw [← hwq]; exact H2.out)
        replace H3 := Lib.hid (show BX (w.heap.size + 1 + 1) (partV f 2) wq by rw [← hwq]; exact H3.out)
        replace H4 := Lib.hid (show Below w.heap.size w wq by rw [← hwq]; exact below_drewQ H4.out nq)
        clear g0 g1 g2 u0 u1 u2 hwq
        obtain ⟨_, _, _, g0, g1, g2, u0, u1, u2, _⟩ := H1.out.cells
        have r0 := bx_at H3.out 2 (by omega)
        have fz := blk_free H3.out 2
        go_still_tail 11, (by kernel_rfl)
        change wpList _ _ _ _ _ wq.drew
        have HN1 := Lib.hid (show BNod w.heap.size x wq.drew from H1.out)
        have HN2 := Lib.hid (show BX (w.heap.size + 1) zero3 wq.drew from H2.out)
        have HN3 := Lib.hid (show BX (w.heap.size + 1 + 1) (partV f 2) wq.drew from H3.out)
        have HN4 := Lib.hid (show Below w.heap.size w wq.drew from H4.out.drew)
        clear g0 g1 g2 u0 u1 u2 r0 fz H1 H2 H3 H4
        generalize wq.drew = w2 at *
        have r0 := bx_at HN3.out 2 (by omega)
        have fz := blk_free HN3.out 2
        have HM1 := Lib.hid (bnod_set (c := w.heap.size + 1 + 1) HN1.out (by omega) 2 (.int .i64 f.c))
        have HM2 := Lib.hid (bx_off (c := w.heap.size + 1 + 1) HN2.out (by omega) 2 (.int .i64 f.c))
        have HM3 := Lib.hid (show BX (w.heap.size + 1 + 1) (partV f 3) (w2.setCell ⟨w.heap.size + 1 + 1, 2, none⟩ (.int .i64 f.c)) from bx_part 2 (by omega) HN3.out)
        have HM4 := Lib.hid (HN4.out.setCell (p := ⟨w.heap.size + 1 + 1, 2, none⟩) (by show w.heap.size ≤ w.heap.size + 1 + 1; omega) (.int .i64 f.c))
        rw [← HQ.out]
        generalize f.c = fv at *
        go_wp2_with fail
        go_roundw
        case rel => exact ⟨3, by omega, rfl, HM1.out, HM2.out, HM3.out, HM4.out⟩
        case measure => simp [intOf]
      · have d1 : decide (x.used.c < x.cap.c) = false := decide_eq_false hlt
        have hq := freeI_no hlt
        rw [← HFC.out] at hq
        rw [← partV_skip (by omega) (n0.trans hq)] at H3
        clear hlt hq n0
        go_wp2_with fail
        go_quiet (fail)
        go_wp2_with fail
        go_roundw
        case rel => exact ⟨3, by omega, rfl, H1.out, H2.out, H3.out, below_drewQ H4.out _⟩
        case measure => simp [intOf]
    · rw [partV_three] at H3
      obtain ⟨y0, y1, y2⟩ := bx_cells H3.out
      obtain ⟨z0, z1, z2⟩ := bx_cells H2.out
      obtain ⟨f0, f1, f2⟩ := bx_free H2.out
      go_wp2_with fail
      refine bodyPost_ret (cell_results rfl (bx_set H2.out f.a f.b f.c) rfl rfl) rfl ⟨rfl, set3_below H4.out (Nat.le_succ _) _ _ _⟩
set_option maxHeartbeats 4000000 in
theorem kfree_any (x : Nd) (w : World) : Calls Try.prog 18 #[x.val] w fun e w' => e = .returned (freeV x).val ∧ Below w.heap.size w w' := by
  have hw := freeW_blk w x
  have HW := Lib.hid hw
  clear hw
  obtain ⟨f, hf⟩ : ∃ f, freeV x = f := ⟨_, rfl⟩
  have hfa : f.a = freeI x.cap.a x.used.a := by rw [← hf]; rfl
  have hfb : f.b = freeI x.cap.b x.used.b := by rw [← hf]; rfl
  have hfc : f.c = freeI x.cap.c x.used.c := by rw [← hf]; rfl
  rw [hf]
  have HFA := Lib.hid hfa
  have HFB := Lib.hid hfb
  have HFC := Lib.hid hfc
  clear hfa hfb hfc hf
  unfold Nd.val V3.val
  go_enter Try.func18, Try.ntmps18
  go_wp2_with fail
  change Code.wp _ _ _ _ (freeW w x)
  generalize freeW w x = w1 at *
  go_loopw [4] (fun i wr => ∃ k : Nat, k ≤ 3 ∧ i = .int .i64 k ∧ BNod w.heap.size x wr ∧ BX (w.heap.size + 1) zero3 wr ∧ BX (w.heap.size + 1 + 1) (partV f k) wr ∧ Below w.heap.size w wr) (fun i _ => 3 - (intOf i).toNat)
  case atStart => exact ⟨0, by omega, rfl, HW.out⟩
  case round =>
    obtain ⟨k, hk, rfl, h1, h2, h3, h4⟩ := hrel
    have H1 := Lib.hid h1
    have H2 := Lib.hid h2
    have H3 := Lib.hid h3
    have H4 := Lib.hid h4
    clear h1 h2 h3 h4 HW
    have hk4 : k = 0 ∨ k = 1 ∨ k = 2 ∨ k = 3 := by omega
    rcases hk4 with rfl | rfl | rfl | rfl
    · have n0 : f.at_ 0 = f.a := rfl
      obtain ⟨_, _, _, g0, g1, g2, u0, u1, u2, _⟩ := H1.out.cells
      by_cases hlt : x.used.a < x.cap.a
      · have d1 : decide (x.used.a < x.cap.a) = true := decide_eq_true hlt
        have hq := freeI_yes hlt
        rw [← HFA.out] at hq
        have HQ := Lib.hid hq
        clear hlt hq
        go_wp2_with fail
        go_quiet (fail)
        go_wp2_with fail
        generalize hwq : wr.drewN nq = wq at *
        replace H1 := Lib.hid (show BNod w.heap.size x wq by rw [← hwq]; exact H1.out)
        replace H2 := Lib.hid (show BX (w.heap.size + 1) zero3 wq by rw [← hwq]; exact H2.out)
        replace H3 := Lib.hid (show BX (w.heap.size + 1 + 1) (partV f 0) wq by rw [← hwq]; exact H3.out)
        replace H4 := Lib.hid (show Below w.heap.size w wq by rw [← hwq]; exact below_drewQ H4.out nq)
        clear g0 g1 g2 u0 u1 u2 hwq
        obtain ⟨_, _, _, g0, g1, g2, u0, u1, u2, _⟩ := H1.out.cells
        have r0 := bx_at H3.out 0 (by omega)
        have fz := blk_free H3.out 0
        go_still_tail 11, (by kernel_rfl)
        change wpList _ _ _ _ _ wq.drew
        have HN1 := Lib.hid (show BNod w.heap.size x wq.drew from H1.out)
        have HN2 := Lib.hid (show BX (w.heap.size + 1) zero3 wq.drew from H2.out)
        have HN3 := Lib.hid (show BX (w.heap.size + 1 + 1) (partV f 0) wq.drew from H3.out)
        have HN4 := Lib.hid (show Below w.heap.size w wq.drew from H4.out.drew)
        clear g0 g1 g2 u0 u1 u2 r0 fz H1 H2 H3 H4
        generalize wq.drew = w2 at *
        have r0 := bx_at HN3.out 0 (by omega)
        have fz := blk_free HN3.out 0
        have HM1 := Lib.hid (bnod_set (c := w.heap.size + 1 + 1) HN1.out (by omega) 0 (.int .i64 f.a))
        have HM2 := Lib.hid (bx_off (c := w.heap.size + 1 + 1) HN2.out (by omega) 0 (.int .i64 f.a))
        have HM3 := Lib.hid (show BX (w.heap.size + 1 + 1) (partV f 1) (w2.setCell ⟨w.heap.size + 1 + 1, 0, none⟩ (.int .i64 f.a)) from bx_part 0 (by omega) HN3.out)
        have HM4 := Lib.hid (HN4.out.setCell (p := ⟨w.heap.size + 1 + 1, 0, none⟩) (by show w.heap.size ≤ w.heap.size + 1 + 1; omega) (.int .i64 f.a))
        rw [← HQ.out]
        generalize f.a = fv at *
        go_wp2_with fail
        go_roundw
        case rel => exact ⟨1, by omega, rfl, HM1.out, HM2.out, HM3.out, HM4.out⟩
        case measure => simp [intOf]
      · have d1 : decide (x.used.a < x.cap.a) = false := decide_eq_false hlt
        have hq := freeI_no hlt
        rw [← HFA.out] at hq
        rw [← partV_skip (by omega) (n0.trans hq)] at H3
        clear hlt hq n0
        go_wp2_with fail
        go_quiet (fail)
        go_wp2_with fail
        go_roundw
        case rel => exact ⟨1, by omega, rfl, H1.out, H2.out, H3.out, below_drewQ H4.out _⟩
        case measure => simp [intOf]
    · have n0 : f.at_ 1 = f.b := rfl
      obtain ⟨_, _, _, g0, g1, g2, u0, u1, u2, _⟩ := H1.out.cells
      by_cases hlt : x.used.b < x.cap.b
      · have d1 : decide (x.used.b < x.cap.b) = true := decide_eq_true hlt
        have hq := freeI_yes hlt
        rw [← HFB.out] at hq
        have HQ := Lib.hid hq
        clear hlt hq
        go_wp2_with fail
        go_quiet (fail)
        go_wp2_with fail
        generalize hwq : wr.drewN nq = wq at *
        replace H1 := Lib.hid (show BNod w.heap.size x wq by rw [← hwq]; exact H1.out)
        replace H2 := Lib.hid (show BX (w.heap.size + 1) zero3 wq by rw [← hwq]; exact H2.out)
        replace H3 := Lib.hid (show BX (w.heap.size + 1 + 1) (partV f 1) wq by rw [← hwq]; exact H3.out)
        replace H4 := Lib.hid (show Below w.heap.size w wq by rw [← hwq]; exact below_drewQ H4.out nq)
        clear g0 g1 g2 u0 u1 u2 hwq
        obtain ⟨_, _, _, g0, g1, g2, u0, u1, u2, _⟩ := H1.out.cells
        have r0 := bx_at H3.out 1 (by omega)
        have fz := blk_free H3.out 1
        go_still_tail 11, (by kernel_rfl)
        change wpList _ _ _ _ _ wq.drew
        have HN1 := Lib.hid (show BNod w.heap.size x wq.drew from H1.out)
        have HN2 := Lib.hid (show BX (w.heap.size + 1) zero3 wq.drew from H2.out)
        have HN3 := Lib.hid (show BX (w.heap.size + 1 + 1) (partV f 1) wq.drew from H3.out)
        have HN4 := Lib.hid (show Below w.heap.size w wq.drew from H4.out.drew)
        clear g0 g1 g2 u0 u1 u2 r0 fz H1 H2 H3 H4
        generalize wq.drew = w2 at *
        have r0 := bx_at HN3.out 1 (by omega)
        have fz := blk_free HN3.out 1
        have HM1 := Lib.hid (bnod_set (c := w.heap.size + 1 + 1) HN1.out (by omega) 1 (.int .i64 f.b))
        have HM2 := Lib.hid (bx_off (c := w.heap.size + 1 + 1) HN2.out (by omega) 1 (.int .i64 f.b))
        have HM3 := Lib.hid (show BX (w.heap.size + 1 + 1) (partV f 2) (w2.setCell ⟨w.heap.size + 1 + 1, 1, none⟩ (.int .i64 f.b)) from bx_part 1 (by omega) HN3.out)
        have HM4 := Lib.hid (HN4.out.setCell (p := ⟨w.heap.size + 1 + 1, 1, none⟩) (by show w.heap.size ≤ w.heap.size + 1 + 1; omega) (.int .i64 f.b))
        rw [← HQ.out]
        generalize f.b = fv at *
        go_wp2_with fail
        go_roundw
        case rel => exact ⟨2, by omega, rfl, HM1.out, HM2.out, HM3.out, HM4.out⟩
        case measure => simp [intOf]
      · have d1 : decide (x.used.b < x.cap.b) = false := decide_eq_false hlt
        have hq := freeI_no hlt
        rw [← HFB.out] at hq
        rw [← partV_skip (by omega) (n0.trans hq)] at H3
        clear hlt hq n0
        go_wp2_with fail
        go_quiet (fail)
        go_wp2_with fail
        go_roundw
        case rel => exact ⟨2, by omega, rfl, H1.out, H2.out, H3.out, below_drewQ H4.out _⟩
        case measure => simp [intOf]
    · have n0 : f.at_ 2 = f.c := rfl
      obtain ⟨_, _, _, g0, g1, g2, u0, u1, u2, _⟩ := H1.out.cells
      by_cases hlt : x.used.c < x.cap.c
      · have d1 : decide (x.used.c < x.cap.c) = true := decide_eq_true hlt
        have hq := freeI_yes hlt
        rw [← HFC.out] at hq
        have HQ := Lib.hid hq
        clear hlt hq
        go_wp2_with fail
        go_quiet (fail)
        go_wp2_with fail
        generalize hwq : wr.drewN nq = wq at *
        replace H1 := Lib.hid (show BNod w.heap.size x wq by rw [← hwq]; exact H1.out)
        replace H2 := Lib.hid (show BX (w.heap.size + 1) zero3 wq by rw [← hwq]; exact H2.out)
        replace H3 := Lib.hid (show BX (w.heap.size + 1 + 1) (partV f 2) wq by rw [← hwq]; exact H3.out)
        replace H4 := Lib.hid (show Below w.heap.size w wq by rw [← hwq]; exact below_drewQ H4.out nq)
        clear g0 g1 g2 u0 u1 u2 hwq
        obtain ⟨_, _, _, g0, g1, g2, u0, u1, u2, _⟩ := H1.out.cells
        have r0 := bx_at H3.out 2 (by omega)
        have fz := blk_free H3.out 2
        go_still_tail 11, (by kernel_rfl)
        change wpList _ _ _ _ _ wq.drew
        have HN1 := Lib.hid (show BNod w.heap.size x wq.drew from H1.out)
        have HN2 := Lib.hid (show BX (w.heap.size + 1) zero3 wq.drew from H2.out)
        have HN3 := Lib.hid (show BX (w.heap.size + 1 + 1) (partV f 2) wq.drew from H3.out)
        have HN4 := Lib.hid (show Below w.heap.size w wq.drew from H4.out.drew)
        clear g0 g1 g2 u0 u1 u2 r0 fz H1 H2 H3 H4
        generalize wq.drew = w2 at *
        have r0 := bx_at HN3.out 2 (by omega)
        have fz := blk_free HN3.out 2
        have HM1 := Lib.hid (bnod_set (c := w.heap.size + 1 + 1) HN1.out (by omega) 2 (.int .i64 f.c))
        have HM2 := Lib.hid (bx_off (c := w.heap.size + 1 + 1) HN2.out (by omega) 2 (.int .i64 f.c))
        have HM3 := Lib.hid (show BX (w.heap.size + 1 + 1) (partV f 3) (w2.setCell ⟨w.heap.size + 1 + 1, 2, none⟩ (.int .i64 f.c)) from bx_part 2 (by omega) HN3.out)
        have HM4 := Lib.hid (HN4.out.setCell (p := ⟨w.heap.size + 1 + 1, 2, none⟩) (by show w.heap.size ≤ w.heap.size + 1 + 1; omega) (.int .i64 f.c))
        rw [← HQ.out]
        generalize f.c = fv at *
        go_wp2_with fail
        go_roundw
        case rel => exact ⟨3, by omega, rfl, HM1.out, HM2.out, HM3.out, HM4.out⟩
        case measure => simp [intOf]
      · have d1 : decide (x.used.c < x.cap.c) = false := decide_eq_false hlt
        have hq := freeI_no hlt
        rw [← HFC.out] at hq
        rw [← partV_skip (by omega) (n0.trans hq)] at H3
        clear hlt hq n0
        go_wp2_with fail
        go_quiet (fail)
        go_wp2_with fail
        go_roundw
        case rel => exact ⟨3, by omega, rfl, H1.out, H2.out, H3.out, below_drewQ H4.out _⟩
        case measure => simp [intOf]
    · rw [partV_three] at H3
      obtain ⟨y0, y1, y2⟩ := bx_cells H3.out
      obtain ⟨z0, z1, z2⟩ := bx_cells H2.out
      obtain ⟨f0, f1, f2⟩ := bx_free H2.out
      go_wp2_with fail
      refine bodyPost_ret (cell_results rfl (bx_set H2.out f.a f.b f.c) rfl rfl) rfl ⟨rfl, set3_below H4.out (Nat.le_succ _) _ _ _⟩
/-- A node and a need that were boxed. -/
def takesW (w : World) (x : Nd) (v : V3) : World := (oneN w x).alloc (.cells #[.int .i64 v.a, .int .i64 v.b, .int .i64 v.c] 23)
theorem takesW_blk (w : World) (x : Nd) (v : V3) : BNod w.heap.size x (takesW w x v) ∧ BX (w.heap.size + 1) v (takesW w x v) ∧ Below w.heap.size w (takesW w x v) := by
  refine ⟨blk_old _ (blk_new w _), ?_, ((Below.refl w.heap.size w).alloc (Nat.le_refl _) _).alloc (by simp) _⟩
  have := blk_new (oneN w x) (.cells #[.int .i64 v.a, .int .i64 v.b, .int .i64 v.c] 23)
  rwa [show (oneN w x).heap.size = w.heap.size + 1 by unfold oneN; simp] at this
set_option maxHeartbeats 2000000 in
theorem rtakes_any (x : Nd) (v : V3) (w : World) (hv : v.ok) : Calls Try.prog 19 #[x.val, v.val] w fun e w' => e = .returned (.bool (ndTakes x v)) ∧ Below w.heap.size w w' := by
  have hw := takesW_blk w x v
  have HW := Lib.hid hw
  clear hw
  have E1 := Lib.hid fun w' => rfree_any x w'
  have E2 := Lib.hid fun w' => qfits_any v (freeV x) w' hv (freeV_ok x)
  have HX := Lib.hid (show ndTakes x v = (x.up && fitsB v (freeV x)) from rfl)
  generalize ndTakes x v = r at *
  generalize freeV x = f at *
  generalize fitsB v f = q at *
  obtain ⟨u, hu⟩ : ∃ u, x.up = u := ⟨_, rfl⟩
  have HU := Lib.hid hu
  rw [hu] at HX
  clear hu
  cases u with
  | false =>
    have HX2 := Lib.hid (show r = false from HX.out)
    clear hv
    unfold Nd.val V3.val
    go_enter Try.func19, Try.ntmps19
    go_wp2_with fail
    change Code.wp _ _ _ _ (takesW w x v)
    generalize takesW w x v = W at *
    obtain ⟨b0, b1, b2, b3, b4, b5, b6, b7, b8, b9⟩ := HW.out.1.cells
    rw [HU.out] at b9
    obtain ⟨c0, c1, c2⟩ := bx_cells HW.out.2.1
    go_quiet (fail)
    go_wp2_with fail
    go_ret
    exact ⟨boolq HX2.out.symm, below_drewQ HW.out.2.2 _⟩
  | true =>
    have HX2 := Lib.hid (show r = q from HX.out)
    clear hv HX
    unfold Nd.val V3.val at *
    rw [HU.out] at E1
    go_enter Try.func19, Try.ntmps19
    go_wp2_with fail
    change Code.wp _ _ _ _ (takesW w x v)
    generalize takesW w x v = W at *
    have HL := Lib.hid (show ∀ w', Below W.heap.size W w' → BNod w.heap.size x w' ∧ BX (w.heap.size + 1) v w' from fun w' hb => ⟨HW.out.1.below hb HW.out.1.lt, bx_below HW.out.2.1 hb⟩)
    refine wp_region_hold (fun w' => Below W.heap.size W w') (by kernel_rfl) (by kernel_rfl) ⟨rfl, rfl, rfl, Nat.le_refl _, fun _ _ => rfl⟩ ?_
    repeat
      first
      | (refine hold_val (v := ?_) (by rfl) ?_ ?_
         rotate_left
         · (intro w' hS
            obtain ⟨hq1, hq2⟩ := HL.out w' hS
            obtain ⟨_, _, _, _, _, _, _, _, _, hup⟩ := hq1.cells
            rw [HU.out] at hup
            obtain ⟨_, _, _⟩ := bx_cells hq2
            clear hq1 hq2
            go_simp
            try with_reducible rfl)
         simp only [Act.put, List.setIfInBounds_toArray, List.set_cons_zero, List.set_cons_succ])
      | ((first
          | (refine hold_call (by rfl) ?_ (fun w' hS => made_call hS (Nat.le_refl _) (E1.out w')) ?_; focus (intro w' hS; go_simp; done))
          | (refine hold_call (by rfl) ?_ (fun w' hS => made_call hS (Nat.le_refl _) (E2.out w')) ?_; focus (intro w' hS; go_simp; done)))
         simp only [Act.put, List.setIfInBounds_toArray, List.set_cons_zero, List.set_cons_succ])
    refine hold_nil (fun w' hS => ?_)
    have HF := Lib.hid (HW.out.2.2.trans (hS.mono HW.out.2.2.size))
    clear hS
    go_wp2_with fail
    go_ret
    exact ⟨boolq HX2.out.symm, HF.out⟩
/-- What is behind a node, a need and what is free. -/
theorem takes3 {W w2 : World} {b c : Nat} {x : Nd} {v f : V3} (h1 : BNod b x W) (h2 : BX c v W) (hb : Below W.heap.size W w2) : BNod b x (w2.alloc (.cells #[.int .i64 f.a, .int .i64 f.b, .int .i64 f.c] 23)) ∧ BX c v (w2.alloc (.cells #[.int .i64 f.a, .int .i64 f.b, .int .i64 f.c] 23)) ∧ BX w2.heap.size f (w2.alloc (.cells #[.int .i64 f.a, .int .i64 f.b, .int .i64 f.c] 23)) :=
  ⟨blk_old _ (h1.below hb h1.lt), blk_old _ (bx_below h2 hb), blk_new _ _⟩
set_option maxHeartbeats 2000000 in
theorem ktakes_any (x : Nd) (v : V3) (w : World) : Calls Try.prog 20 #[x.val, v.val] w fun e w' => e = .returned (.bool (ndTakes x v)) ∧ Below w.heap.size w w' := by
  have hw := takesW_blk w x v
  have HW := Lib.hid hw
  clear hw
  have E1 := Lib.hid fun w' => kfree_any x w'
  have HX := Lib.hid (show ndTakes x v = (x.up && fitsB v (freeV x)) from rfl)
  have HF := Lib.hid fun f => (show fitsB v f = (decide (v.a ≤ f.a) && decide (v.b ≤ f.b) && decide (v.c ≤ f.c)) from rfl)
  generalize ndTakes x v = r at *
  generalize freeV x = f at *
  unfold Nd.val V3.val at *
  go_enter Try.func20, Try.ntmps20
  go_wp2_with fail
  change Calls _ _ _ (takesW w x v) _
  generalize takesW w x v = W at *
  refine (E1.out _).mono ?_; rintro e w2 ⟨rfl, hb⟩
  have H3 := Lib.hid (takes3 (f := f) HW.out.1 HW.out.2.1 hb)
  have HB := Lib.hid ((HW.out.2.2.trans (hb.mono HW.out.2.2.size)).alloc (Nat.le_trans HW.out.2.2.size hb.size) (.cells #[.int .i64 f.a, .int .i64 f.b, .int .i64 f.c] 23))
  clear hb HW E1
  obtain ⟨b0, b1, b2, b3, b4, b5, b6, b7, b8, b9⟩ := H3.out.1.cells
  obtain ⟨c0, c1, c2⟩ := bx_cells H3.out.2.1
  obtain ⟨y0, y1, y2⟩ := bx_cells H3.out.2.2
  obtain ⟨u, hu⟩ : ∃ u, x.up = u := ⟨_, rfl⟩
  obtain ⟨p1, hp1⟩ : ∃ p, decide (v.a ≤ f.a) = p := ⟨_, rfl⟩
  obtain ⟨p2, hp2⟩ : ∃ p, decide (v.b ≤ f.b) = p := ⟨_, rfl⟩
  obtain ⟨p3, hp3⟩ : ∃ p, decide (v.c ≤ f.c) = p := ⟨_, rfl⟩
  have HR := Lib.hid (show r = (u && (p1 && p2 && p3)) by rw [HX.out, hu, HF.out, hp1, hp2, hp3])
  rw [hu] at b9
  clear HX HF hu
  cases u <;> cases p1 <;> cases p2 <;> cases p3 <;>
  (go_wp2_with fail
   go_ret
   exact ⟨boolq HR.out.symm, HB.out⟩)
end Go.Proofs.Ytipmlbbbjafpiaa
