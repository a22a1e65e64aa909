/- What Get, of package event, comes to. Conditions: the text is no longer than the law's. -/
import Derived.Test.YtkahdmhgfojbiaaEvX
namespace Go.Proofs.Ytkahdmhgfojbiaa
open Go.ChangeShapes Go.WideShapes Go.ChangeAt Go.RowKit
set_option linter.unusedVariables false
set_option maxRecDepth 100000
set_option linter.unusedSimpArgs false

/-! ### Get -/
set_option maxHeartbeats 4000000 in
theorem evget_any (s : ByteArray) (w : World) (hs : s.size ≤ 100000) : Calls Try.prog 13 #[.string s] w fun e w' => e = .returned (.tuple #[(getE s.data.toList).1.val, .int .i64 (getE s.data.toList).2]) ∧ Below w.heap.size w w' := by
  have hb0 : Below w.heap.size w (w.alloc (.cells zeroE.cells 25)) := (Below.refl _ _).alloc (Nat.le_refl _) _
  have HR1 := Lib.hid (evt_new w zeroE 25)
  have hz1 : (w.alloc (.cells zeroE.cells 25)).heap.size = w.heap.size + 1 := by simp
  have HB1 := Lib.hid hb0
  have HG := Lib.hid (get_read s.data.toList)
  have hok := read_ok s.data.toList
  have HRD := Lib.hid fun cb W h => read_any cb s W (by omega) h
  obtain ⟨G, hG⟩ : ∃ G, getE s.data.toList = G := ⟨_, rfl⟩
  rw [hG] at HG ⊢
  clear hG hb0
  generalize readE s.data.toList = R at *
  obtain ⟨v, e⟩ := R
  dsimp only at HG hok HRD
  have HCK := Lib.hid fun W => evcheck_any v W hok
  unfold zeroE Evt.cells zero3 at HR1 HB1 hz1
  unfold Evt.val at HRD HCK
  go_enter Try.func13, Try.ntmps13
  go_wp2_with fail
  generalize w.alloc (Obj.cells #[.int .i64 0, .int .i64 0, .int .i64 0, .int .i64 0, .int .i64 0, .int .i64 0, .int .i64 0, .int .i64 0] 25) = w1 at *
  refine (curnew_any s w1).mono ?_
  rintro e' w2 ⟨rfl, hc2, hb2⟩
  rw [hz1] at hc2 hb2
  have HC2 := Lib.hid hc2
  have HR2 := Lib.hid (blk_below hb2 HR1.out (by omega))
  have HB2 := Lib.hid (HB1.out.trans (hb2.mono (by omega)))
  clear hc2 hb2 HR1 HB1
  go_wp2_with fail
  refine (HRD.out (w.heap.size + 1) w2 HC2.out).mono ?_
  rintro e' w3 ⟨rfl, hb3⟩
  have HR3 := Lib.hid (blk_below hb3 HR2.out (by omega))
  have HB3 := Lib.hid (HB2.out.trans (hb3.mono (by omega)))
  clear HC2 hb3 HR2 HB2 HRD
  have hsz3 : w.heap.size < w3.heap.size := lt_of_block HR3.out
  have hb4 : Below w3.heap.size w3 (w3.alloc (.cells v.cells 25)) := (Below.refl _ _).alloc (Nat.le_refl _) _
  have HR4 := Lib.hid (blk_below hb4 HR3.out hsz3)
  have HB4 := Lib.hid (HB3.out.trans (hb4.mono (by omega)))
  have HX4 := Lib.hid (evt_new w3 v 25)
  have hsz4 : w3.heap.size < (w3.alloc (.cells v.cells 25)).heap.size := by simp
  unfold Evt.cells at HR4 HB4 HX4 hsz4
  clear hb4 HR3 HB3
  obtain ⟨w4, hW⟩ : ∃ w4, w3.alloc (Obj.cells #[.int .i64 v.k, .int .i64 v.n, .int .i64 v.j, .int .i64 v.i, .int .i64 v.p, .int .i64 v.r.a, .int .i64 v.r.b, .int .i64 v.r.c] 25) = w4 := ⟨_, rfl⟩
  rw [hW] at HR4 HB4 HX4 hsz4
  by_cases he : e = 0
  · subst he
    obtain ⟨x0, x1, x2, x3, x4, x5, x6, x7⟩ := evt_cells (v := v) HX4.out
    go_wp2_with fail
    refine (HCK.out w4).mono ?_
    rintro e' w5 ⟨rfl, hb5⟩
    have HR5 := Lib.hid (blk_below hb5 HR4.out (by omega))
    have HB5 := Lib.hid (HB4.out.trans (hb5.mono (by omega)))
    have HX5 := Lib.hid (blk_below hb5 HX4.out hsz4)
    have hsz5 : w.heap.size < w5.heap.size := lt_of_block HR5.out
    clear hb5 HR4 HB4 HX4 x0 x1 x2 x3 x4 x5 x6 x7 HCK
    obtain ⟨x0, x1, x2, x3, x4, x5, x6, x7⟩ := evt_cells (v := ⟨0, 0, 0, 0, 0, ⟨0, 0, 0⟩⟩) HR5.out
    obtain ⟨g0, g1, g2, g3, g4, g5, g6, g7⟩ := evt_cells (v := v) HX5.out
    have fz := fun o => blk_free HR5.out o
    by_cases hc : checkE v = 0
    · have HE := Lib.hid (show G = (v, 0) by rw [HG.out, if_neg (by simp), if_pos hc])
      rw [hc]
      clear HG hc
      go_wp2_with fail
      exact bodyPost_ret (results_cv rfl rfl rfl (evt_set (v := v) (u := zeroE) HR5.out) Try.underlying25 rfl (by kernel_rfl)) rfl ⟨by rw [HE.out]; rfl, HB5.out.trans ((evt_only w5 w.heap.size v).below (by omega) (by omega))⟩
    · have HE := Lib.hid (show G = (zeroE, checkE v) by rw [HG.out, if_neg (by simp), if_neg hc])
      have k1 : (checkE v == 0) = false := beq_eq_false_iff_ne.2 hc
      have k2 : decide (checkE v = 0) = false := decide_eq_false hc
      have k3 : (checkE v != 0) = true := by simpa using hc
      clear HG
      generalize checkE v = c at *
      go_wp2_with fail
      exact bodyPost_ret (results_cv rfl rfl rfl (evt_set (v := zeroE) (u := zeroE) HR5.out) Try.underlying25 rfl (by kernel_rfl)) rfl ⟨by rw [HE.out]; rfl, HB5.out.trans ((evt_only w5 w.heap.size zeroE).below (by omega) (by omega))⟩
  · have k1 : (e == 0) = false := beq_eq_false_iff_ne.2 he
    have k2 : decide (e = 0) = false := decide_eq_false he
    have k3 : (e != 0) = true := by simpa using he
    have HE := Lib.hid (show G = (zeroE, e) by rw [HG.out, if_pos he])
    obtain ⟨x0, x1, x2, x3, x4, x5, x6, x7⟩ := evt_cells (v := ⟨0, 0, 0, 0, 0, ⟨0, 0, 0⟩⟩) HR4.out
    have fz := fun o => blk_free HR4.out o
    go_wp2_with fail
    exact bodyPost_ret (results_cv rfl rfl rfl (evt_set (v := zeroE) (u := zeroE) HR4.out) Try.underlying25 rfl (by kernel_rfl)) rfl ⟨by rw [HE.out]; rfl, HB4.out.trans ((evt_only w4 w.heap.size zeroE).below (by omega) (by omega))⟩
end Go.Proofs.Ytkahdmhgfojbiaa
