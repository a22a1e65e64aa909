/- What must come of package res, whatever the arguments are; vectors that came in. Conditions: none. -/
import Derived.Test.YtgiofaccigkfjaaDoorRes
import Derived.Test.YtgiofaccigkfjaaDoorArgs
import Derived.Test.YtgiofaccigkfjaaDoorHold
import Derived.ChangeKeysEq
import Derived.Laws.StructEq
namespace Go.Proofs.YtgiofaccigkfjaaDoor
open Go.ChangeShapes Go.WideShapes Go.ChangeAt Go.RowKit
set_option linter.unusedVariables false
set_option maxRecDepth 100000
set_option linter.unusedSimpArgs false

theorem wf_inI {n : Int} (h : (Lit.int .i64 n).wf = true) : inI n := by
  have := bounds_i64 h; unfold inI; omega
/-- A vector that came in. -/
theorem res_came {w : World} {c : Array Value} (h : Has w (Sh.rep (.int .i64) 3) c.toList) : ∃ v : V3, v.ok ∧ c = #[.int .i64 v.a, .int .i64 v.b, .int .i64 v.c] := by
  obtain ⟨x, r, hc, ⟨n1, rfl, h1⟩, y, r2, rfl, ⟨n2, rfl, h2⟩, z, r3, rfl, ⟨n3, rfl, h3⟩, h4⟩ := h
  have h4 : r3 = [] := h4
  subst h4
  exact ⟨⟨n1, n2, n3⟩, ⟨wf_inI h1, wf_inI h2, wf_inI h3⟩, by cases c; simp_all⟩
theorem blk_two (w : World) (o1 o2 : Obj) : ((w.alloc o1).alloc o2).heap[w.heap.size]? = some o1 ∧ ((w.alloc o1).alloc o2).heap[w.heap.size + 1]? = some o2 :=
  ⟨blk_old _ (blk_new w _), by have := blk_new (w.alloc o1) o2; simpa using this⟩
/-- A block behind a store into a new one. -/
theorem bx_more {b : Nat} {v : V3} {w : World} (h : BX b v w) (o : Obj) : BX b v (w.alloc o) := blk_old _ h
theorem bx_fresh (w : World) (v : V3) : BX w.heap.size v (w.alloc (.cells #[.int .i64 v.a, .int .i64 v.b, .int .i64 v.c] 23)) := blk_new w _
theorem bx_third (w : World) (v u x : V3) : BX (w.heap.size + 1 + 1) x (((w.alloc (.cells #[.int .i64 v.a, .int .i64 v.b, .int .i64 v.c] 23)).alloc (.cells #[.int .i64 u.a, .int .i64 u.b, .int .i64 u.c] 23)).alloc (.cells #[.int .i64 x.a, .int .i64 x.b, .int .i64 x.c] 23)) := blk3 _ _ _ _
theorem most_ok (v u : V3) (hv : v.ok) (hu : u.ok) : (mostV v u).ok := by
  obtain ⟨⟨a1, a2⟩, ⟨a3, a4⟩, a5, a6⟩ := hv
  obtain ⟨⟨b1, b2⟩, ⟨b3, b4⟩, b5, b6⟩ := hu
  unfold V3.ok inI mostV
  dsimp only
  omega
theorem addV_ok (v u : V3) : (addV v u).ok := by
  unfold addV
  split
  · rename_i h
    have h1 := ((rightB_iff _).1 ((addB_iff v u).1 h).2.2)
    unfold V3.ok inI; omega
  · unfold V3.ok inI zero3; decide
theorem takeV_ok (v u : V3) : (takeV v u).ok := by
  unfold takeV
  split
  · rename_i h
    have h0 := (takeB_iff v u).1 h
    have h1 := (rightB_iff _).1 h0.1
    have h2 := (rightB_iff _).1 h0.2.1
    unfold V3.ok inI subV; dsimp only; omega
  · unfold V3.ok inI zero3; decide
theorem ne_cases {a b : Bool} (h : a = !b) : (a = true ∧ b = false) ∨ (a = false ∧ b = true) := by cases a <;> cases b <;> simp_all
theorem bx_keep {b B : Nat} {v : V3} {w w' : World} (h : BX b v w) (hb : Below B w w') (hB : b < B) : BX b v w' := (hb.block b hB).trans h
theorem bx_lt {b : Nat} {v : V3} {w : World} (h : BX b v w) : b < w.heap.size := lt_of_block h
theorem t3_text : text3 ⟨1, 2, 5⟩ = [49, 44, 50, 44, 53] := by
  have h (n : Int) (h1 : 0 ≤ n) (h2 : n < 10) : textL n = [digC n.natAbs] := by
    unfold textL; rw [if_neg (by omega), decL_lt (by omega)]
  unfold text3 listL V3.list
  simp only [List.map, h 1 (by omega) (by omega), h 2 (by omega) (by omega), h 5 (by omega) (by omega)]
  rfl
theorem four_ok : (⟨4, 4, 4⟩ : V3).ok ∧ (⟨1, 2, 5⟩ : V3).ok := by unfold V3.ok inI; decide
set_option maxHeartbeats 2000000 in
theorem res_awake (w : World) (ht : Tb w) : Calls Tryd.prog 19 #[] w fun e w' => e = .returned (.bool true) ∧ Below w.heap.size w w' := by
  obtain ⟨ok1, ok2⟩ := four_ok
  have HT := Lib.hid ht
  have S1 := fun w => qsub_any ⟨4, 4, 4⟩ ⟨1, 2, 5⟩ w ok1 ok2
  have S2 := fun w => qadd_any ⟨4, 4, 4⟩ ⟨1, 2, 5⟩ w ok1 ok2
  rw [show takeV ⟨4, 4, 4⟩ ⟨1, 2, 5⟩ = zero3 from rfl, show takeB ⟨4, 4, 4⟩ ⟨1, 2, 5⟩ = false by decide] at S1
  rw [show addV ⟨4, 4, 4⟩ ⟨1, 2, 5⟩ = ⟨5, 6, 9⟩ from rfl, show addB ⟨4, 4, 4⟩ ⟨1, 2, 5⟩ = true by decide] at S2
  have S3 := fun w h => qparse_any (ByteArray.mk #[49, 44, 50, 44, 53]) w (by decide) h
  have hb3 := parse3_back ⟨1, 2, 5⟩ ok2
  rw [t3_text] at hb3
  rw [show (ByteArray.mk #[49, 44, 50, 44, 53]).data.toList = [49, 44, 50, 44, 53] from rfl, hb3.1, hb3.2, show (((0 : Nat)) : Int) = 0 from rfl] at S3
  have S4 := fun w h => qtext_any ⟨1, 2, 5⟩ w ok2 h
  rw [t3_text, show bs [49, 44, 50, 44, 53] = ByteArray.mk #[49, 44, 50, 44, 53] from rfl] at S4
  have S5 := fun w => qmost_any ⟨4, 4, 4⟩ ⟨1, 2, 5⟩ w ok1 ok2
  rw [show mostV ⟨4, 4, 4⟩ ⟨1, 2, 5⟩ = ⟨4, 4, 5⟩ from rfl] at S5
  have S6 := fun w => qless_any ⟨1, 2, 5⟩ ⟨4, 4, 4⟩ w ok2 ok1
  rw [show lessB ⟨1, 2, 5⟩ ⟨4, 4, 4⟩ = true by decide] at S6
  have S7 := fun w => qfits_any ⟨1, 2, 5⟩ ⟨4, 4, 4⟩ w ok2 ok1
  rw [show fitsB ⟨1, 2, 5⟩ ⟨4, 4, 4⟩ = false by decide] at S7
  have S8 := fun w => qright_any ⟨4, 4, 4⟩ w ok1
  rw [show rightB ⟨4, 4, 4⟩ = true by decide] at S8
  unfold pairV at S1 S2
  unfold V3.val at S1 S2 S3 S4 S5 S6 S7 S8
  unfold zero3 at S1
  dsimp only at S1 S2 S3 S4 S5 S6 S7 S8
  replace S1 := Lib.hid S1
  replace S2 := Lib.hid S2
  replace S3 := Lib.hid S3
  replace S4 := Lib.hid S4
  replace S5 := Lib.hid S5
  replace S6 := Lib.hid S6
  replace S7 := Lib.hid S7
  replace S8 := Lib.hid S8
  clear hb3 ok1 ok2 ht
  go_enter Tryd.func19, Tryd.ntmps19
  go_wp2_with fail
  obtain ⟨hx1, hx2⟩ := blk_two w (.cells #[.int .i64 4, .int .i64 4, .int .i64 4] 23) (.cells #[.int .i64 1, .int .i64 2, .int .i64 5] 23)
  have HX1 := Lib.hid (show BX w.heap.size ⟨4, 4, 4⟩ _ from hx1)
  have HX2 := Lib.hid (show BX (w.heap.size + 1) ⟨1, 2, 5⟩ _ from hx2)
  have HB := Lib.hid (((Below.refl w.heap.size w).alloc (Nat.le_refl _) (.cells #[.int .i64 4, .int .i64 4, .int .i64 4] 23)).alloc (by simp) (.cells #[.int .i64 1, .int .i64 2, .int .i64 5] 23))
  clear hx1 hx2
  refine (S1.out _).mono ?_; rintro e w1 ⟨rfl, b1⟩
  replace HB := Lib.hid ((HB.out.trans (b1.mono HB.out.size)).alloc (Nat.le_trans HB.out.size b1.size) (.cells #[.int .i64 0, .int .i64 0, .int .i64 0] 23))
  replace HX1 := Lib.hid (bx_more (bx_below HX1.out b1) (.cells #[.int .i64 0, .int .i64 0, .int .i64 0] 23))
  replace HX2 := Lib.hid (bx_more (bx_below HX2.out b1) (.cells #[.int .i64 0, .int .i64 0, .int .i64 0] 23))
  clear b1
  obtain ⟨y0, y1, y2⟩ := bx_cells HX1.out
  obtain ⟨x0, x1, x2⟩ := bx_cells HX2.out
  dsimp only at y0 y1 y2 x0 x1 x2
  go_wp2_with fail
  clear y0 y1 y2 x0 x1 x2
  refine (S2.out _).mono ?_; rintro e w2 ⟨rfl, b1⟩
  replace HB := Lib.hid ((HB.out.trans (b1.mono HB.out.size)).alloc (Nat.le_trans HB.out.size b1.size) (.cells #[.int .i64 5, .int .i64 6, .int .i64 9] 23))
  replace HX1 := Lib.hid (bx_more (bx_below HX1.out b1) (.cells #[.int .i64 5, .int .i64 6, .int .i64 9] 23))
  replace HX2 := Lib.hid (bx_more (bx_below HX2.out b1) (.cells #[.int .i64 5, .int .i64 6, .int .i64 9] 23))
  have HX3 := Lib.hid (show BX w2.heap.size ⟨5, 6, 9⟩ (w2.alloc (.cells #[.int .i64 5, .int .i64 6, .int .i64 9] 23)) from bx_fresh w2 ⟨5, 6, 9⟩)
  clear b1
  go_wp2_with fail
  refine (S3.out _ (tb_below HT.out (HB.out))).mono ?_; rintro e w3 ⟨rfl, b1⟩
  replace HB := Lib.hid ((HB.out.trans (b1.mono HB.out.size)).alloc (Nat.le_trans HB.out.size b1.size) (.cells #[.int .i64 1, .int .i64 2, .int .i64 5] 23))
  replace HX1 := Lib.hid (bx_more (bx_below HX1.out b1) (.cells #[.int .i64 1, .int .i64 2, .int .i64 5] 23))
  replace HX2 := Lib.hid (bx_more (bx_below HX2.out b1) (.cells #[.int .i64 1, .int .i64 2, .int .i64 5] 23))
  replace HX3 := Lib.hid (bx_more (bx_below HX3.out b1) (.cells #[.int .i64 1, .int .i64 2, .int .i64 5] 23))
  have HX4 := Lib.hid (show BX w3.heap.size ⟨1, 2, 5⟩ (w3.alloc (.cells #[.int .i64 1, .int .i64 2, .int .i64 5] 23)) from bx_fresh w3 ⟨1, 2, 5⟩)
  clear b1
  have HL := Lib.hid (show ∀ w', Below (w3.alloc (.cells #[.int .i64 1, .int .i64 2, .int .i64 5] 23)).heap.size (w3.alloc (.cells #[.int .i64 1, .int .i64 2, .int .i64 5] 23)) w' → ((w'.cell? ⟨w.heap.size, 0, none⟩ = some (.int .i64 4) ∧ w'.cell? ⟨w.heap.size, 1, none⟩ = some (.int .i64 4) ∧ w'.cell? ⟨w.heap.size, 2, none⟩ = some (.int .i64 4)) ∧
      (w'.cell? ⟨w.heap.size + 1, 0, none⟩ = some (.int .i64 1) ∧ w'.cell? ⟨w.heap.size + 1, 1, none⟩ = some (.int .i64 2) ∧ w'.cell? ⟨w.heap.size + 1, 2, none⟩ = some (.int .i64 5))) ∧ Below w.heap.size w w' from
    fun w' hb => ⟨⟨bx_cells (bx_below HX1.out hb), bx_cells (bx_below HX2.out hb)⟩, HB.out.trans (hb.mono HB.out.size)⟩)
  obtain ⟨z0, z1, z2⟩ := bx_cells HX3.out
  obtain ⟨u0, u1, u2⟩ := bx_cells HX4.out
  obtain ⟨⟨⟨y0, y1, y2⟩, ⟨x0, x1, x2⟩⟩, _⟩ := HL.out _ (Below.refl _ _)
  dsimp only at z0 z1 z2 u0 u1 u2
  have E1 := fun w => eq3_same ⟨5, 6, 9⟩ w
  have E2 := fun w => eq3_same ⟨1, 2, 5⟩ w
  have E3 := fun w => eq3_same ⟨4, 4, 5⟩ w
  dsimp only at E1 E2 E3
  go_wp2_with fail
  clear z0 z1 z2 u0 u1 u2 y0 y1 y2 x0 x1 x2
  generalize w3.alloc (.cells #[.int .i64 1, .int .i64 2, .int .i64 5] 23) = W at *
  have HD := Lib.hid (Below.refl W.heap.size W)
  refine (S4.out _ (tb_below HT.out (HL.out _ HD.out).2)).mono ?_; rintro e va ⟨rfl, b1⟩
  replace HD := Lib.hid (HD.out.trans (b1.mono HD.out.size))
  clear b1
  obtain ⟨⟨⟨y0, y1, y2⟩, ⟨x0, x1, x2⟩⟩, _⟩ := HL.out _ HD.out
  go_wp2_with fail
  clear y0 y1 y2 x0 x1 x2
  refine (S5.out _).mono ?_; rintro e vb ⟨rfl, b1⟩
  replace HD := Lib.hid (HD.out.trans (b1.mono HD.out.size))
  clear b1
  obtain ⟨⟨⟨y0, y1, y2⟩, ⟨x0, x1, x2⟩⟩, _⟩ := HL.out _ HD.out
  go_wp2_with fail
  clear y0 y1 y2 x0 x1 x2
  refine (S6.out _).mono ?_; rintro e vc ⟨rfl, b1⟩
  replace HD := Lib.hid (HD.out.trans (b1.mono HD.out.size))
  clear b1
  obtain ⟨⟨⟨y0, y1, y2⟩, ⟨x0, x1, x2⟩⟩, _⟩ := HL.out _ HD.out
  go_wp2_with fail
  clear y0 y1 y2 x0 x1 x2
  refine (S7.out _).mono ?_; rintro e vd ⟨rfl, b1⟩
  replace HD := Lib.hid (HD.out.trans (b1.mono HD.out.size))
  clear b1
  obtain ⟨⟨⟨y0, y1, y2⟩, ⟨x0, x1, x2⟩⟩, _⟩ := HL.out _ HD.out
  go_wp2_with fail
  clear y0 y1 y2 x0 x1 x2
  refine (S8.out _).mono ?_; rintro e ve ⟨rfl, b1⟩
  replace HD := Lib.hid (HD.out.trans (b1.mono HD.out.size))
  clear b1
  obtain ⟨⟨⟨y0, y1, y2⟩, ⟨x0, x1, x2⟩⟩, _⟩ := HL.out _ HD.out
  go_wp2_with fail
  clear y0 y1 y2 x0 x1 x2
  go_ret
  exact ⟨rfl, (HL.out _ HD.out).2⟩
end Go.Proofs.YtgiofaccigkfjaaDoor
