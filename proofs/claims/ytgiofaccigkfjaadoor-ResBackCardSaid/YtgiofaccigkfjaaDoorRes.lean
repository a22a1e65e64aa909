/- What package res comes to. Conditions: numbers that an int holds; texts of at most 100,000 bytes; the library's table holds what it was laid with. -/
import Derived.Test.YtgiofaccigkfjaaDoorResB
import Derived.Test.YtgiofaccigkfjaaDoorDecE
namespace Go.Proofs.YtgiofaccigkfjaaDoor
open Go.ChangeShapes Go.WideShapes Go.ChangeAt Go.RowKit
set_option linter.unusedVariables false
set_option maxRecDepth 100000
set_option linter.unusedSimpArgs false

theorem rd_box (w : World) (v : V3) : Rd (w.alloc (.cells #[.int .i64 v.a, .int .i64 v.b, .int .i64 v.c] 23)) (w.heap.size + 1) (.slice (some ⟨w.heap.size, 0, none⟩) 3 3) (ints v.list) := by
  have hx := bx_fresh0 w v
  refine ⟨some ⟨w.heap.size, 0, none⟩, 3, rfl, Nat.le_refl _, by unfold maxLen; omega, fun _ => ⟨w.heap.size, 0, rfl, by omega, fun j x hj => ?_⟩⟩
  rw [Nat.zero_add]
  rw [blk_cell hx]
  rw [← hj]
  unfold ints V3.list
  simp
set_option maxHeartbeats 1000000 in
theorem qtext_any (v : V3) (w : World) (hv : v.ok) (ht : Tb w) : Calls Tryd.prog 22 #[v.val] w fun e w' => e = .returned (.string (bs (text3 v))) ∧ Below w.heap.size w w' := by
  have hb := (Below.refl w.heap.size w).alloc (Nat.le_refl _) (.cells #[.int .i64 v.a, .int .i64 v.b, .int .i64 v.c] 23)
  have hrd := rd_box w v
  rw [show w.heap.size + 1 = (w.alloc (.cells #[.int .i64 v.a, .int .i64 v.b, .int .i64 v.c] 23)).heap.size by simp] at hrd
  have L1 := Lib.hid (dlist_any _ v.list _ (by simp [V3.list]) (by intro n hn; simp [V3.list] at hn; rcases hn with rfl | rfl | rfl; exact hv.1; exact hv.2.1; exact hv.2.2) hrd (tb_below ht hb))
  have HB := Lib.hid hb
  clear hrd hb hv ht
  unfold text3
  unfold V3.val
  generalize listL v.list = t at *
  go_enter Tryd.func22, Tryd.ntmps22
  go_wp2_with fail
  refine L1.out.mono ?_; rintro e w1 ⟨rfl, b1⟩
  have HF := Lib.hid (HB.out.trans (b1.mono HB.out.size))
  clear b1
  go_wp2_with fail
  go_ret
  exact ⟨rfl, HF.out⟩
set_option maxHeartbeats 2000000 in
theorem qparse_any (s : ByteArray) (w : World) (hs : s.size ≤ 100000) (ht : Tb w) : Calls Tryd.prog 20 #[.string s] w fun e w' => e = .returned (.tuple #[(parse3V s.data.toList).val, .int .i64 (parse3E s.data.toList)]) ∧ Below w.heap.size w w' := by
  have P1 := fun w h => dplist_any s 3 w hs h
  unfold PlR at P1
  have hb := (Below.refl w.heap.size w).alloc (Nat.le_refl _) (.cells #[.int .i64 0, .int .i64 0, .int .i64 0] 23)
  have HB := Lib.hid hb
  have HT := Lib.hid (tb_below ht hb)
  have HZ := Lib.hid (show BX w.heap.size zero3 (w.alloc (.cells #[.int .i64 0, .int .i64 0, .int .i64 0] 23)) from blk_new w _)
  clear hb ht
  by_cases he : parse3E s.data.toList = 0
  · obtain ⟨a, b, c, h1, ha, hb, hc⟩ := plV_three he
    have HX := Lib.hid (show Ending.returned (.tuple #[(parse3V s.data.toList).val, .int .i64 (parse3E s.data.toList)]) = .returned (.tuple #[.agg #[.int .i64 a, .int .i64 b, .int .i64 c], .int .i64 0]) by
      rw [he]; unfold parse3V; rw [h1]; rfl)
    have he2 : plE s.data.toList 3 = 0 := he
    rw [he2, h1] at P1
    have P1 := Lib.hid P1
    clear h1 he he2 ha hb hc
    go_enter Tryd.func20, Tryd.ntmps20
    go_wp2_with fail
    refine (P1.out _ HT.out).mono ?_; rintro e w1 ⟨v, rfl, hr, b1⟩
    obtain ⟨A, cp, rfl, _, _⟩ := hr.form
    obtain ⟨bb, o, rfl, hbl, hx⟩ := hr.at_ (k := 0) (by rw [ints_len]; simp)
    have HC := Lib.hid (show ∀ k, k < 3 → w1.cell? ⟨bb, o + k, none⟩ = some (.int .i64 ((V3.mk a b c).at_ k)) from fun k hk => by
      have := hx k (by rw [ints_len]; simpa using hk)
      have hk3 : k = 0 ∨ k = 1 ∨ k = 2 := by omega
      rcases hk3 with rfl | rfl | rfl <;> simpa [ints, V3.at_] using this)
    have HB1 := Lib.hid (HB.out.trans (b1.mono HB.out.size))
    have HZ1 := Lib.hid (bx_below HZ.out b1)
    rw [ints_len, show ([a, b, c] : List Int).length = 3 from rfl]
    clear hr b1 hx
    have E1 := Lib.hid (each_parse ⟨a, b, c⟩ (.pointer (some ⟨w1.heap.size, 0, none⟩)) (w1.alloc (.cells #[.slice (some ⟨bb, o, none⟩) 3 cp] 41)) (fun k hk w2 hb => by
      have h0 : (w1.alloc (.cells #[.slice (some ⟨bb, o, none⟩) 3 cp] 41)).heap.size = w1.heap.size + 1 := by simp
      refine clo_parse ⟨a, b, c⟩ w1.heap.size k bb o cp hk w2 ?_ (fun j hj => ?_)
      · rw [hb.cell (p := ⟨w1.heap.size, 0, none⟩) (by show w1.heap.size < _; omega), blk_cell (blk_new w1 _)]; rfl
      · rw [hb.cell (p := ⟨bb, o + j, none⟩) (by show bb < _; omega), ((Below.refl w1.heap.size w1).alloc (Nat.le_refl _) _).cell (p := ⟨bb, o + j, none⟩) hbl]
        exact HC.out j hj))
    unfold V3.val at E1
    dsimp only at E1
    have HB2 := Lib.hid (HB1.out.alloc HB1.out.size (.cells #[.slice (some ⟨bb, o, none⟩) 3 cp] 41))
    have HZ2 := Lib.hid (bx_alloc HZ1.out (.cells #[.slice (some ⟨bb, o, none⟩) 3 cp] 41))
    go_wp2_with fail
    refine E1.out.mono ?_; rintro e w3 ⟨rfl, b3⟩
    have HB3 := Lib.hid (HB2.out.trans (b3.mono HB2.out.size))
    have hz3 := bx_below HZ2.out b3
    obtain ⟨z0, z1, z2⟩ := bx_cells hz3
    obtain ⟨f0, f1, f2⟩ := bx_free hz3
    have HZ3 := Lib.hid hz3
    clear hz3 b3
    go_wp2_with fail
    refine bodyPost_ret (cell_results2 rfl (bx_set HZ3.out a b c) rfl rfl) rfl ⟨?_, set3_below HB3.out (Nat.le_refl _) a b c⟩
    rw [HX.out]; rfl
  · have hbd := parse3_bad he
    have HX := Lib.hid (show Ending.returned (.tuple #[(parse3V s.data.toList).val, .int .i64 (parse3E s.data.toList)]) = .returned (.tuple #[.agg #[.int .i64 0, .int .i64 0, .int .i64 0], .int .i64 2]) by
      rw [hbd.1, hbd.2]; rfl)
    have he2 : plE s.data.toList 3 = 2 := hbd.1
    rw [he2] at P1
    have P1 := Lib.hid P1
    clear he he2 hbd
    go_enter Tryd.func20, Tryd.ntmps20
    go_wp2_with fail
    refine (P1.out _ HT.out).mono ?_; rintro e w1 ⟨v, rfl, hr, b1⟩
    obtain ⟨A, cp, rfl, _, _⟩ := hr.form
    have HB1 := Lib.hid ((HB.out.trans (b1.mono HB.out.size)).alloc (Nat.le_trans HB.out.size b1.size) (.cells #[.slice A (ints (plV s.data.toList 3)).length cp] 41))
    have hz1 := bx_alloc (bx_below HZ.out b1) (.cells #[.slice A (ints (plV s.data.toList 3)).length cp] 41)
    obtain ⟨z0, z1, z2⟩ := bx_cells hz1
    obtain ⟨f0, f1, f2⟩ := bx_free hz1
    have HZ1 := Lib.hid hz1
    clear hr b1 hz1
    go_wp2_with fail
    refine bodyPost_ret (cell_results2 rfl (bx_set HZ1.out 0 0 0) rfl rfl) rfl ⟨?_, set3_below HB1.out (Nat.le_refl _) 0 0 0⟩
    rw [HX.out]; rfl
end Go.Proofs.YtgiofaccigkfjaaDoor
