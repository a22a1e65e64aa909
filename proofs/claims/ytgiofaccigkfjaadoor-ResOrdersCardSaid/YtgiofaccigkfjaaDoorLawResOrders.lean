/- The law ResOrders of the repository answers true for every input. No conditions. -/
import Derived.Test.YtgiofaccigkfjaaDoorResAwake
import Derived.Deep.DeepCutAuto
import Derived.Test.YtgiofaccigkfjaaDoorRows
import Derived.Test.YtgiofaccigkfjaaDoorCards
import Derived.Test.YtgiofaccigkfjaaDoorTie
import Derived.SevenTiedAt
import Derived.LaidMore
import Derived.Stop.LaidErr
import Derived.Stop.Joined
import Derived.MakeChecks
import Derived.Lib.LaidTab
import Derived.WalkKit
import Derived.ProofKit
import Derived.OpenShut
import Derived.Below
import Derived.ShutString
import Derived.Carry
import Derived.Test.YtgiofaccigkfjaaDoorArgs
namespace Go.Proofs.YtgiofaccigkfjaaDoor.resOrders
open Go.ChangeShapes Go.WideShapes Go.ChangeAt Go.RowKit
open Go.ChangeMaps (open_string shut_string)
set_option linter.unusedVariables false
set_option linter.unusedSimpArgs false

theorem own : ownKnob Tryd.prog.godebug = none := by kernel_rfl
theorem laidOut : laidOutB Tryd.prog = true := by kernel_rfl
theorem op3 : Opens Tryd.prog 3 (.int .i64) := opens_int Tryd.underlying3
theorem op23 : Opens Tryd.prog 23 (Sh.rep (.int .i64) 3) := opens_array Tryd.underlying23 (by kernel_rfl) (by kernel_rfl) op3

theorem door_met (os : Os) (args : Array Value) : laidMetH Tryd.prog Rows.resOrdersRow.laid ((World.doorLaid Tryd.prog 24 os).forCall (fun _ _ => 0) ⟨#[], args, []⟩).memory :=
  laidMetH_of_parts3 (fuel := 8) (laidMet_of_run' 8 (by kernel_rfl) (by kernel_rfl)) (by kernel_rfl) (by kernel_rfl)
theorem tb_of_laid {W : World} (h0 : laidMetH Tryd.prog Rows.resOrdersRow.laid W) : Tb W := by
  rw [MakeChecks.laidMetH_plain _ _ _ (by kernel_rfl)] at h0
  have h : laidMet Tryd.prog [("math/bits.deBruijn32tab", Rows.laid_math_bits_deBruijn32tab), ("math/bits.deBruijn64tab", Rows.laid_math_bits_deBruijn64tab), ("internal/strconv.uint64pow10", Rows.laid_internal_strconv_uint64pow10)] W := h0
  have e : (Rows.laid_internal_strconv_uint64pow10 : DataW Unit) = Lib.tabData .u64 Lib.pow10Tab := by kernel_rfl
  have h2 := h.tail.tail
  rw [e] at h2
  exact Lib.tabIs_of_head (g := 1) (t := 86) (e := 80) (n := 20) (by kernel_rfl) (by kernel_rfl) (by kernel_rfl) (by kernel_rfl) (by kernel_rfl) (by kernel_rfl) h2

set_option maxRecDepth 100000 in
set_option maxHeartbeats 4000000 in
theorem walk (c0 : Array Value) (c1 : Array Value) (c2 : Array Value) (w : World) (w0 : Has w (Sh.rep (.int .i64) 3) c0.toList) (w1 : Has w (Sh.rep (.int .i64) 3) c1.toList) (w2 : Has w (Sh.rep (.int .i64) 3) c2.toList) (ht : Tb w) :
    Calls Tryd.prog 6 #[.agg c0, .agg c1, .agg c2] w fun e w' => e = .returned (.bool true) ∧ Below w.heap.size w w' := by
  have HT := Lib.hid ht
  clear ht
  obtain ⟨v, hv, rfl⟩ := res_came w0
  obtain ⟨u, hu, rfl⟩ := res_came w1
  obtain ⟨x, hx, rfl⟩ := res_came w2
  clear w0 w1 w2
  have hm : (mostV v u).ok := most_ok v u hv hu
  have M1 := fun w => qmost_any v u w hv hu
  have M2 := fun w => qmost_any u v w hu hv
  rw [← most_comm v u] at M2
  have M3 := fun w => qmost_any v v w hv hv
  rw [most_self] at M3
  have L1 := fun w => qless_any v u w hv hu
  have L2 := fun w => qless_any u x w hu hx
  have L3 := fun w => qless_any v x w hv hx
  have F1 := fun w => qfits_any v (mostV v u) w hv hm
  have F2 := fun w => qfits_any u (mostV v u) w hu hm
  rw [(fits_most v u).1] at F1
  rw [(fits_most v u).2] at F2
  have F3 := fun w => qfits_any v x w hv hx
  have F4 := fun w => qfits_any u x w hu hx
  have F5 := fun w => qfits_any (mostV v u) x w hm hx
  have htr := lessB_trans v u x
  have hft := most_fits v u x
  unfold V3.val at M1 M2 M3 L1 L2 L3 F1 F2 F3 F4 F5
  generalize mostV v u = m at *
  generalize lessB v u = l1 at *
  generalize lessB u x = l2 at *
  generalize lessB v x = l3 at *
  generalize fitsB v x = f1 at *
  generalize fitsB u x = f2 at *
  generalize fitsB m x = f3 at *
  clear hv hu hx hm
  replace M1 := Lib.hid M1
  replace M2 := Lib.hid M2
  replace M3 := Lib.hid M3
  replace L1 := Lib.hid L1
  replace L2 := Lib.hid L2
  replace L3 := Lib.hid L3
  replace F1 := Lib.hid F1
  replace F2 := Lib.hid F2
  replace F3 := Lib.hid F3
  replace F4 := Lib.hid F4
  replace F5 := Lib.hid F5
  have HTR := Lib.hid htr
  have HFT := Lib.hid hft
  clear htr hft
  obtain ⟨hx1, hx2⟩ := blk_two w (.cells #[.int .i64 v.a, .int .i64 v.b, .int .i64 v.c] 23) (.cells #[.int .i64 u.a, .int .i64 u.b, .int .i64 u.c] 23)
  have HX1 := Lib.hid (show BX w.heap.size v _ from bx_more hx1 (.cells #[.int .i64 x.a, .int .i64 x.b, .int .i64 x.c] 23))
  have HX2 := Lib.hid (show BX (w.heap.size + 1) u _ from bx_more hx2 (.cells #[.int .i64 x.a, .int .i64 x.b, .int .i64 x.c] 23))
  have HX3 := Lib.hid (bx_third w v u x)
  have HB := Lib.hid ((((Below.refl w.heap.size w).alloc (Nat.le_refl _) (.cells #[.int .i64 v.a, .int .i64 v.b, .int .i64 v.c] 23)).alloc (by simp) (.cells #[.int .i64 u.a, .int .i64 u.b, .int .i64 u.c] 23)).alloc (by simp; omega) (.cells #[.int .i64 x.a, .int .i64 x.b, .int .i64 x.c] 23))
  clear hx1 hx2
  go_enter Tryd.func6, Tryd.ntmps6
  go_wp2_with fail
  refine (M1.out _).mono ?_; rintro e w1 ⟨rfl, b1⟩
  replace HB := Lib.hid ((HB.out.trans (b1.mono HB.out.size)).alloc (Nat.le_trans HB.out.size b1.size) (.cells #[.int .i64 m.a, .int .i64 m.b, .int .i64 m.c] 23))
  replace HX1 := Lib.hid (bx_more (bx_below HX1.out b1) (.cells #[.int .i64 m.a, .int .i64 m.b, .int .i64 m.c] 23))
  replace HX2 := Lib.hid (bx_more (bx_below HX2.out b1) (.cells #[.int .i64 m.a, .int .i64 m.b, .int .i64 m.c] 23))
  replace HX3 := Lib.hid (bx_more (bx_below HX3.out b1) (.cells #[.int .i64 m.a, .int .i64 m.b, .int .i64 m.c] 23))
  have HX4 := Lib.hid (bx_fresh w1 m)
  clear b1
  go_upto_region 2 with (fail)
  generalize w1.alloc (.cells #[.int .i64 m.a, .int .i64 m.b, .int .i64 m.c] 23) = w2 at *
  go_cut [36] from 11 to 35 (fun t wx => t = .bool false ∧ Below w2.heap.size w2 wx)
  case first =>
    have HC := Lib.hid (Below.refl w2.heap.size w2)
    have hl : (l1 = false) ∨ (l1 = true ∧ l2 = false) ∨ (l1 = true ∧ l2 = true ∧ l3 = true) := by
      have := HTR.out
      cases l1 <;> cases l2 <;> simp_all
    rcases hl with rfl | ⟨rfl, rfl⟩ | ⟨rfl, rfl, rfl⟩
    · obtain ⟨c00, c01, c02⟩ := bx_cells (bx_below HX1.out HC.out)
      obtain ⟨c10, c11, c12⟩ := bx_cells (bx_below HX2.out HC.out)
      obtain ⟨c20, c21, c22⟩ := bx_cells (bx_below HX3.out HC.out)
      obtain ⟨c30, c31, c32⟩ := bx_cells (bx_below HX4.out HC.out)
      go_wp2_with fail
      clear c00 c01 c02 c10 c11 c12 c20 c21 c22 c30 c31 c32
      refine (L1.out _).mono ?_; rintro e x0 ⟨rfl, b1⟩
      replace HC := Lib.hid (HC.out.trans (b1.mono HC.out.size))
      clear b1
      obtain ⟨c00, c01, c02⟩ := bx_cells (bx_below HX1.out HC.out)
      obtain ⟨c10, c11, c12⟩ := bx_cells (bx_below HX2.out HC.out)
      obtain ⟨c20, c21, c22⟩ := bx_cells (bx_below HX3.out HC.out)
      obtain ⟨c30, c31, c32⟩ := bx_cells (bx_below HX4.out HC.out)
      go_wp2_with fail
      clear c00 c01 c02 c10 c11 c12 c20 c21 c22 c30 c31 c32
      refine (F1.out _).mono ?_; rintro e x1 ⟨rfl, b1⟩
      replace HC := Lib.hid (HC.out.trans (b1.mono HC.out.size))
      clear b1
      obtain ⟨c00, c01, c02⟩ := bx_cells (bx_below HX1.out HC.out)
      obtain ⟨c10, c11, c12⟩ := bx_cells (bx_below HX2.out HC.out)
      obtain ⟨c20, c21, c22⟩ := bx_cells (bx_below HX3.out HC.out)
      obtain ⟨c30, c31, c32⟩ := bx_cells (bx_below HX4.out HC.out)
      go_wp2_with fail
      clear c00 c01 c02 c10 c11 c12 c20 c21 c22 c30 c31 c32
      refine (F2.out _).mono ?_; rintro e x2 ⟨rfl, b1⟩
      replace HC := Lib.hid (HC.out.trans (b1.mono HC.out.size))
      clear b1
      obtain ⟨c00, c01, c02⟩ := bx_cells (bx_below HX1.out HC.out)
      go_wp2_with fail
      go_meet
      exact ⟨rfl, HC.out⟩
    · obtain ⟨c00, c01, c02⟩ := bx_cells (bx_below HX1.out HC.out)
      obtain ⟨c10, c11, c12⟩ := bx_cells (bx_below HX2.out HC.out)
      obtain ⟨c20, c21, c22⟩ := bx_cells (bx_below HX3.out HC.out)
      obtain ⟨c30, c31, c32⟩ := bx_cells (bx_below HX4.out HC.out)
      go_wp2_with fail
      clear c00 c01 c02 c10 c11 c12 c20 c21 c22 c30 c31 c32
      refine (L1.out _).mono ?_; rintro e x0 ⟨rfl, b1⟩
      replace HC := Lib.hid (HC.out.trans (b1.mono HC.out.size))
      clear b1
      obtain ⟨c00, c01, c02⟩ := bx_cells (bx_below HX1.out HC.out)
      obtain ⟨c10, c11, c12⟩ := bx_cells (bx_below HX2.out HC.out)
      obtain ⟨c20, c21, c22⟩ := bx_cells (bx_below HX3.out HC.out)
      obtain ⟨c30, c31, c32⟩ := bx_cells (bx_below HX4.out HC.out)
      go_wp2_with fail
      clear c00 c01 c02 c10 c11 c12 c20 c21 c22 c30 c31 c32
      refine (L2.out _).mono ?_; rintro e x1 ⟨rfl, b1⟩
      replace HC := Lib.hid (HC.out.trans (b1.mono HC.out.size))
      clear b1
      obtain ⟨c00, c01, c02⟩ := bx_cells (bx_below HX1.out HC.out)
      obtain ⟨c10, c11, c12⟩ := bx_cells (bx_below HX2.out HC.out)
      obtain ⟨c20, c21, c22⟩ := bx_cells (bx_below HX3.out HC.out)
      obtain ⟨c30, c31, c32⟩ := bx_cells (bx_below HX4.out HC.out)
      go_wp2_with fail
      clear c00 c01 c02 c10 c11 c12 c20 c21 c22 c30 c31 c32
      refine (F1.out _).mono ?_; rintro e x2 ⟨rfl, b1⟩
      replace HC := Lib.hid (HC.out.trans (b1.mono HC.out.size))
      clear b1
      obtain ⟨c00, c01, c02⟩ := bx_cells (bx_below HX1.out HC.out)
      obtain ⟨c10, c11, c12⟩ := bx_cells (bx_below HX2.out HC.out)
      obtain ⟨c20, c21, c22⟩ := bx_cells (bx_below HX3.out HC.out)
      obtain ⟨c30, c31, c32⟩ := bx_cells (bx_below HX4.out HC.out)
      go_wp2_with fail
      clear c00 c01 c02 c10 c11 c12 c20 c21 c22 c30 c31 c32
      refine (F2.out _).mono ?_; rintro e x3 ⟨rfl, b1⟩
      replace HC := Lib.hid (HC.out.trans (b1.mono HC.out.size))
      clear b1
      obtain ⟨c00, c01, c02⟩ := bx_cells (bx_below HX1.out HC.out)
      go_wp2_with fail
      go_meet
      exact ⟨rfl, HC.out⟩
    · obtain ⟨c00, c01, c02⟩ := bx_cells (bx_below HX1.out HC.out)
      obtain ⟨c10, c11, c12⟩ := bx_cells (bx_below HX2.out HC.out)
      obtain ⟨c20, c21, c22⟩ := bx_cells (bx_below HX3.out HC.out)
      obtain ⟨c30, c31, c32⟩ := bx_cells (bx_below HX4.out HC.out)
      go_wp2_with fail
      clear c00 c01 c02 c10 c11 c12 c20 c21 c22 c30 c31 c32
      refine (L1.out _).mono ?_; rintro e x0 ⟨rfl, b1⟩
      replace HC := Lib.hid (HC.out.trans (b1.mono HC.out.size))
      clear b1
      obtain ⟨c00, c01, c02⟩ := bx_cells (bx_below HX1.out HC.out)
      obtain ⟨c10, c11, c12⟩ := bx_cells (bx_below HX2.out HC.out)
      obtain ⟨c20, c21, c22⟩ := bx_cells (bx_below HX3.out HC.out)
      obtain ⟨c30, c31, c32⟩ := bx_cells (bx_below HX4.out HC.out)
      go_wp2_with fail
      clear c00 c01 c02 c10 c11 c12 c20 c21 c22 c30 c31 c32
      refine (L2.out _).mono ?_; rintro e x1 ⟨rfl, b1⟩
      replace HC := Lib.hid (HC.out.trans (b1.mono HC.out.size))
      clear b1
      obtain ⟨c00, c01, c02⟩ := bx_cells (bx_below HX1.out HC.out)
      obtain ⟨c10, c11, c12⟩ := bx_cells (bx_below HX2.out HC.out)
      obtain ⟨c20, c21, c22⟩ := bx_cells (bx_below HX3.out HC.out)
      obtain ⟨c30, c31, c32⟩ := bx_cells (bx_below HX4.out HC.out)
      go_wp2_with fail
      clear c00 c01 c02 c10 c11 c12 c20 c21 c22 c30 c31 c32
      refine (L3.out _).mono ?_; rintro e x2 ⟨rfl, b1⟩
      replace HC := Lib.hid (HC.out.trans (b1.mono HC.out.size))
      clear b1
      obtain ⟨c00, c01, c02⟩ := bx_cells (bx_below HX1.out HC.out)
      obtain ⟨c10, c11, c12⟩ := bx_cells (bx_below HX2.out HC.out)
      obtain ⟨c20, c21, c22⟩ := bx_cells (bx_below HX3.out HC.out)
      obtain ⟨c30, c31, c32⟩ := bx_cells (bx_below HX4.out HC.out)
      go_wp2_with fail
      clear c00 c01 c02 c10 c11 c12 c20 c21 c22 c30 c31 c32
      refine (F1.out _).mono ?_; rintro e x3 ⟨rfl, b1⟩
      replace HC := Lib.hid (HC.out.trans (b1.mono HC.out.size))
      clear b1
      obtain ⟨c00, c01, c02⟩ := bx_cells (bx_below HX1.out HC.out)
      obtain ⟨c10, c11, c12⟩ := bx_cells (bx_below HX2.out HC.out)
      obtain ⟨c20, c21, c22⟩ := bx_cells (bx_below HX3.out HC.out)
      obtain ⟨c30, c31, c32⟩ := bx_cells (bx_below HX4.out HC.out)
      go_wp2_with fail
      clear c00 c01 c02 c10 c11 c12 c20 c21 c22 c30 c31 c32
      refine (F2.out _).mono ?_; rintro e x4 ⟨rfl, b1⟩
      replace HC := Lib.hid (HC.out.trans (b1.mono HC.out.size))
      clear b1
      obtain ⟨c00, c01, c02⟩ := bx_cells (bx_below HX1.out HC.out)
      go_wp2_with fail
      go_meet
      exact ⟨rfl, HC.out⟩
  case rest =>
    obtain ⟨rfl, hb3⟩ := hcut
    replace HB := Lib.hid (HB.out.trans (hb3.mono HB.out.size))
    replace HX1 := Lib.hid (bx_below HX1.out hb3)
    replace HX2 := Lib.hid (bx_below HX2.out hb3)
    replace HX3 := Lib.hid (bx_below HX3.out hb3)
    replace HX4 := Lib.hid (bx_below HX4.out hb3)
    clear hb3
    have AW := Lib.hid fun w' (h : Below wc.heap.size wc w') => res_awake w' (tb_below HT.out (HB.out.trans (h.mono HB.out.size)))
    have Em := fun w => eq3_same m w
    have Ev := fun w => eq3_same v w
    have hf : (f1 = false) ∨ (f1 = true ∧ f2 = false) ∨ (f1 = true ∧ f2 = true ∧ f3 = true) := by
      have := HFT.out
      cases f1 <;> cases f2 <;> simp_all
    go_wp2_with fail
    rcases hf with rfl | ⟨rfl, rfl⟩ | ⟨rfl, rfl, rfl⟩
    all_goals
      refine wp_region_hold (fun w' => Below wc.heap.size wc w') (by kernel_rfl) (by kernel_rfl) ⟨rfl, rfl, rfl, Nat.le_refl _, fun _ _ => rfl⟩ ?_
      have HL := Lib.hid (show ∀ w', Below wc.heap.size wc w' → ((w'.cell? ⟨w.heap.size, 0, none⟩ = some (.int .i64 v.a) ∧ w'.cell? ⟨w.heap.size, 1, none⟩ = some (.int .i64 v.b) ∧ w'.cell? ⟨w.heap.size, 2, none⟩ = some (.int .i64 v.c)) ∧
      (w'.cell? ⟨w.heap.size + 1, 0, none⟩ = some (.int .i64 u.a) ∧ w'.cell? ⟨w.heap.size + 1, 1, none⟩ = some (.int .i64 u.b) ∧ w'.cell? ⟨w.heap.size + 1, 2, none⟩ = some (.int .i64 u.c)) ∧
      (w'.cell? ⟨w.heap.size + 1 + 1, 0, none⟩ = some (.int .i64 x.a) ∧ w'.cell? ⟨w.heap.size + 1 + 1, 1, none⟩ = some (.int .i64 x.b) ∧ w'.cell? ⟨w.heap.size + 1 + 1, 2, none⟩ = some (.int .i64 x.c)) ∧
      (w'.cell? ⟨w1.heap.size, 0, none⟩ = some (.int .i64 m.a) ∧ w'.cell? ⟨w1.heap.size, 1, none⟩ = some (.int .i64 m.b) ∧ w'.cell? ⟨w1.heap.size, 2, none⟩ = some (.int .i64 m.c))) from
        fun w' hb => ⟨bx_cells (bx_below HX1.out hb), bx_cells (bx_below HX2.out hb), bx_cells (bx_below HX3.out hb), bx_cells (bx_below HX4.out hb)⟩)
      repeat
        first
        | (refine hold_val (v := ?_) (by rfl) ?_ ?_
           rotate_left
           · (intro w' hS
              obtain ⟨⟨_, _, _⟩, ⟨_, _, _⟩, ⟨_, _, _⟩, ⟨_, _, _⟩⟩ := HL.out w' hS
              go_simp
              try with_reducible rfl)
           simp only [Act.put, List.setIfInBounds_toArray, List.set_cons_zero, List.set_cons_succ])
        | (refine hold_skip (by rfl) ?_
           simp only [Act.put, List.setIfInBounds_toArray, List.set_cons_zero, List.set_cons_succ])
        | ((first
            | (refine hold_call (by rfl) ?_ (fun w' hS => made_call hS (Nat.le_refl _) (F3.out w')) ?_; focus (intro w' hS; go_simp; done))
            | (refine hold_call (by rfl) ?_ (fun w' hS => made_call hS (Nat.le_refl _) (F4.out w')) ?_; focus (intro w' hS; go_simp; done))
            | (refine hold_call (by rfl) ?_ (fun w' hS => made_call hS (Nat.le_refl _) (F5.out w')) ?_; focus (intro w' hS; go_simp; done))
            | (refine hold_call (by rfl) ?_ (fun w' hS => made_call hS (Nat.le_refl _) (M1.out w')) ?_; focus (intro w' hS; go_simp; done))
            | (refine hold_call (by rfl) ?_ (fun w' hS => made_call hS (Nat.le_refl _) (M2.out w')) ?_; focus (intro w' hS; go_simp; done))
            | (refine hold_call (by rfl) ?_ (fun w' hS => made_call hS (Nat.le_refl _) (M3.out w')) ?_; focus (intro w' hS; go_simp; done))
            | (refine hold_call (by rfl) ?_ (fun w' hS => made_call hS (Nat.le_refl _) (AW.out w' hS)) ?_; focus (intro w' hS; go_simp; done)))
           simp only [Act.put, List.setIfInBounds_toArray, List.set_cons_zero, List.set_cons_succ])
      refine hold_nil (fun w' hS => ?_)
      have HF := Lib.hid (HB.out.trans (hS.mono HB.out.size))
      clear hS
      go_wp2_with fail
      go_ret
      exact ⟨rfl, HF.out⟩

set_option maxRecDepth 100000 in
theorem lifted (os : Os) (started : os.Started) (H : Type) (enc : TypeId × Value → H) :
    ReturnsInHanded {} Tryd.checked os 6 .any (fun w args => (Rows.resOrdersSpec.pre enc Tryd.prog Tryd.f6 [] false w args ∧ laidMetH Tryd.prog Rows.resOrdersRow.laid w) ∧ sizedMet enc Tryd.prog Tryd.f6 (OpenSpec.ofChange Rows.resOrdersSpec) false w args)
      (Rows.resOrdersSpec.post enc Tryd.prog Tryd.f6 false true false false) := by
  refine returnsInHanded_of_change_and (C := Tryd.checked) (X := fun w _ => laidMetH Tryd.prog Rows.resOrdersRow.laid w) (fun _ _ _ hh h => h.of_heap hh) own started (by kernel_rfl) Tryd.func6
    (ChangeSpec.witness_shaped (enc := enc) (C := Tryd.checked) (os := os) (X := fun w _ => laidMetH Tryd.prog Rows.resOrdersRow.laid w) false (World.doorLaid Tryd.prog 24 os) #[.agg #[.int .i64 0, .int .i64 0, .int .i64 0], .agg #[.int .i64 0, .int .i64 0, .int .i64 0], .agg #[.int .i64 0, .int .i64 0, .int .i64 0]] 8 rfl (World.shaped_of_RefB (by kernel_rfl) (by kernel_rfl)) (by kernel_rfl) (by kernel_rfl) (by kernel_rfl) (door_met os _)) ?_
  intro W base args ds gs before hval0 hW hcnd _ hL _
  have hval : ∀ (j : Nat) t v, Tryd.f6.params[j]? = some t → args[j]? = some v → Value.okWide Tryd.prog W .any base t v := hval0
  have hW' := hW
  obtain ⟨p, q, hA0, hV, rfl, hfz, hnd⟩ := hW
  have hA : DataW.TrodAll enc Tryd.prog W 0 (fun _ => true) true Tryd.f6.params.toList args.toList ds p := hA0
  rw [Tryd.params6] at hA hval
  obtain ⟨v0, vs0, d0, ds0, p0, q0, hargs, rfl, rfl, h0, r0⟩ := trodAll_cons hA
  obtain ⟨v1, vs1, d1, ds1, p1, q1, rfl, rfl, rfl, h1, r1⟩ := trodAll_cons r0
  obtain ⟨v2, vs2, d2, ds2, p2, q2, rfl, rfl, rfl, h2, r2⟩ := trodAll_cons r1
  obtain ⟨rfl, rfl, rfl⟩ := trodAll_nil r2
  obtain rfl : args = #[v0, v1, v2] := by cases args; simp_all
  obtain ⟨rfl, rfl⟩ := trodVars_none hV
  obtain ⟨c0, rfl, _⟩ := okWide_array Tryd.underlying23 (hval 0 23 v0 rfl rfl)
  have k0 := h0
  have lt0 : ∀ x ∈ p0, x.block < W.heap.size := by obtain ⟨m, hm⟩ := k0; exact DataW.trod_lt m _ _ _ hm
  have w0 : Has W (Sh.rep (.int .i64) 3) c0.toList := by obtain ⟨m, hm⟩ := h0; exact op23 _ _ _ _ _ _ _ _ _ hm
  obtain ⟨c1, rfl, _⟩ := okWide_array Tryd.underlying23 (hval 1 23 v1 rfl rfl)
  have k1 := h1
  have lt1 : ∀ x ∈ p1, x.block < W.heap.size := by obtain ⟨m, hm⟩ := k1; exact DataW.trod_lt m _ _ _ hm
  have w1 : Has W (Sh.rep (.int .i64) 3) c1.toList := by obtain ⟨m, hm⟩ := h1; exact op23 _ _ _ _ _ _ _ _ _ hm
  obtain ⟨c2, rfl, _⟩ := okWide_array Tryd.underlying23 (hval 2 23 v2 rfl rfl)
  have k2 := h2
  have lt2 : ∀ x ∈ p2, x.block < W.heap.size := by obtain ⟨m, hm⟩ := k2; exact DataW.trod_lt m _ _ _ hm
  have w2 : Has W (Sh.rep (.int .i64) 3) c2.toList := by obtain ⟨m, hm⟩ := h2; exact op23 _ _ _ _ _ _ _ _ _ hm
  clear hA0 hval0
  refine (walk c0 c1 c2 W w0 w1 w2 (tb_of_laid hL)).mono fun e W' ⟨he, bel⟩ => ?_
  subst he
  exact ⟨_, rfl, _, _, _, [], _, [], hW', trodAll_mk1 (shut_bool Tryd.underlying4 _), (trodAll_cons_mk (Below.trod laidOut (by kernel_rfl) (of_decide_eq_true (by kernel_rfl)) k0 bel lt0) (trodAll_cons_mk (Below.trod laidOut (by kernel_rfl) (of_decide_eq_true (by kernel_rfl)) k1 bel lt1) (trodAll_cons_mk (Below.trod laidOut (by kernel_rfl) (of_decide_eq_true (by kernel_rfl)) k2 bel lt2) trodAll_mk0))), rfl, bel.frame _, fun h => by cases h⟩

theorem over : Rows.resOrdersRow.holds Tryd.pinned (OpenSpec.ofChange Rows.resOrdersSpec) :=
  OpenClaim.holds_of_wide 6 Tryd.f6 rfl rfl rfl rfl rfl rfl rfl ⟨rfl, rfl, rfl, rfl, rfl⟩ rfl rfl rfl rfl rfl (by kernel_rfl) Tryd.func6 (by kernel_rfl)
    (of_decide_eq_true (by kernel_rfl)) (by unfold Func.isWrapper; first | (rw [if_pos (by decide +kernel)]; kernel_rfl) | (rw [if_neg (by decide +kernel)]; exact ⟨rfl, rfl⟩))
    (fun os started H enc _ => lifted os started H enc)

/-- ████ THE STATEMENT ████ -/
theorem proved : Rows.ResOrdersCardSaid :=
  Claim7.holds_tied_plain_at .later [] [.data, .data, .data] true (true, "82ff6db06fee50aa0c3dbfe868e7dce65c9f4de1dba2520d171193fce050021c") false
    over (fun _ h => by cases h) (by kernel_rfl) (fun _ h => by cases h) resOrders_row_tie rfl ⟨rfl, rfl⟩ (by kernel_rfl) rfl
    (fun f fn hf hfn => by
      obtain rfl : f = 6 := Option.some.inj ((show Tryd.prog.funcNamed "reeve/reevelaw08.ResOrders" = some 6 by kernel_rfl).symm.trans hf) |>.symm
      obtain rfl : fn = Tryd.f6 := (Option.some.inj (Tryd.func6.symm.trans hfn)).symm
      exact ⟨by kernel_rfl, fun j t ht => by
        rw [Tryd.params6] at ht
        have hm : t ∈ [23, 23, 23] := by simpa using Array.mem_of_getElem? ht
        have hall : ([23, 23, 23].all fun u => !Tryd.prog.wantsStandIn u) = true := by kernel_rfl
        exact (show Tryd.prog.wantsStandIn t = false by simpa using List.all_eq_true.1 hall t hm)⟩)
    (by kernel_rfl)
end Go.Proofs.YtgiofaccigkfjaaDoor.resOrders
