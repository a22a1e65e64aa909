/- What the helpers of package res come to: its closures, 'each' at each of them, the order of three numbers. Conditions: numbers that an int holds. -/
import Derived.Test.YtkahdmhgfojbiaaResRef
import Derived.Test.YtkahdmhgfojbiaaHolds
import Derived.Deep.QuietTactic
import Derived.BigQuiet
import Derived.ChangeKeysEq
import Derived.Laws.StructEq
namespace Go.Proofs.Ytkahdmhgfojbiaa
open Go.ChangeShapes Go.WideShapes Go.ChangeAt Go.RowKit
set_option linter.unusedVariables false
set_option maxRecDepth 100000
set_option linter.unusedSimpArgs false

theorem eq3_run (w : World) (a b c a' b' c' : Int) :
    (Op.equalIn 10000 23 (.agg #[.int .i64 a, .int .i64 b, .int .i64 c]) (.agg #[.int .i64 a', .int .i64 b', .int .i64 c'])).run Try.prog w = .ok (a == a' && (b == b' && c == c')) w := by
  obtain ⟨i, hi, hz0, hz1, hz2⟩ := info_parts infoI64
  have h := run_equalIn_array (P := Try.prog) (w := w) 9999 (t := 23) (e := 3) (n := 3) #[.int .i64 a, .int .i64 b, .int .i64 c] #[.int .i64 a', .int .i64 b', .int .i64 c'] (by kernel_rfl) hi
  rw [show Try.prog.cellsOf 3 = 1 by kernel_rfl, show List.range 3 = [0, 1, 2] from rfl] at h
  refine Eq.trans h ?_
  have hu : Try.prog.underlying 3 = some (.int .i64) := Try.underlying3
  cases h1 : a == a' <;> cases h2 : b == b' <;> cases h3 : c == c' <;>
  simp [Op.eqItems, part, go_sem, hi, hz1, hu, h1, h2, h3]
theorem eq3_same (v : V3) (w : World) :
    (Op.equalIn 10000 23 (.agg #[.int .i64 v.a, .int .i64 v.b, .int .i64 v.c]) (.agg #[.int .i64 v.a, .int .i64 v.b, .int .i64 v.c])).run Try.prog w = .ok true w := by
  rw [eq3_run]; simp
/-- The number at a place. -/
def V3.at_ (v : V3) (k : Nat) : Int := if k = 0 then v.a else if k = 1 then v.b else v.c
def partV (x : V3) (k : Nat) : V3 := ⟨if 0 < k then x.a else 0, if 1 < k then x.b else 0, if 2 < k then x.c else 0⟩
theorem partV_zero (x : V3) : partV x 0 = zero3 := rfl
theorem partV_three (x : V3) : partV x 3 = x := rfl
theorem bx_at {b : Nat} {v : V3} {w : World} (h : BX b v w) (k : Nat) (hk : k < 3) : w.cell? ⟨b, k, none⟩ = some (.int .i64 (v.at_ k)) := by
  have h1 := bx_cells h
  have hk3 : k = 0 ∨ k = 1 ∨ k = 2 := by omega
  rcases hk3 with rfl | rfl | rfl
  · exact h1.1
  · exact h1.2.1
  · exact h1.2.2
theorem bx_part {b : Nat} {x : V3} {w : World} (k : Nat) (hk : k < 3) (h : BX b (partV x k) w) : BX b (partV x (k + 1)) (w.setCell ⟨b, k, none⟩ (.int .i64 (x.at_ k))) := by
  unfold BX at h ⊢
  have h1 := blk_set h k (.int .i64 (x.at_ k))
  refine h1.trans ?_
  have hk3 : k = 0 ∨ k = 1 ∨ k = 2 := by omega
  rcases hk3 with rfl | rfl | rfl <;> rfl
theorem bx_off {b c : Nat} {v : V3} {w : World} (h : BX b v w) (hne : b ≠ c) (k : Nat) (x : Value) : BX b v (w.setCell ⟨c, k, none⟩ x) := blk_far x h hne
theorem intr {x y : Int} (g : x = y) : Ending.returned (.int .i64 x) = .returned (.int .i64 y) := by rw [g]
def spanU (n : Int) : Int := if n < 0 then 0 else if 1048576 < n then 1048576 else n
theorem spanU_unit (n : Int) : (n == spanU n) = unitB n := by
  rw [Bool.eq_iff_iff, unitB_iff]; unfold spanU; simp only [beq_iff_eq]
  split
  · omega
  · split <;> omega
theorem uspan_any (n : Int) (w : World) :
    Calls Try.prog 41 #[.int .i64 n, .int .i64 0, .int .i64 1048576] w fun e w' => e = .returned (.int .i64 (spanU n)) ∧ w = w' := by
  by_cases h1 : 1048576 < n
  · go_enter Try.func41, Try.ntmps41
    go_wp2
    go_ret
    exact ⟨intr (by unfold spanU; (repeat' split) <;> omega), rfl⟩
  · by_cases h2 : 0 < n
    all_goals
      go_enter Try.func41, Try.ntmps41
      go_wp2
      go_ret
      exact ⟨intr (by unfold spanU; (repeat' split) <;> omega), rfl⟩
theorem bx_cell_any {b : Nat} {v : V3} {w : World} (h : BX b v w) (k : Nat) (hk : k < 3) : ∃ x, w.cell? ⟨b, k, none⟩ = some x := ⟨_, bx_at h k hk⟩
set_option maxHeartbeats 1000000 in
theorem clo_right (v : V3) (b k : Nat) (hk : k < 3) (w : World) (h1 : BX b v w) :
    Calls Try.prog 40 #[.int .i64 k, .pointer (some ⟨b, 0, none⟩)] w fun e w' => e = .returned (.int .i64 (spanU (v.at_ k))) ∧ Below w.heap.size w w' := by
  have g1 := bx_at h1 k hk
  have S1 := Lib.hid fun w => uspan_any (v.at_ k) w
  clear h1
  have dk2 : (0 : Int) ≤ (k : Int) := by omega
  have dk3 : (k : Int) < 3 := by omega
  go_enter Try.func40, Try.ntmps40
  go_wp2_with fail
  refine (S1.out _).mono ?_; rintro e w1 ⟨rfl, rfl⟩
  go_wp2_with fail
  go_ret
  exact ⟨rfl, Below.refl _ _⟩
set_option maxHeartbeats 1000000 in
theorem each_right (x : V3) (p : Value) (w : World) (hf : ∀ k : Nat, k < 3 → ∀ w', Below w.heap.size w w' → Calls Try.prog 40 #[.int .i64 k, p] w' fun e w'' => e = .returned (.int .i64 (x.at_ k)) ∧ Below w'.heap.size w' w'') :
    Calls Try.prog 39 #[.func (.func 40) #[] #[p]] w fun e w' => e = .returned x.val ∧ Below w.heap.size w w' := by
  have HFN := Lib.hid hf
  clear hf
  have hb := (two_below w zero3 zero3)
  have hx1 : BX w.heap.size zero3 (two w zero3 zero3) := blk_old _ (blk_new w _)
  have hx2 : BX (w.heap.size + 1) zero3 (two w zero3 zero3) := by
    have := blk_new (w.alloc (.cells zero3.cells 23)) (.cells zero3.cells 23)
    rw [show (w.alloc (.cells zero3.cells 23)).heap.size = w.heap.size + 1 by simp] at this
    exact this
  unfold two zero3 V3.cells at hb hx1 hx2
  dsimp only at hb hx1 hx2
  have HB := Lib.hid hb
  have HX1 := Lib.hid hx1
  have HX2 := Lib.hid hx2
  clear hb hx1 hx2
  go_enter Try.func39, Try.ntmps39
  go_wp2_with fail
  generalize (w.alloc (.cells #[.int .i64 0, .int .i64 0, .int .i64 0] 23)).alloc (.cells #[.int .i64 0, .int .i64 0, .int .i64 0] 23) = w1 at *
  go_loopw [5] (fun i wr => ∃ k : Nat, k ≤ 3 ∧ i = .int .i64 k ∧ BX w.heap.size zero3 wr ∧ BX (w.heap.size + 1) (partV x k) wr ∧ Below w.heap.size w wr) (fun i _ => 3 - (intOf i).toNat)
  case atStart => exact ⟨0, by omega, rfl, HX1.out, HX2.out, HB.out⟩
  case round =>
    obtain ⟨k, hk, rfl, h1, h2, h3⟩ := hrel
    have H1 := Lib.hid h1
    have H2 := Lib.hid h2
    have H3 := Lib.hid h3
    clear h1 h2 h3
    by_cases hlt : k < 3
    · have dk : decide ((k : Int) < 3) = true := decide_eq_true (by omega)
      have dk2 : (0 : Int) ≤ (k : Int) := by omega
      have dk3 : (k : Int) < 3 := by omega
      have q3 : IntKind.i64.wrap ((k : Int) + 1) = ((k + 1 : Nat) : Int) := by rw [IntWalk.i64_in _ (by omega)]; omega
      have F1 := Lib.hid (HFN.out k hlt wr H3.out)
      clear hk
      go_wp2_with fail
      refine F1.out.mono ?_; rintro e w2 ⟨rfl, b1⟩
      have hz2 := bx_below H2.out b1
      have fz := blk_free hz2 k
      have HY1 := Lib.hid (bx_off (bx_below H1.out b1) (Nat.ne_of_lt (Nat.lt_succ_self _)) k (.int .i64 (x.at_ k)))
      have HY2 := Lib.hid (bx_part k hlt hz2)
      have HY3 := Lib.hid ((H3.out.trans (b1.mono H3.out.size)).setCell (p := ⟨w.heap.size + 1, k, none⟩) (Nat.le_succ _) (.int .i64 (x.at_ k)))
      have ce := bx_at hz2 k hlt
      clear hz2 b1
      go_wp2_with fail
      go_roundw
      case rel => exact ⟨k + 1, by omega, rfl, HY1.out, HY2.out, HY3.out⟩
      case measure => simp [intOf]; omega
    · obtain rfl : k = 3 := by omega
      rw [partV_three] at H2
      obtain ⟨y0, y1, y2⟩ := bx_cells H2.out
      obtain ⟨z0, z1, z2⟩ := bx_cells H1.out
      obtain ⟨f0, f1, f2⟩ := bx_free H1.out
      go_wp2_with fail
      refine bodyPost_ret (cell_results rfl (bx_set H1.out x.a x.b x.c) rfl rfl) rfl ⟨rfl, set3_below H3.out (Nat.le_refl _) _ _ _⟩
end Go.Proofs.Ytkahdmhgfojbiaa
