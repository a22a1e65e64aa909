/- What the document's own answers for vectors come to. Conditions: numbers that an int holds. -/
import Derived.Test.YtgooepfhapaenaaGreatPlains
import Derived.Test.YtgooepfhapaenaaGreatDecRef2
import Derived.Deep.QuietTactic
import Derived.BigQuiet
namespace Go.Proofs.YtgooepfhapaenaaGreat
open Go.ChangeShapes Go.WideShapes Go.ChangeAt Go.RowKit
set_option linter.unusedVariables false
set_option maxRecDepth 100000
set_option linter.unusedSimpArgs false

theorem res_cell (w : World) (v : V3) : (w.alloc (.cells v.cells 23)).cell? ⟨w.heap.size, 0, none⟩ = some (.int .i64 v.a) ∧ (w.alloc (.cells v.cells 23)).cell? ⟨w.heap.size, 1, none⟩ = some (.int .i64 v.b) ∧ (w.alloc (.cells v.cells 23)).cell? ⟨w.heap.size, 2, none⟩ = some (.int .i64 v.c) :=
  ⟨blk_cell (blk_new w (.cells v.cells 23)) 0, blk_cell (blk_new w (.cells v.cells 23)) 1, blk_cell (blk_new w (.cells v.cells 23)) 2⟩
set_option maxHeartbeats 1000000 in
theorem r8right_any (v : V3) (w : World) :
    Calls Tryz.prog 58 #[v.val] w fun e w' => e = .returned (.bool (rightB v)) ∧ Below w.heap.size w w' := by
  obtain ⟨g0, g1, g2⟩ := res_cell w v
  have hb := (Below.refl w.heap.size w).alloc (Nat.le_refl _) (.cells v.cells 23)
  have HB := Lib.hid hb
  clear hb
  unfold V3.val
  unfold V3.cells at g0 g1 g2 HB
  go_enter Tryz.func58, Tryz.ntmps58
  go_wp2_with fail
  generalize w.alloc (.cells #[.int .i64 v.a, .int .i64 v.b, .int .i64 v.c] 23) = w1 at *
  go_loop [3] (fun i => ∃ k : Nat, k ≤ 3 ∧ i = .int .i64 k ∧ (0 < k → unitB v.a = true) ∧ (1 < k → unitB v.b = true) ∧ (2 < k → unitB v.c = true)) (fun i => 3 - (intOf i).toNat)
  case atStart => exact ⟨0, by omega, rfl, fun h => absurd h (by omega), fun h => absurd h (by omega), fun h => absurd h (by omega)⟩
  case round =>
    obtain ⟨k, hk, rfl, hI⟩ := hrel
    have HI := Lib.hid hI
    clear hI
    have hk4 : k = 0 ∨ k = 1 ∨ k = 2 ∨ k = 3 := by omega
    rcases hk4 with rfl | rfl | rfl | rfl
    · have hn : unitB v.a = true ∨ unitB v.a = false := by cases unitB v.a <;> simp
      rcases hn with hn | hn
      · have h2 := (unitB_iff _).1 hn
        obtain ⟨h3, h4⟩ := h2
        have d1 : decide (v.a < 0) = false := decide_eq_false (by omega)
        have d2 : decide ((1048576 : Int) < v.a) = false := decide_eq_false (by omega)
        have HU := Lib.hid hn
        clear hn
        go_wp2_with fail
        go_round
        case rel => exact ⟨1, by omega, rfl, by first | exact fun _ => HU.out | exact HI.out.1 | (intro h; first | exact HU.out | exact HI.out.1 (by omega) | omega), by intro h; first | exact HU.out | exact HI.out.2.1 (by omega) | omega, by intro h; first | exact HU.out | exact HI.out.2.2 (by omega) | omega⟩
        case measure => simp [intOf]
      · have HX := Lib.hid (show rightB v = false by unfold rightB; rw [hn]; simp)
        have h2 : v.a < 0 ∨ (¬ v.a < 0 ∧ 1048576 < v.a) := by
          have : ¬ (0 ≤ v.a ∧ v.a ≤ 1048576) := fun h => by rw [(unitB_iff _).2 h] at hn; cases hn
          omega
        clear hn
        rcases h2 with h2 | ⟨h2, h3⟩
        · have d1 : decide (v.a < 0) = true := decide_eq_true h2
          go_wp2_with fail
          go_ret
          exact ⟨by rw [HX.out]; rfl, HB.out⟩
        · have d1 : decide (v.a < 0) = false := decide_eq_false h2
          have d2 : decide ((1048576 : Int) < v.a) = true := decide_eq_true h3
          go_wp2_with fail
          go_ret
          exact ⟨by rw [HX.out]; rfl, HB.out⟩
    · have hn : unitB v.b = true ∨ unitB v.b = false := by cases unitB v.b <;> simp
      rcases hn with hn | hn
      · have h2 := (unitB_iff _).1 hn
        obtain ⟨h3, h4⟩ := h2
        have d1 : decide (v.b < 0) = false := decide_eq_false (by omega)
        have d2 : decide ((1048576 : Int) < v.b) = false := decide_eq_false (by omega)
        have HU := Lib.hid hn
        clear hn
        go_wp2_with fail
        go_round
        case rel => exact ⟨2, by omega, rfl, by first | exact fun _ => HU.out | exact HI.out.1 | (intro h; first | exact HU.out | exact HI.out.1 (by omega) | omega), by intro h; first | exact HU.out | exact HI.out.2.1 (by omega) | omega, by intro h; first | exact HU.out | exact HI.out.2.2 (by omega) | omega⟩
        case measure => simp [intOf]
      · have HX := Lib.hid (show rightB v = false by unfold rightB; rw [hn]; simp)
        have h2 : v.b < 0 ∨ (¬ v.b < 0 ∧ 1048576 < v.b) := by
          have : ¬ (0 ≤ v.b ∧ v.b ≤ 1048576) := fun h => by rw [(unitB_iff _).2 h] at hn; cases hn
          omega
        clear hn
        rcases h2 with h2 | ⟨h2, h3⟩
        · have d1 : decide (v.b < 0) = true := decide_eq_true h2
          go_wp2_with fail
          go_ret
          exact ⟨by rw [HX.out]; rfl, HB.out⟩
        · have d1 : decide (v.b < 0) = false := decide_eq_false h2
          have d2 : decide ((1048576 : Int) < v.b) = true := decide_eq_true h3
          go_wp2_with fail
          go_ret
          exact ⟨by rw [HX.out]; rfl, HB.out⟩
    · have hn : unitB v.c = true ∨ unitB v.c = false := by cases unitB v.c <;> simp
      rcases hn with hn | hn
      · have h2 := (unitB_iff _).1 hn
        obtain ⟨h3, h4⟩ := h2
        have d1 : decide (v.c < 0) = false := decide_eq_false (by omega)
        have d2 : decide ((1048576 : Int) < v.c) = false := decide_eq_false (by omega)
        have HU := Lib.hid hn
        clear hn
        go_wp2_with fail
        go_round
        case rel => exact ⟨3, by omega, rfl, by first | exact fun _ => HU.out | exact HI.out.1 | (intro h; first | exact HU.out | exact HI.out.1 (by omega) | omega), by intro h; first | exact HU.out | exact HI.out.2.1 (by omega) | omega, by intro h; first | exact HU.out | exact HI.out.2.2 (by omega) | omega⟩
        case measure => simp [intOf]
      · have HX := Lib.hid (show rightB v = false by unfold rightB; rw [hn]; simp)
        have h2 : v.c < 0 ∨ (¬ v.c < 0 ∧ 1048576 < v.c) := by
          have : ¬ (0 ≤ v.c ∧ v.c ≤ 1048576) := fun h => by rw [(unitB_iff _).2 h] at hn; cases hn
          omega
        clear hn
        rcases h2 with h2 | ⟨h2, h3⟩
        · have d1 : decide (v.c < 0) = true := decide_eq_true h2
          go_wp2_with fail
          go_ret
          exact ⟨by rw [HX.out]; rfl, HB.out⟩
        · have d1 : decide (v.c < 0) = false := decide_eq_false h2
          have d2 : decide ((1048576 : Int) < v.c) = true := decide_eq_true h3
          go_wp2_with fail
          go_ret
          exact ⟨by rw [HX.out]; rfl, HB.out⟩
    · have HX := Lib.hid (show rightB v = true by unfold rightB; rw [HI.out.1 (by omega), HI.out.2.1 (by omega), HI.out.2.2 (by omega)]; rfl)
      go_wp2_with fail
      go_ret
      exact ⟨by rw [HX.out]; rfl, HB.out⟩

/-- Two vectors that were boxed, one behind the other. -/
def two (w : World) (v u : V3) : World := (w.alloc (.cells v.cells 23)).alloc (.cells u.cells 23)
theorem res_cells (w : World) (v u : V3) :
    (two w v u).cell? ⟨w.heap.size, 0, none⟩ = some (.int .i64 v.a) ∧ (two w v u).cell? ⟨w.heap.size, 1, none⟩ = some (.int .i64 v.b) ∧ (two w v u).cell? ⟨w.heap.size, 2, none⟩ = some (.int .i64 v.c) ∧
    (two w v u).cell? ⟨w.heap.size + 1, 0, none⟩ = some (.int .i64 u.a) ∧ (two w v u).cell? ⟨w.heap.size + 1, 1, none⟩ = some (.int .i64 u.b) ∧ (two w v u).cell? ⟨w.heap.size + 1, 2, none⟩ = some (.int .i64 u.c) := by
  have h1 := blk_old (.cells u.cells 23) (blk_new w (.cells v.cells 23))
  have h2 := blk_new (w.alloc (.cells v.cells 23)) (.cells u.cells 23)
  have e : (w.alloc (.cells v.cells 23)).heap.size = w.heap.size + 1 := by simp
  rw [e] at h2
  exact ⟨blk_cell h1 0, blk_cell h1 1, blk_cell h1 2, blk_cell h2 0, blk_cell h2 1, blk_cell h2 2⟩
theorem two_below (w : World) (v u : V3) : Below w.heap.size w (two w v u) := ((Below.refl w.heap.size w).alloc (Nat.le_refl _) _).alloc (by simp) _
theorem below_drewR {B : Nat} {a w : World} (h : Below B a w) (n : Nat) : Below B a (w.drewN n) := ⟨h.os, h.tape, h.output, h.size, h.block⟩
/-- A vector that is a result, out of its block. -/
theorem cell_results {fn : Func} {t : Tmp} (hr : fn.results = #[.cell t 23]) {tmps : Array Value} {w : World} {g : Nat} {cs : Array Value} (hg : w.heap[g]? = some (.cells cs 23 (0, 0))) (hs : cs.size = 3) (hp : tmps.getD t undef = .pointer (some ⟨g, 0, none⟩)) :
    (results fn tmps).run Tryz.prog w = .ok (.agg cs) w := by
  have hl := run_loadVar_row (P := Tryz.prog) w g _ 23 cs (0, 0) (.array 3 3) hg (by kernel_rfl) rfl (by rw [hs]; kernel_rfl)
  have hp' : tmps[t]?.getD undef = .pointer (some ⟨g, 0, none⟩) := by simpa using hp
  simp [results, hr, hp', asAddr, hl]
theorem cell_results2 {fn : Func} {t s : Tmp} (hr : fn.results = #[.cell t 23, .tmp s]) {tmps : Array Value} {w : World} {g : Nat} {cs : Array Value} (hg : w.heap[g]? = some (.cells cs 23 (0, 0))) (hs : cs.size = 3) (hp : tmps.getD t undef = .pointer (some ⟨g, 0, none⟩)) :
    (results fn tmps).run Tryz.prog w = .ok (.tuple #[.agg cs, tmps.getD s undef]) w := by
  have hl := run_loadVar_row (P := Tryz.prog) w g _ 23 cs (0, 0) (.array 3 3) hg (by kernel_rfl) rfl (by rw [hs]; kernel_rfl)
  have hp' : tmps[t]?.getD undef = .pointer (some ⟨g, 0, none⟩) := by simpa using hp
  simp [results, hr, hp', asAddr, hl]
theorem agg3 {a b c a' b' c' : Int} (h1 : a = a') (h2 : b = b') (h3 : c = c') : Ending.returned (.agg #[.int .i64 a, .int .i64 b, .int .i64 c]) = Ending.returned (.agg #[.int .i64 a', .int .i64 b', .int .i64 c']) := by rw [h1, h2, h3]
theorem blk3 (w : World) (o1 o2 o3 : Obj) : (((w.alloc o1).alloc o2).alloc o3).heap[w.heap.size + 1 + 1]? = some o3 := by
  have := blk_new ((w.alloc o1).alloc o2) o3
  simpa using this
/-- A block that holds a vector. -/
def BX (b : Nat) (v : V3) (w : World) : Prop := w.heap[b]? = some (.cells #[.int .i64 v.a, .int .i64 v.b, .int .i64 v.c] 23 (0, 0))
theorem bx_cells {b : Nat} {v : V3} {w : World} (h : BX b v w) : w.cell? ⟨b, 0, none⟩ = some (.int .i64 v.a) ∧ w.cell? ⟨b, 1, none⟩ = some (.int .i64 v.b) ∧ w.cell? ⟨b, 2, none⟩ = some (.int .i64 v.c) := ⟨blk_cell h 0, blk_cell h 1, blk_cell h 2⟩
theorem bx_below {b : Nat} {v : V3} {w w' : World} (h : BX b v w) (hb : Below w.heap.size w w') : BX b v w' := (hb.block b (lt_of_block h)).trans h
theorem bx_free {b : Nat} {v : V3} {w : World} (h : BX b v w) : w.frozen? ⟨b, 0, none⟩ = false ∧ w.frozen? ⟨b, 1, none⟩ = false ∧ w.frozen? ⟨b, 2, none⟩ = false := ⟨blk_free h 0, blk_free h 1, blk_free h 2⟩
def set3 (w : World) (b : Nat) (x y z : Int) : World := ((w.setCell ⟨b, 0, none⟩ (.int .i64 x)).setCell ⟨b, 1, none⟩ (.int .i64 y)).setCell ⟨b, 2, none⟩ (.int .i64 z)
theorem bx_set {b : Nat} {v : V3} {w : World} (h : BX b v w) (x y z : Int) : (set3 w b x y z).heap[b]? = some (.cells #[.int .i64 x, .int .i64 y, .int .i64 z] 23 (0, 0)) := by
  unfold BX at h
  have h1 := blk_set h 0 (.int .i64 x)
  have h2 := blk_set h1 1 (.int .i64 y)
  have h3 := blk_set h2 2 (.int .i64 z)
  exact h3
theorem set3_below {B b : Nat} {a w : World} (h : Below B a w) (hB : B ≤ b) (x y z : Int) : Below B a (set3 w b x y z) :=
  ((h.setCell (p := ⟨b, 0, none⟩) hB _).setCell (p := ⟨b, 1, none⟩) hB _).setCell (p := ⟨b, 2, none⟩) hB _
def pairV (v : V3) (b : Bool) : Ending := .returned (.tuple #[v.val, .bool b])
end Go.Proofs.YtgooepfhapaenaaGreat
