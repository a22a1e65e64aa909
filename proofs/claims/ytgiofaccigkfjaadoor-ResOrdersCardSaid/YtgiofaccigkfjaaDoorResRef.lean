/- What the document's own answers for vectors come to. Conditions: numbers that an int holds. -/
import Derived.Test.YtgiofaccigkfjaaDoorResPlain
import Derived.Test.YtgiofaccigkfjaaDoorDecRef2
import Derived.Deep.QuietTactic
import Derived.BigQuiet
namespace Go.Proofs.YtgiofaccigkfjaaDoor
open Go.ChangeShapes Go.WideShapes Go.ChangeAt Go.RowKit
set_option linter.unusedVariables false
set_option maxRecDepth 100000
set_option linter.unusedSimpArgs false

theorem res_cell (w : World) (v : V3) : (w.alloc (.cells v.cells 23)).cell? ⟨w.heap.size, 0, none⟩ = some (.int .i64 v.a) ∧ (w.alloc (.cells v.cells 23)).cell? ⟨w.heap.size, 1, none⟩ = some (.int .i64 v.b) ∧ (w.alloc (.cells v.cells 23)).cell? ⟨w.heap.size, 2, none⟩ = some (.int .i64 v.c) :=
  ⟨blk_cell (blk_new w (.cells v.cells 23)) 0, blk_cell (blk_new w (.cells v.cells 23)) 1, blk_cell (blk_new w (.cells v.cells 23)) 2⟩
set_option maxHeartbeats 1000000 in
theorem r8right_any (v : V3) (w : World) :
    Calls Tryd.prog 12 #[v.val] w fun e w' => e = .returned (.bool (rightB v)) ∧ Below w.heap.size w w' := by
  obtain ⟨g0, g1, g2⟩ := res_cell w v
  have hb := (Below.refl w.heap.size w).alloc (Nat.le_refl _) (.cells v.cells 23)
  have HB := Lib.hid hb
  clear hb
  unfold V3.val
  unfold V3.cells at g0 g1 g2 HB
  go_enter Tryd.func12, Tryd.ntmps12
  go_wp2_with fail
  generalize w.alloc (.cells #[.int .i64 v.a, .int .i64 v.b, .int .i64 v.c] 23) = w1 at *
  go_loop [3] (fun i => ∃ k : Nat, k ≤ 3 ∧ i = .int .i64 k ∧ (0 < k → unitB v.a = true) ∧ (1 < k → unitB v.b = true) ∧ (2 < k → unitB v.c = true)) (fun i => 3 - (intOf i).toNat)
  case atStart => exact ⟨0, by omega, rfl, fun h => absurd h (by omega), fun h => absurd h (by omega), fun h => absurd h (by omega)⟩
  case round =>
    obtain ⟨k, hk, rfl, hI⟩ := hrel
    have HI := Lib.hid hI
    clear hI
    have hk4 : k = 0 ∨ k = 1 ∨ k = 2 ∨ k = 3 := by omega
    rcases hk4 with rfl | rfl | rfl | rfl
    · have hn : unitB v.a = true ∨ unitB v.a = false := by cases unitB v.a <;> simp
      rcases hn with hn | hn
      · have h2 := (unitB_iff _).1 hn
        obtain ⟨h3, h4⟩ := h2
        have d1 : decide (v.a < 0) = false := decide_eq_false (by omega)
        have d2 : decide ((1048576 : Int) < v.a) = false := decide_eq_false (by omega)
        have HU := Lib.hid hn
        clear hn
        go_wp2_with fail
        go_round
        case rel => exact ⟨1, by omega, rfl, by first | exact fun _ => HU.out | exact HI.out.1 | (intro h; first | exact HU.out | exact HI.out.1 (by omega) | omega), by intro h; first | exact HU.out | exact HI.out.2.1 (by omega) | omega, by intro h; first | exact HU.out | exact HI.out.2.2 (by omega) | omega⟩
        case measure => simp [intOf]
      · have HX := Lib.hid (show rightB v = false by unfold rightB; rw [hn]; simp)
        have h2 : v.a < 0 ∨ (¬ v.a < 0 ∧ 1048576 < v.a) := by
          have : ¬ (0 ≤ v.a ∧ v.a ≤ 1048576) := fun h => by rw [(unitB_iff _).2 h] at hn; cases hn
          omega
        clear hn
        rcases h2 with h2 | ⟨h2, h3⟩
        · have d1 : decide (v.a < 0) = true := decide_eq_true h2
          go_wp2_with fail
          go_ret
          exact ⟨by rw [HX.out]; rfl, HB.out⟩
        · have d1 : decide (v.a < 0) = false := decide_eq_false h2
          have d2 : decide ((1048576 : Int) < v.a) = true := decide_eq_true h3
          go_wp2_with fail
          go_ret
          exact ⟨by rw [HX.out]; rfl, HB.out⟩
    · have hn : unitB v.b = true ∨ unitB v.b = false := by cases unitB v.b <;> simp
      rcases hn with hn | hn
      · have h2 := (unitB_iff _).1 hn
        obtain ⟨h3, h4⟩ := h2
        have d1 : decide (v.b < 0) = false := decide_eq_false (by omega)
        have d2 : decide ((1048576 : Int) < v.b) = false := decide_eq_false (by omega)
        have HU := Lib.hid hn
        clear hn
        go_wp2_with fail
        go_round
        case rel => exact ⟨2, by omega, rfl, by first | exact fun _ => HU.out | exact HI.out.1 | (intro h; first | exact HU.out | exact HI.out.1 (by omega) | omega), by intro h; first | exact HU.out | exact HI.out.2.1 (by omega) | omega, by intro h; first | exact HU.out | exact HI.out.2.2 (by omega) | omega⟩
        case measure => simp [intOf]
      · have HX := Lib.hid (show rightB v = false by unfold rightB; rw [hn]; simp)
        have h2 : v.b < 0 ∨ (¬ v.b < 0 ∧ 1048576 < v.b) := by
          have : ¬ (0 ≤ v.b ∧ v.b ≤ 1048576) := fun h => by rw [(unitB_iff _).2 h] at hn; cases hn
          omega
        clear hn
        rcases h2 with h2 | ⟨h2, h3⟩
        · have d1 : decide (v.b < 0) = true := decide_eq_true h2
          go_wp2_with fail
          go_ret
          exact ⟨by rw [HX.out]; rfl, HB.out⟩
        · have d1 : decide (v.b < 0) = false := decide_eq_false h2
          have d2 : decide ((1048576 : Int) < v.b) = true := decide_eq_true h3
          go_wp2_with fail
          go_ret
          exact ⟨by rw [HX.out]; rfl, HB.out⟩
    · have hn : unitB v.c = true ∨ unitB v.c = false := by cases unitB v.c <;> simp
      rcases hn with hn | hn
      · have h2 := (unitB_iff _).1 hn
        obtain ⟨h3, h4⟩ := h2
        have d1 : decide (v.c < 0) = false := decide_eq_false (by omega)
        have d2 : decide ((1048576 : Int) < v.c) = false := decide_eq_false (by omega)
        have HU := Lib.hid hn
        clear hn
        go_wp2_with fail
        go_round
        case rel => exact ⟨3, by omega, rfl, by first | exact fun _ => HU.out | exact HI.out.1 | (intro h; first | exact HU.out | exact HI.out.1 (by omega) | omega), by intro h; first | exact HU.out | exact HI.out.2.1 (by omega) | omega, by intro h; first | exact HU.out | exact HI.out.2.2 (by omega) | omega⟩
        case measure => simp [intOf]
      · have HX := Lib.hid (show rightB v = false by unfold rightB; rw [hn]; simp)
        have h2 : v.c < 0 ∨ (¬ v.c < 0 ∧ 1048576 < v.c) := by
          have : ¬ (0 ≤ v.c ∧ v.c ≤ 1048576) := fun h => by rw [(unitB_iff _).2 h] at hn; cases hn
          omega
        clear hn
        rcases h2 with h2 | ⟨h2, h3⟩
        · have d1 : decide (v.c < 0) = true := decide_eq_true h2
          go_wp2_with fail
          go_ret
          exact ⟨by rw [HX.out]; rfl, HB.out⟩
        · have d1 : decide (v.c < 0) = false := decide_eq_false h2
          have d2 : decide ((1048576 : Int) < v.c) = true := decide_eq_true h3
          go_wp2_with fail
          go_ret
          exact ⟨by rw [HX.out]; rfl, HB.out⟩
    · have HX := Lib.hid (show rightB v = true by unfold rightB; rw [HI.out.1 (by omega), HI.out.2.1 (by omega), HI.out.2.2 (by omega)]; rfl)
      go_wp2_with fail
      go_ret
      exact ⟨by rw [HX.out]; rfl, HB.out⟩

/-- Two vectors that were boxed, one behind the other. -/
def two (w : World) (v u : V3) : World := (w.alloc (.cells v.cells 23)).alloc (.cells u.cells 23)
theorem res_cells (w : World) (v u : V3) :
    (two w v u).cell? ⟨w.heap.size, 0, none⟩ = some (.int .i64 v.a) ∧ (two w v u).cell? ⟨w.heap.size, 1, none⟩ = some (.int .i64 v.b) ∧ (two w v u).cell? ⟨w.heap.size, 2, none⟩ = some (.int .i64 v.c) ∧
    (two w v u).cell? ⟨w.heap.size + 1, 0, none⟩ = some (.int .i64 u.a) ∧ (two w v u).cell? ⟨w.heap.size + 1, 1, none⟩ = some (.int .i64 u.b) ∧ (two w v u).cell? ⟨w.heap.size + 1, 2, none⟩ = some (.int .i64 u.c) := by
  have h1 := blk_old (.cells u.cells 23) (blk_new w (.cells v.cells 23))
  have h2 := blk_new (w.alloc (.cells v.cells 23)) (.cells u.cells 23)
  have e : (w.alloc (.cells v.cells 23)).heap.size = w.heap.size + 1 := by simp
  rw [e] at h2
  exact ⟨blk_cell h1 0, blk_cell h1 1, blk_cell h1 2, blk_cell h2 0, blk_cell h2 1, blk_cell h2 2⟩
theorem two_below (w : World) (v u : V3) : Below w.heap.size w (two w v u) := ((Below.refl w.heap.size w).alloc (Nat.le_refl _) _).alloc (by simp) _
set_option maxHeartbeats 1000000 in
theorem r8fits_any (v u : V3) (w : World) :
    Calls Tryd.prog 14 #[v.val, u.val] w fun e w' => e = .returned (.bool (fitsB v u)) ∧ Below w.heap.size w w' := by
  obtain ⟨g0, g1, g2, g3, g4, g5⟩ := res_cells w v u
  have HB := Lib.hid (two_below w v u)
  unfold V3.val
  unfold two V3.cells at g0 g1 g2 g3 g4 g5 HB
  have ha : (decide (v.a ≤ u.a) = false ∧ fitsB v u = false) ∨ (decide (v.a ≤ u.a) = true ∧ ((decide (v.b ≤ u.b) = false ∧ fitsB v u = false) ∨ (decide (v.b ≤ u.b) = true ∧ fitsB v u = decide (v.c ≤ u.c)))) := by
    unfold fitsB
    cases decide (v.a ≤ u.a) <;> cases decide (v.b ≤ u.b) <;> simp
  rcases ha with ⟨d1, h⟩ | ⟨d1, ⟨d2, h⟩ | ⟨d2, h⟩⟩
  all_goals
    have HX := Lib.hid h
    clear h
    go_enter Tryd.func14, Tryd.ntmps14
    go_wp2_with fail
    go_ret
    exact ⟨by rw [HX.out]; rfl, HB.out⟩
theorem below_drewR {B : Nat} {a w : World} (h : Below B a w) (n : Nat) : Below B a (w.drewN n) := ⟨h.os, h.tape, h.output, h.size, h.block⟩
set_option maxHeartbeats 1000000 in
theorem r8less_any (v u : V3) (w : World) :
    Calls Tryd.prog 16 #[v.val, u.val] w fun e w' => e = .returned (.bool (lessB v u)) ∧ Below w.heap.size w w' := by
  obtain ⟨g0, g1, g2, g3, g4, g5⟩ := res_cells w v u
  have HB := Lib.hid (two_below w v u)
  unfold V3.val
  unfold two V3.cells at g0 g1 g2 g3 g4 g5 HB
  go_enter Tryd.func16, Tryd.ntmps16
  go_wp2_with fail
  generalize (w.alloc (.cells #[.int .i64 v.a, .int .i64 v.b, .int .i64 v.c] 23)).alloc (.cells #[.int .i64 u.a, .int .i64 u.b, .int .i64 u.c] 23) = w1 at *
  go_loopw [5] (fun i wr => ∃ k n : Nat, k ≤ 3 ∧ i = .int .i64 k ∧ wr = w1.drewN n ∧ (0 < k → v.a = u.a) ∧ (1 < k → v.b = u.b) ∧ (2 < k → v.c = u.c)) (fun i _ => 3 - (intOf i).toNat)
  case atStart => exact ⟨0, 0, by omega, rfl, rfl, fun h => absurd h (by omega), fun h => absurd h (by omega), fun h => absurd h (by omega)⟩
  case round =>
    obtain ⟨k, n, hk, rfl, rfl, hI⟩ := hrel
    have HI := Lib.hid hI
    clear hI
    have hk4 : k = 0 ∨ k = 1 ∨ k = 2 ∨ k = 3 := by omega
    rcases hk4 with rfl | rfl | rfl | rfl
    · by_cases hne : v.a = u.a
      · have d1 : (v.a == u.a) = true := by rw [hne]; simp
        have d2 : (v.a != u.a) = false := by rw [hne]; simp
        have HQ := Lib.hid hne
        clear hne
        go_wp2_with fail
        go_quiet (fail)
        go_wp2_with fail
        go_roundw
        case rel => exact ⟨1, _, by omega, rfl, rfl, fun h => HQ.out, fun h => absurd h (by omega), fun h => absurd h (by omega)⟩
        case measure => simp [intOf]
      · have d1 : (v.a == u.a) = false := beq_false_of_ne hne
        have d2 : (v.a != u.a) = true := by simpa using hne
        have hne : v.a ≠ u.a := hne
        have HX := Lib.hid (show lessB v u = decide (v.a < u.a) from by unfold lessB; rw [if_pos hne])
        clear hne
        go_wp2_with fail
        go_quiet (fail)
        go_wp2_with fail
        go_quiet (fail)
        go_wp2_with fail
        go_ret
        exact ⟨by rw [HX.out]; rfl, below_drewR (below_drewR (below_drewR HB.out _) _) _⟩
    · by_cases hne : v.b = u.b
      · have d1 : (v.b == u.b) = true := by rw [hne]; simp
        have d2 : (v.b != u.b) = false := by rw [hne]; simp
        have HQ := Lib.hid hne
        clear hne
        go_wp2_with fail
        go_quiet (fail)
        go_wp2_with fail
        go_roundw
        case rel => exact ⟨2, _, by omega, rfl, rfl, fun h => HI.out.1 (by omega), fun h => HQ.out, fun h => absurd h (by omega)⟩
        case measure => simp [intOf]
      · have d1 : (v.b == u.b) = false := beq_false_of_ne hne
        have d2 : (v.b != u.b) = true := by simpa using hne
        have hne : v.b ≠ u.b := hne
        have HX := Lib.hid (show lessB v u = decide (v.b < u.b) from by unfold lessB; rw [if_neg (fun h => h (HI.out.1 (by omega))), if_pos hne])
        clear hne
        go_wp2_with fail
        go_quiet (fail)
        go_wp2_with fail
        go_quiet (fail)
        go_wp2_with fail
        go_ret
        exact ⟨by rw [HX.out]; rfl, below_drewR (below_drewR (below_drewR HB.out _) _) _⟩
    · by_cases hne : v.c = u.c
      · have d1 : (v.c == u.c) = true := by rw [hne]; simp
        have d2 : (v.c != u.c) = false := by rw [hne]; simp
        have HQ := Lib.hid hne
        clear hne
        go_wp2_with fail
        go_quiet (fail)
        go_wp2_with fail
        go_roundw
        case rel => exact ⟨3, _, by omega, rfl, rfl, fun h => HI.out.1 (by omega), fun h => HI.out.2.1 (by omega), fun h => HQ.out⟩
        case measure => simp [intOf]
      · have d1 : (v.c == u.c) = false := beq_false_of_ne hne
        have d2 : (v.c != u.c) = true := by simpa using hne
        have hne : v.c ≠ u.c := hne
        have HX := Lib.hid (show lessB v u = decide (v.c < u.c) from by unfold lessB; rw [if_neg (fun h => h (HI.out.1 (by omega))), if_neg (fun h => h (HI.out.2.1 (by omega)))])
        clear hne
        go_wp2_with fail
        go_quiet (fail)
        go_wp2_with fail
        go_quiet (fail)
        go_wp2_with fail
        go_ret
        exact ⟨by rw [HX.out]; rfl, below_drewR (below_drewR (below_drewR HB.out _) _) _⟩
    · have HX := Lib.hid (show lessB v u = false by unfold lessB; rw [if_neg (fun h => h (HI.out.1 (by omega))), if_neg (fun h => h (HI.out.2.1 (by omega))), HI.out.2.2 (by omega)]; simp)
      go_wp2_with fail
      go_ret
      exact ⟨by rw [HX.out]; rfl, below_drewR HB.out _⟩
/-- A vector that is a result, out of its block. -/
theorem cell_results {fn : Func} {t : Tmp} (hr : fn.results = #[.cell t 23]) {tmps : Array Value} {w : World} {g : Nat} {cs : Array Value} (hg : w.heap[g]? = some (.cells cs 23 (0, 0))) (hs : cs.size = 3) (hp : tmps.getD t undef = .pointer (some ⟨g, 0, none⟩)) :
    (results fn tmps).run Tryd.prog w = .ok (.agg cs) w := by
  have hl := run_loadVar_row (P := Tryd.prog) w g _ 23 cs (0, 0) (.array 3 3) hg (by kernel_rfl) rfl (by rw [hs]; kernel_rfl)
  have hp' : tmps[t]?.getD undef = .pointer (some ⟨g, 0, none⟩) := by simpa using hp
  simp [results, hr, hp', asAddr, hl]
theorem cell_results2 {fn : Func} {t s : Tmp} (hr : fn.results = #[.cell t 23, .tmp s]) {tmps : Array Value} {w : World} {g : Nat} {cs : Array Value} (hg : w.heap[g]? = some (.cells cs 23 (0, 0))) (hs : cs.size = 3) (hp : tmps.getD t undef = .pointer (some ⟨g, 0, none⟩)) :
    (results fn tmps).run Tryd.prog w = .ok (.tuple #[.agg cs, tmps.getD s undef]) w := by
  have hl := run_loadVar_row (P := Tryd.prog) w g _ 23 cs (0, 0) (.array 3 3) hg (by kernel_rfl) rfl (by rw [hs]; kernel_rfl)
  have hp' : tmps[t]?.getD undef = .pointer (some ⟨g, 0, none⟩) := by simpa using hp
  simp [results, hr, hp', asAddr, hl]
theorem agg3 {a b c a' b' c' : Int} (h1 : a = a') (h2 : b = b') (h3 : c = c') : Ending.returned (.agg #[.int .i64 a, .int .i64 b, .int .i64 c]) = Ending.returned (.agg #[.int .i64 a', .int .i64 b', .int .i64 c']) := by rw [h1, h2, h3]
theorem blk3 (w : World) (o1 o2 o3 : Obj) : (((w.alloc o1).alloc o2).alloc o3).heap[w.heap.size + 1 + 1]? = some o3 := by
  have := blk_new ((w.alloc o1).alloc o2) o3
  simpa using this
set_option maxHeartbeats 1000000 in
theorem r8most_any (v u : V3) (w : World) :
    Calls Tryd.prog 18 #[v.val, u.val] w fun e w' => e = .returned (mostV v u).val ∧ Below w.heap.size w w' := by
  obtain ⟨g0, g1, g2, g3, g4, g5⟩ := res_cells w v u
  have HB := Lib.hid (two_below w v u)
  unfold V3.val
  unfold two V3.cells at g0 g1 g2 g3 g4 g5 HB
  go_enter Tryd.func18, Tryd.ntmps18
  go_wp2_with fail
  all_goals
    refine bodyPost_ret (cell_results rfl (blk3 _ _ _ _) rfl rfl) rfl ⟨?_, HB.out.alloc HB.out.size _⟩
    refine agg3 ?_ ?_ ?_ <;> simp only [mostV] <;> omega
/-- A block that holds a vector. -/
def BX (b : Nat) (v : V3) (w : World) : Prop := w.heap[b]? = some (.cells #[.int .i64 v.a, .int .i64 v.b, .int .i64 v.c] 23 (0, 0))
theorem bx_cells {b : Nat} {v : V3} {w : World} (h : BX b v w) : w.cell? ⟨b, 0, none⟩ = some (.int .i64 v.a) ∧ w.cell? ⟨b, 1, none⟩ = some (.int .i64 v.b) ∧ w.cell? ⟨b, 2, none⟩ = some (.int .i64 v.c) := ⟨blk_cell h 0, blk_cell h 1, blk_cell h 2⟩
theorem bx_below {b : Nat} {v : V3} {w w' : World} (h : BX b v w) (hb : Below w.heap.size w w') : BX b v w' := (hb.block b (lt_of_block h)).trans h
theorem bx_free {b : Nat} {v : V3} {w : World} (h : BX b v w) : w.frozen? ⟨b, 0, none⟩ = false ∧ w.frozen? ⟨b, 1, none⟩ = false ∧ w.frozen? ⟨b, 2, none⟩ = false := ⟨blk_free h 0, blk_free h 1, blk_free h 2⟩
def set3 (w : World) (b : Nat) (x y z : Int) : World := ((w.setCell ⟨b, 0, none⟩ (.int .i64 x)).setCell ⟨b, 1, none⟩ (.int .i64 y)).setCell ⟨b, 2, none⟩ (.int .i64 z)
theorem bx_set {b : Nat} {v : V3} {w : World} (h : BX b v w) (x y z : Int) : (set3 w b x y z).heap[b]? = some (.cells #[.int .i64 x, .int .i64 y, .int .i64 z] 23 (0, 0)) := by
  unfold BX at h
  have h1 := blk_set h 0 (.int .i64 x)
  have h2 := blk_set h1 1 (.int .i64 y)
  have h3 := blk_set h2 2 (.int .i64 z)
  exact h3
theorem set3_below {B b : Nat} {a w : World} (h : Below B a w) (hB : B ≤ b) (x y z : Int) : Below B a (set3 w b x y z) :=
  ((h.setCell (p := ⟨b, 0, none⟩) hB _).setCell (p := ⟨b, 1, none⟩) hB _).setCell (p := ⟨b, 2, none⟩) hB _
def pairV (v : V3) (b : Bool) : Ending := .returned (.tuple #[v.val, .bool b])
set_option maxHeartbeats 2000000 in
theorem r8sub_any (v u : V3) (w : World) (hv : v.ok) (hu : u.ok) :
    Calls Tryd.prog 10 #[v.val, u.val] w fun e w' => e = pairV (takeV v u) (takeB v u) ∧ Below w.heap.size w w' := by
  have R1 := Lib.hid fun w => r8right_any v w
  have R2 := Lib.hid fun w => r8right_any u w
  have F1 := Lib.hid fun w => r8fits_any u v w
  unfold V3.val at R1 R2 F1 ⊢
  have hb0 : Below w.heap.size w (((w.alloc (.cells #[.int .i64 v.a, .int .i64 v.b, .int .i64 v.c] 23)).alloc (.cells #[.int .i64 u.a, .int .i64 u.b, .int .i64 u.c] 23)).alloc (.cells #[.int .i64 0, .int .i64 0, .int .i64 0] 23)) := (((Below.refl w.heap.size w).alloc (Nat.le_refl _) _).alloc (by simp) _).alloc (by simp; omega) _
  have B1 : BX w.heap.size v (((w.alloc (.cells #[.int .i64 v.a, .int .i64 v.b, .int .i64 v.c] 23)).alloc (.cells #[.int .i64 u.a, .int .i64 u.b, .int .i64 u.c] 23)).alloc (.cells #[.int .i64 0, .int .i64 0, .int .i64 0] 23)) := blk_old _ (blk_old _ (blk_new w _))
  have B2 : BX (w.heap.size + 1) u (((w.alloc (.cells #[.int .i64 v.a, .int .i64 v.b, .int .i64 v.c] 23)).alloc (.cells #[.int .i64 u.a, .int .i64 u.b, .int .i64 u.c] 23)).alloc (.cells #[.int .i64 0, .int .i64 0, .int .i64 0] 23)) := blk_old _ (by have := blk_new (w.alloc (.cells #[.int .i64 v.a, .int .i64 v.b, .int .i64 v.c] 23)) (.cells #[.int .i64 u.a, .int .i64 u.b, .int .i64 u.c] 23); simpa using this)
  have B3 : BX (w.heap.size + 1 + 1) zero3 (((w.alloc (.cells #[.int .i64 v.a, .int .i64 v.b, .int .i64 v.c] 23)).alloc (.cells #[.int .i64 u.a, .int .i64 u.b, .int .i64 u.c] 23)).alloc (.cells #[.int .i64 0, .int .i64 0, .int .i64 0] 23)) := blk3 _ _ _ _
  have HB0 := Lib.hid hb0
  have HX1 := Lib.hid B1
  have HX2 := Lib.hid B2
  have HX3 := Lib.hid B3
  clear hb0 B1 B2 B3
  go_enter Tryd.func10, Tryd.ntmps10
  go_wp2_with fail
  refine (R1.out _).mono ?_; rintro e w1 ⟨rfl, b1⟩
  have HB1 := Lib.hid (HB0.out.trans (b1.mono HB0.out.size))
  have HY1 := Lib.hid (bx_below HX1.out b1)
  have HY2 := Lib.hid (bx_below HX2.out b1)
  have HY3 := Lib.hid (bx_below HX3.out b1)
  clear b1 HX1 HX2 HX3 HB0
  have hcs : rightB v = false ∨ rightB v = true := by cases rightB v <;> simp
  rcases hcs with h1 | h1
  · rw [h1]
    obtain ⟨z0, z1, z2⟩ := bx_cells HY3.out
    obtain ⟨f0, f1, f2⟩ := bx_free HY3.out
    have HX := Lib.hid (show pairV (takeV v u) (takeB v u) = .returned (.tuple #[.agg #[.int .i64 0, .int .i64 0, .int .i64 0], .bool false]) by
      have : takeB v u = false := by unfold takeB; rw [h1]; rfl
      unfold takeV; rw [this]; rfl)
    clear h1
    go_wp2_with fail
    refine bodyPost_ret (cell_results2 rfl (bx_set HY3.out 0 0 0) rfl rfl) rfl ⟨?_, set3_below HB1.out (by omega) 0 0 0⟩
    rw [HX.out]; rfl
  · rw [h1]
    obtain ⟨y0, y1, y2⟩ := bx_cells HY2.out
    go_wp2_with fail
    refine (R2.out _).mono ?_; rintro e w2 ⟨rfl, b1⟩
    clear y0 y1 y2
    have HB1 := Lib.hid (HB1.out.trans (b1.mono HB1.out.size))
    have HY1 := Lib.hid (bx_below HY1.out b1)
    have HY2 := Lib.hid (bx_below HY2.out b1)
    have HY3 := Lib.hid (bx_below HY3.out b1)
    clear b1
    have hcs : rightB u = false ∨ rightB u = true := by cases rightB u <;> simp
    rcases hcs with h2 | h2
    · rw [h2]
      obtain ⟨z0, z1, z2⟩ := bx_cells HY3.out
      obtain ⟨f0, f1, f2⟩ := bx_free HY3.out
      have HX := Lib.hid (show pairV (takeV v u) (takeB v u) = .returned (.tuple #[.agg #[.int .i64 0, .int .i64 0, .int .i64 0], .bool false]) by
        have : takeB v u = false := by unfold takeB; rw [h2]; simp
        unfold takeV; rw [this]; rfl)
      clear h2
      go_wp2_with fail
      refine bodyPost_ret (cell_results2 rfl (bx_set HY3.out 0 0 0) rfl rfl) rfl ⟨?_, set3_below HB1.out (by omega) 0 0 0⟩
      rw [HX.out]; rfl
    · rw [h2]
      obtain ⟨y0, y1, y2⟩ := bx_cells HY2.out
      obtain ⟨x0, x1, x2⟩ := bx_cells HY1.out
      go_wp2_with fail
      refine (F1.out _).mono ?_; rintro e w3 ⟨rfl, b1⟩
      clear y0 y1 y2 x0 x1 x2
      have HB1 := Lib.hid (HB1.out.trans (b1.mono HB1.out.size))
      have HY1 := Lib.hid (bx_below HY1.out b1)
      have HY2 := Lib.hid (bx_below HY2.out b1)
      have HY3 := Lib.hid (bx_below HY3.out b1)
      clear b1
      have hcs : fitsB u v = false ∨ fitsB u v = true := by cases fitsB u v <;> simp
      rcases hcs with h3 | h3
      · rw [h3]
        obtain ⟨z0, z1, z2⟩ := bx_cells HY3.out
        obtain ⟨f0, f1, f2⟩ := bx_free HY3.out
        have HX := Lib.hid (show pairV (takeV v u) (takeB v u) = .returned (.tuple #[.agg #[.int .i64 0, .int .i64 0, .int .i64 0], .bool false]) by
          have : takeB v u = false := by unfold takeB; rw [h3]; simp
          unfold takeV; rw [this]; rfl)
        clear h3
        go_wp2_with fail
        refine bodyPost_ret (cell_results2 rfl (bx_set HY3.out 0 0 0) rfl rfl) rfl ⟨?_, set3_below HB1.out (by omega) 0 0 0⟩
        rw [HX.out]; rfl
      · rw [h3]
        obtain ⟨y0, y1, y2⟩ := bx_cells HY2.out
        obtain ⟨x0, x1, x2⟩ := bx_cells HY1.out
        obtain ⟨z0, z1, z2⟩ := bx_cells HY3.out
        obtain ⟨f0, f1, f2⟩ := bx_free HY3.out
        have ht : takeB v u = true := (takeB_iff v u).2 ⟨h1, h2, h3⟩
        have q1 := (rightB_iff v).1 h1
        have q2 := (rightB_iff u).1 h2
        have q3 := (fitsB_iff u v).1 h3
        have HX := Lib.hid (show pairV (takeV v u) (takeB v u) = .returned (.tuple #[.agg #[.int .i64 (v.a - u.a), .int .i64 (v.b - u.b), .int .i64 (v.c - u.c)], .bool true]) by
          unfold takeV; rw [ht]; rfl)
        have w1 : IntKind.i64.wrap (v.a - u.a) = v.a - u.a := IntWalk.i64_in _ (by omega)
        have w2 : IntKind.i64.wrap (v.b - u.b) = v.b - u.b := IntWalk.i64_in _ (by omega)
        have w3 : IntKind.i64.wrap (v.c - u.c) = v.c - u.c := IntWalk.i64_in _ (by omega)
        obtain ⟨⟨q11, q12⟩, ⟨q13, q14⟩, q15, q16⟩ := q1
        obtain ⟨⟨q21, q22⟩, ⟨q23, q24⟩, q25, q26⟩ := q2
        clear h1 h2 h3 ht q3
        go_wp2_with fail
        refine bodyPost_ret (cell_results2 rfl (bx_set HY3.out (v.a - u.a) (v.b - u.b) (v.c - u.c)) rfl rfl) rfl ⟨?_, set3_below HB1.out (by omega) _ _ _⟩
        rw [HX.out]; rfl
set_option maxHeartbeats 2000000 in
theorem r8add_any (v u : V3) (w : World) (hv : v.ok) (hu : u.ok) :
    Calls Tryd.prog 8 #[v.val, u.val] w fun e w' => e = pairV (addV v u) (addB v u) ∧ Below w.heap.size w w' := by
  have R1 := Lib.hid fun w => r8right_any v w
  have R2 := Lib.hid fun w => r8right_any u w
  have F1 := Lib.hid fun w => r8right_any (sumV v u) w
  unfold V3.val at R1 R2 F1 ⊢
  have hb0 : Below w.heap.size w (((w.alloc (.cells #[.int .i64 v.a, .int .i64 v.b, .int .i64 v.c] 23)).alloc (.cells #[.int .i64 u.a, .int .i64 u.b, .int .i64 u.c] 23)).alloc (.cells #[.int .i64 0, .int .i64 0, .int .i64 0] 23)) := (((Below.refl w.heap.size w).alloc (Nat.le_refl _) _).alloc (by simp) _).alloc (by simp; omega) _
  have B1 : BX w.heap.size v (((w.alloc (.cells #[.int .i64 v.a, .int .i64 v.b, .int .i64 v.c] 23)).alloc (.cells #[.int .i64 u.a, .int .i64 u.b, .int .i64 u.c] 23)).alloc (.cells #[.int .i64 0, .int .i64 0, .int .i64 0] 23)) := blk_old _ (blk_old _ (blk_new w _))
  have B2 : BX (w.heap.size + 1) u (((w.alloc (.cells #[.int .i64 v.a, .int .i64 v.b, .int .i64 v.c] 23)).alloc (.cells #[.int .i64 u.a, .int .i64 u.b, .int .i64 u.c] 23)).alloc (.cells #[.int .i64 0, .int .i64 0, .int .i64 0] 23)) := blk_old _ (by have := blk_new (w.alloc (.cells #[.int .i64 v.a, .int .i64 v.b, .int .i64 v.c] 23)) (.cells #[.int .i64 u.a, .int .i64 u.b, .int .i64 u.c] 23); simpa using this)
  have B3 : BX (w.heap.size + 1 + 1) zero3 (((w.alloc (.cells #[.int .i64 v.a, .int .i64 v.b, .int .i64 v.c] 23)).alloc (.cells #[.int .i64 u.a, .int .i64 u.b, .int .i64 u.c] 23)).alloc (.cells #[.int .i64 0, .int .i64 0, .int .i64 0] 23)) := blk3 _ _ _ _
  have HB0 := Lib.hid hb0
  have HX1 := Lib.hid B1
  have HX2 := Lib.hid B2
  have HX3 := Lib.hid B3
  clear hb0 B1 B2 B3
  go_enter Tryd.func8, Tryd.ntmps8
  go_wp2_with fail
  refine (R1.out _).mono ?_; rintro e w1 ⟨rfl, b1⟩
  have HB1 := Lib.hid (HB0.out.trans (b1.mono HB0.out.size))
  have HY1 := Lib.hid (bx_below HX1.out b1)
  have HY2 := Lib.hid (bx_below HX2.out b1)
  have HY3 := Lib.hid (bx_below HX3.out b1)
  clear b1 HX1 HX2 HX3 HB0
  have hcs : rightB v = false ∨ rightB v = true := by cases rightB v <;> simp
  rcases hcs with h1 | h1
  · rw [h1]
    obtain ⟨z0, z1, z2⟩ := bx_cells HY3.out
    obtain ⟨f0, f1, f2⟩ := bx_free HY3.out
    have HX := Lib.hid (show pairV (addV v u) (addB v u) = .returned (.tuple #[.agg #[.int .i64 0, .int .i64 0, .int .i64 0], .bool false]) by
      have : addB v u = false := by unfold addB; rw [h1]; simp
      unfold addV; rw [this]; rfl)
    clear h1
    go_wp2_with fail
    refine bodyPost_ret (cell_results2 rfl (bx_set HY3.out 0 0 0) rfl rfl) rfl ⟨?_, set3_below HB1.out (by omega) 0 0 0⟩
    rw [HX.out]; rfl
  · rw [h1]
    obtain ⟨y0, y1, y2⟩ := bx_cells HY2.out
    go_wp2_with fail
    refine (R2.out _).mono ?_; rintro e w2 ⟨rfl, b1⟩
    clear y0 y1 y2
    have HB1 := Lib.hid (HB1.out.trans (b1.mono HB1.out.size))
    have HY1 := Lib.hid (bx_below HY1.out b1)
    have HY2 := Lib.hid (bx_below HY2.out b1)
    have HY3 := Lib.hid (bx_below HY3.out b1)
    clear b1
    have hcs : rightB u = false ∨ rightB u = true := by cases rightB u <;> simp
    rcases hcs with h2 | h2
    · rw [h2]
      obtain ⟨z0, z1, z2⟩ := bx_cells HY3.out
      obtain ⟨f0, f1, f2⟩ := bx_free HY3.out
      have HX := Lib.hid (show pairV (addV v u) (addB v u) = .returned (.tuple #[.agg #[.int .i64 0, .int .i64 0, .int .i64 0], .bool false]) by
        have : addB v u = false := by unfold addB; rw [h2]; simp
        unfold addV; rw [this]; rfl)
      clear h2
      go_wp2_with fail
      refine bodyPost_ret (cell_results2 rfl (bx_set HY3.out 0 0 0) rfl rfl) rfl ⟨?_, set3_below HB1.out (by omega) 0 0 0⟩
      rw [HX.out]; rfl
    · rw [h2]
      obtain ⟨y0, y1, y2⟩ := bx_cells HY2.out
      obtain ⟨x0, x1, x2⟩ := bx_cells HY1.out
      have q1 := (rightB_iff v).1 h1
      have q2 := (rightB_iff u).1 h2
      have e1 : IntKind.i64.wrap (v.a + u.a) = v.a + u.a := IntWalk.i64_in _ (by omega)
      have e2 : IntKind.i64.wrap (v.b + u.b) = v.b + u.b := IntWalk.i64_in _ (by omega)
      have e3 : IntKind.i64.wrap (v.c + u.c) = v.c + u.c := IntWalk.i64_in _ (by omega)
      obtain ⟨⟨q11, q12⟩, ⟨q13, q14⟩, q15, q16⟩ := q1
      obtain ⟨⟨q21, q22⟩, ⟨q23, q24⟩, q25, q26⟩ := q2
      unfold sumV at F1
      dsimp only at F1
      go_wp2_with fail
      refine (F1.out _).mono ?_; rintro e w3 ⟨rfl, b1⟩
      have hba := (Below.refl w2.heap.size w2).alloc (Nat.le_refl _) (.cells #[.int .i64 (v.a + u.a), .int .i64 (v.b + u.b), .int .i64 (v.c + u.c)] 23)
      have hbc := hba.trans (b1.mono hba.size)
      have HY4 := Lib.hid (show BX w2.heap.size (sumV v u) w3 from (b1.block _ (by simp)).trans (blk_new w2 _))
      clear y0 y1 y2 x0 x1 x2 b1 hba
      have b1 := hbc
      clear hbc
      have HB1 := Lib.hid (HB1.out.trans (b1.mono HB1.out.size))
      have HY3 := Lib.hid (bx_below HY3.out b1)
      clear b1
      rw [show (V3.mk (v.a + u.a) (v.b + u.b) (v.c + u.c)) = sumV v u from rfl]
      have hcs : rightB (sumV v u) = false ∨ rightB (sumV v u) = true := by cases rightB (sumV v u) <;> simp
      obtain ⟨z0, z1, z2⟩ := bx_cells HY3.out
      obtain ⟨f0, f1, f2⟩ := bx_free HY3.out
      rcases hcs with h3 | h3
      · rw [h3]
        have HX := Lib.hid (show pairV (addV v u) (addB v u) = .returned (.tuple #[.agg #[.int .i64 0, .int .i64 0, .int .i64 0], .bool false]) by
          have : addB v u = false := by unfold addB; rw [h3]; simp
          unfold addV; rw [this]; rfl)
        clear h1 h2 h3
        go_wp2_with fail
        refine bodyPost_ret (cell_results2 rfl (bx_set HY3.out 0 0 0) rfl rfl) rfl ⟨?_, set3_below HB1.out (by omega) 0 0 0⟩
        rw [HX.out]; rfl
      · rw [h3]
        have ht : addB v u = true := (addB_iff v u).2 ⟨h1, h2, h3⟩
        have HX := Lib.hid (show pairV (addV v u) (addB v u) = .returned (.tuple #[.agg #[.int .i64 (v.a + u.a), .int .i64 (v.b + u.b), .int .i64 (v.c + u.c)], .bool true]) by
          unfold addV; rw [ht]; rfl)
        obtain ⟨x0, x1, x2⟩ := bx_cells HY4.out
        unfold sumV at x0 x1 x2
        dsimp only at x0 x1 x2
        clear h1 h2 h3 ht
        go_wp2_with fail
        refine bodyPost_ret (cell_results2 rfl (bx_set HY3.out (v.a + u.a) (v.b + u.b) (v.c + u.c)) rfl rfl) rfl ⟨?_, set3_below HB1.out (by omega) _ _ _⟩
        rw [HX.out]; rfl
set_option maxHeartbeats 1000000 in
theorem r8text_any (v : V3) (w : World) (hv : v.ok) :
    Calls Tryd.prog 23 #[v.val] w fun e w' => e = .returned (.string (bs (text3 v))) ∧ Below w.heap.size w w' := by
  obtain ⟨g0, g1, g2⟩ := res_cell w v
  have hb := (Below.refl w.heap.size w).alloc (Nat.le_refl _) (.cells v.cells 23)
  have HB := Lib.hid (hb.alloc hb.size (.cells #[.int .i64 v.a, .int .i64 v.b, .int .i64 v.c] 3))
  have L1 := Lib.hid fun w x B h => rlist_any x v.list B w (by simp [V3.list]) (by intro n hn; simp [V3.list] at hn; rcases hn with rfl | rfl | rfl; exact hv.1; exact hv.2.1; exact hv.2.2) h
  clear hb
  have hrd := rd_liti (w.alloc (.cells v.cells 23)) v.list #[.int .i64 v.a, .int .i64 v.b, .int .i64 v.c] rfl (by simp [V3.list])
  have HRD := Lib.hid hrd
  unfold V3.val
  unfold V3.cells at g0 g1 g2 HB HRD
  clear hrd
  go_enter Tryd.func23, Tryd.ntmps23
  go_wp2_with fail
  have hrd := HRD.out
  rw [show (w.alloc (.cells #[.int .i64 v.a, .int .i64 v.b, .int .i64 v.c] 23)).heap.size = w.heap.size + 1 by simp] at hrd
  refine (L1.out _ _ _ hrd).mono ?_; rintro e w1 ⟨rfl, rfl⟩
  go_wp2_with fail
  go_ret
  exact ⟨rfl, HB.out⟩
set_option maxHeartbeats 2000000 in
theorem r8parse_any (s : ByteArray) (w : World) (hs : s.size ≤ 100000) :
    Calls Tryd.prog 21 #[.string s] w fun e w' => e = .returned (.tuple #[(parse3V s.data.toList).val, .int .i64 (parse3E s.data.toList)]) ∧ Below w.heap.size w w' := by
  have P1 := fun w => rplist_any s 3 w hs
  unfold PlR at P1
  have hb := (Below.refl w.heap.size w).alloc (Nat.le_refl _) (.cells #[.int .i64 0, .int .i64 0, .int .i64 0] 23)
  have HB := Lib.hid hb
  have HZ := Lib.hid (show BX w.heap.size zero3 (w.alloc (.cells #[.int .i64 0, .int .i64 0, .int .i64 0] 23)) from blk_new w _)
  clear hb
  by_cases he : parse3E s.data.toList = 0
  · obtain ⟨a, b, c, h1, ha, hb, hc⟩ := plV_three he
    have HX := Lib.hid (show Ending.returned (.tuple #[(parse3V s.data.toList).val, .int .i64 (parse3E s.data.toList)]) = .returned (.tuple #[.agg #[.int .i64 a, .int .i64 b, .int .i64 c], .int .i64 0]) by
      rw [he]; unfold parse3V; rw [h1]; rfl)
    have he2 : plE s.data.toList 3 = 0 := he
    rw [he2, h1] at P1
    have P1 := Lib.hid P1
    clear h1 he he2 ha hb hc
    go_enter Tryd.func21, Tryd.ntmps21
    go_wp2_with fail
    refine (P1.out _).mono ?_; rintro e w1 ⟨v, rfl, hr, b1⟩
    obtain ⟨A, cp, rfl, _, _⟩ := hr.form
    obtain ⟨bb, o, rfl, _, hx⟩ := hr.at_ (k := 0) (by rw [ints_len]; simp)
    have g0 : w1.cell? ⟨bb, o, none⟩ = some (.int .i64 a) := by have := hx 0 (by rw [ints_len]; simp); simpa [ints] using this
    have g1 : w1.cell? ⟨bb, o + 1, none⟩ = some (.int .i64 b) := by have := hx 1 (by rw [ints_len]; simp); simpa [ints] using this
    have g2 : w1.cell? ⟨bb, o + 2, none⟩ = some (.int .i64 c) := by have := hx 2 (by rw [ints_len]; simp); simpa [ints] using this
    have HB1 := Lib.hid (HB.out.trans (b1.mono HB.out.size))
    have HZ1 := Lib.hid (bx_below HZ.out b1)
    rw [ints_len, show ([a, b, c] : List Int).length = 3 from rfl]
    clear hr b1 hx
    have hz1 := HZ1.out
    obtain ⟨z0, z1, z2⟩ := bx_cells hz1
    obtain ⟨f0, f1, f2⟩ := bx_free hz1
    clear hz1
    go_wp2_with fail
    go_still_tail 10, (by kernel_rfl)
    change wpList _ _ _ _ _ w1.drew
    have HB2 := Lib.hid (HB1.out.drew)
    have HZ2 := Lib.hid (show BX w.heap.size zero3 w1.drew from HZ1.out)
    clear z0 z1 z2 f0 f1 f2
    generalize w1.drew = w2 at *
    have hz2 := HZ2.out
    obtain ⟨z0, z1, z2⟩ := bx_cells hz2
    obtain ⟨f0, f1, f2⟩ := bx_free hz2
    clear hz2
    go_wp2_with fail
    refine bodyPost_ret (cell_results2 rfl (bx_set HZ2.out a b c) rfl rfl) rfl ⟨?_, set3_below HB2.out (Nat.le_refl _) a b c⟩
    rw [HX.out]; rfl
  · have hbd := parse3_bad he
    have HX := Lib.hid (show Ending.returned (.tuple #[(parse3V s.data.toList).val, .int .i64 (parse3E s.data.toList)]) = .returned (.tuple #[.agg #[.int .i64 0, .int .i64 0, .int .i64 0], .int .i64 2]) by
      rw [hbd.1, hbd.2]; rfl)
    have he2 : plE s.data.toList 3 = 2 := hbd.1
    rw [he2] at P1
    have P1 := Lib.hid P1
    clear he he2 hbd
    go_enter Tryd.func21, Tryd.ntmps21
    go_wp2_with fail
    refine (P1.out _).mono ?_; rintro e w1 ⟨v, rfl, hr, b1⟩
    have HB1 := Lib.hid (HB.out.trans (b1.mono HB.out.size))
    have hz1 := bx_below HZ.out b1
    obtain ⟨z0, z1, z2⟩ := bx_cells hz1
    obtain ⟨f0, f1, f2⟩ := bx_free hz1
    have HZ1 := Lib.hid hz1
    clear hr b1 hz1
    go_wp2_with fail
    refine bodyPost_ret (cell_results2 rfl (bx_set HZ1.out 0 0 0) rfl rfl) rfl ⟨?_, set3_below HB1.out (Nat.le_refl _) 0 0 0⟩
    rw [HX.out]; rfl
end Go.Proofs.YtgiofaccigkfjaaDoor
