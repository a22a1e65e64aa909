/- What the document's own answers for vectors come to. Conditions: numbers that an int holds. -/
import Derived.Test.YtgooepfhapaenaaPlains
import Derived.Test.YtgooepfhapaenaaDecRef2
import Derived.Deep.QuietTactic
import Derived.BigQuiet
namespace Go.Proofs.Ytgooepfhapaenaa
open Go.ChangeShapes Go.WideShapes Go.ChangeAt Go.RowKit
set_option linter.unusedVariables false
set_option maxRecDepth 100000
set_option linter.unusedSimpArgs false

theorem res_cell (w : World) (v : V3) : (w.alloc (.cells v.cells 23)).cell? ⟨w.heap.size, 0, none⟩ = some (.int .i64 v.a) ∧ (w.alloc (.cells v.cells 23)).cell? ⟨w.heap.size, 1, none⟩ = some (.int .i64 v.b) ∧ (w.alloc (.cells v.cells 23)).cell? ⟨w.heap.size, 2, none⟩ = some (.int .i64 v.c) :=
  ⟨blk_cell (blk_new w (.cells v.cells 23)) 0, blk_cell (blk_new w (.cells v.cells 23)) 1, blk_cell (blk_new w (.cells v.cells 23)) 2⟩
/-- Two vectors that were boxed, one behind the other. -/
def two (w : World) (v u : V3) : World := (w.alloc (.cells v.cells 23)).alloc (.cells u.cells 23)
theorem res_cells (w : World) (v u : V3) :
    (two w v u).cell? ⟨w.heap.size, 0, none⟩ = some (.int .i64 v.a) ∧ (two w v u).cell? ⟨w.heap.size, 1, none⟩ = some (.int .i64 v.b) ∧ (two w v u).cell? ⟨w.heap.size, 2, none⟩ = some (.int .i64 v.c) ∧
    (two w v u).cell? ⟨w.heap.size + 1, 0, none⟩ = some (.int .i64 u.a) ∧ (two w v u).cell? ⟨w.heap.size + 1, 1, none⟩ = some (.int .i64 u.b) ∧ (two w v u).cell? ⟨w.heap.size + 1, 2, none⟩ = some (.int .i64 u.c) := by
  have h1 := blk_old (.cells u.cells 23) (blk_new w (.cells v.cells 23))
  have h2 := blk_new (w.alloc (.cells v.cells 23)) (.cells u.cells 23)
  have e : (w.alloc (.cells v.cells 23)).heap.size = w.heap.size + 1 := by simp
  rw [e] at h2
  exact ⟨blk_cell h1 0, blk_cell h1 1, blk_cell h1 2, blk_cell h2 0, blk_cell h2 1, blk_cell h2 2⟩
theorem two_below (w : World) (v u : V3) : Below w.heap.size w (two w v u) := ((Below.refl w.heap.size w).alloc (Nat.le_refl _) _).alloc (by simp) _
theorem below_drewR {B : Nat} {a w : World} (h : Below B a w) (n : Nat) : Below B a (w.drewN n) := ⟨h.os, h.tape, h.output, h.size, h.block⟩
/-- A vector that is a result, out of its block. -/
theorem cell_results {fn : Func} {t : Tmp} (hr : fn.results = #[.cell t 23]) {tmps : Array Value} {w : World} {g : Nat} {cs : Array Value} (hg : w.heap[g]? = some (.cells cs 23 (0, 0))) (hs : cs.size = 3) (hp : tmps.getD t undef = .pointer (some ⟨g, 0, none⟩)) :
    (results fn tmps).run Try.prog w = .ok (.agg cs) w := by
  have hl := run_loadVar_row (P := Try.prog) w g _ 23 cs (0, 0) (.array 3 3) hg (by kernel_rfl) rfl (by rw [hs]; kernel_rfl)
  have hp' : tmps[t]?.getD undef = .pointer (some ⟨g, 0, none⟩) := by simpa using hp
  simp [results, hr, hp', asAddr, hl]
theorem cell_results2 {fn : Func} {t s : Tmp} (hr : fn.results = #[.cell t 23, .tmp s]) {tmps : Array Value} {w : World} {g : Nat} {cs : Array Value} (hg : w.heap[g]? = some (.cells cs 23 (0, 0))) (hs : cs.size = 3) (hp : tmps.getD t undef = .pointer (some ⟨g, 0, none⟩)) :
    (results fn tmps).run Try.prog w = .ok (.tuple #[.agg cs, tmps.getD s undef]) w := by
  have hl := run_loadVar_row (P := Try.prog) w g _ 23 cs (0, 0) (.array 3 3) hg (by kernel_rfl) rfl (by rw [hs]; kernel_rfl)
  have hp' : tmps[t]?.getD undef = .pointer (some ⟨g, 0, none⟩) := by simpa using hp
  simp [results, hr, hp', asAddr, hl]
theorem agg3 {a b c a' b' c' : Int} (h1 : a = a') (h2 : b = b') (h3 : c = c') : Ending.returned (.agg #[.int .i64 a, .int .i64 b, .int .i64 c]) = Ending.returned (.agg #[.int .i64 a', .int .i64 b', .int .i64 c']) := by rw [h1, h2, h3]
theorem blk3 (w : World) (o1 o2 o3 : Obj) : (((w.alloc o1).alloc o2).alloc o3).heap[w.heap.size + 1 + 1]? = some o3 := by
  have := blk_new ((w.alloc o1).alloc o2) o3
  simpa using this
/-- A block that holds a vector. -/
def BX (b : Nat) (v : V3) (w : World) : Prop := w.heap[b]? = some (.cells #[.int .i64 v.a, .int .i64 v.b, .int .i64 v.c] 23 (0, 0))
theorem bx_cells {b : Nat} {v : V3} {w : World} (h : BX b v w) : w.cell? ⟨b, 0, none⟩ = some (.int .i64 v.a) ∧ w.cell? ⟨b, 1, none⟩ = some (.int .i64 v.b) ∧ w.cell? ⟨b, 2, none⟩ = some (.int .i64 v.c) := ⟨blk_cell h 0, blk_cell h 1, blk_cell h 2⟩
theorem bx_below {b : Nat} {v : V3} {w w' : World} (h : BX b v w) (hb : Below w.heap.size w w') : BX b v w' := (hb.block b (lt_of_block h)).trans h
theorem bx_free {b : Nat} {v : V3} {w : World} (h : BX b v w) : w.frozen? ⟨b, 0, none⟩ = false ∧ w.frozen? ⟨b, 1, none⟩ = false ∧ w.frozen? ⟨b, 2, none⟩ = false := ⟨blk_free h 0, blk_free h 1, blk_free h 2⟩
def set3 (w : World) (b : Nat) (x y z : Int) : World := ((w.setCell ⟨b, 0, none⟩ (.int .i64 x)).setCell ⟨b, 1, none⟩ (.int .i64 y)).setCell ⟨b, 2, none⟩ (.int .i64 z)
theorem bx_set {b : Nat} {v : V3} {w : World} (h : BX b v w) (x y z : Int) : (set3 w b x y z).heap[b]? = some (.cells #[.int .i64 x, .int .i64 y, .int .i64 z] 23 (0, 0)) := by
  unfold BX at h
  have h1 := blk_set h 0 (.int .i64 x)
  have h2 := blk_set h1 1 (.int .i64 y)
  have h3 := blk_set h2 2 (.int .i64 z)
  exact h3
theorem set3_below {B b : Nat} {a w : World} (h : Below B a w) (hB : B ≤ b) (x y z : Int) : Below B a (set3 w b x y z) :=
  ((h.setCell (p := ⟨b, 0, none⟩) hB _).setCell (p := ⟨b, 1, none⟩) hB _).setCell (p := ⟨b, 2, none⟩) hB _
def pairV (v : V3) (b : Bool) : Ending := .returned (.tuple #[v.val, .bool b])
end Go.Proofs.Ytgooepfhapaenaa
