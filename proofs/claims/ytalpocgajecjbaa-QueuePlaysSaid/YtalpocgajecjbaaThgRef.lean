/- What the document's own answers for things with keys come to: Less, ahead, Find. Conditions: numbers that an int holds. -/
import Derived.Test.YtalpocgajecjbaaPlains
import Derived.Test.YtalpocgajecjbaaRdm
import Derived.Test.YtalpocgajecjbaaSame
import Derived.Test.YtalpocgajecjbaaHolds
import Derived.ChangeKeysEq
import Derived.Laws.StructEq
namespace Go.Proofs.Ytalpocgajecjbaa
open Go.ChangeShapes Go.WideShapes Go.ChangeAt Go.RowKit
set_option linter.unusedVariables false
set_option maxRecDepth 100000
set_option linter.unusedSimpArgs false

/-- Two keys that were boxed, one behind the other. -/
def twoK (w : World) (v u : V3) : World := (w.alloc (.cells v.cells 55)).alloc (.cells u.cells 55)
theorem key_cells (w : World) (v u : V3) :
    (twoK w v u).cell? ⟨w.heap.size, 0, none⟩ = some (.int .i64 v.a) ∧ (twoK w v u).cell? ⟨w.heap.size, 1, none⟩ = some (.int .i64 v.b) ∧ (twoK w v u).cell? ⟨w.heap.size, 2, none⟩ = some (.int .i64 v.c) ∧
    (twoK w v u).cell? ⟨w.heap.size + 1, 0, none⟩ = some (.int .i64 u.a) ∧ (twoK w v u).cell? ⟨w.heap.size + 1, 1, none⟩ = some (.int .i64 u.b) ∧ (twoK w v u).cell? ⟨w.heap.size + 1, 2, none⟩ = some (.int .i64 u.c) := by
  have h1 := blk_old (.cells u.cells 55) (blk_new w (.cells v.cells 55))
  have h2 := blk_new (w.alloc (.cells v.cells 55)) (.cells u.cells 55)
  have e : (w.alloc (.cells v.cells 55)).heap.size = w.heap.size + 1 := by simp
  rw [e] at h2
  exact ⟨blk_cell h1 0, blk_cell h1 1, blk_cell h1 2, blk_cell h2 0, blk_cell h2 1, blk_cell h2 2⟩
theorem twoK_below (w : World) (v u : V3) : Below w.heap.size w (twoK w v u) := ((Below.refl w.heap.size w).alloc (Nat.le_refl _) _).alloc (by simp) _
theorem below_drewK {B : Nat} {a w : World} (h : Below B a w) (n : Nat) : Below B a (w.drewN n) := ⟨h.os, h.tape, h.output, h.size, h.block⟩
theorem eqK_run (w : World) (v u : V3) :
    (Op.equalIn 10000 55 (.agg #[.int .i64 v.a, .int .i64 v.b, .int .i64 v.c]) (.agg #[.int .i64 u.a, .int .i64 u.b, .int .i64 u.c])).run Try.prog w = .ok (eq3 v u) w := by
  obtain ⟨i, hi, hz0, hz1, hz2⟩ := info_parts infoI64
  have h := run_equalIn_array (P := Try.prog) (w := w) 9999 (t := 55) (e := 3) (n := 3) #[.int .i64 v.a, .int .i64 v.b, .int .i64 v.c] #[.int .i64 u.a, .int .i64 u.b, .int .i64 u.c] (by kernel_rfl) hi
  rw [show Try.prog.cellsOf 3 = 1 by kernel_rfl, show List.range 3 = [0, 1, 2] from rfl] at h
  refine Eq.trans h ?_
  have hu : Try.prog.underlying 3 = some (.int .i64) := Try.underlying3
  unfold eq3
  cases h1 : v.a == u.a <;> cases h2 : v.b == u.b <;> cases h3 : v.c == u.c <;>
  simp [Op.eqItems, part, go_sem, hi, hz1, hu, h1, h2, h3]
theorem blk_two (w : World) (o1 o2 : Obj) : ((w.alloc o1).alloc o2).heap[w.heap.size]? = some o1 ∧ ((w.alloc o1).alloc o2).heap[w.heap.size + 1]? = some o2 :=
  ⟨blk_old _ (blk_new w _), by have := blk_new (w.alloc o1) o2; simpa using this⟩
theorem row_four (x : Thg) : ∀ u ∈ x.row, u.oneCell' = true := by
  intro u hu
  simp [Thg.row] at hu
  rcases hu with rfl | rfl | rfl | rfl <;> rfl
/-- A result that is a slice of things. -/
def ThgsR (l : List Thg) (w : World) (e : Ending) (w' : World) : Prop :=
  ∃ v, e = .returned v ∧ RdK 4 w' (fun b => w.heap.size ≤ b) v (rowsT l) ∧ Below w.heap.size w w' ∧ (v = .slice none 0 0 ∨ ∃ b o n c, v = .slice (some ⟨b, o, none⟩) n c)
theorem own_form {w : World} {base m n : Nat} {e : TypeId} {v : Value} {xs : List Value} (h : w.ownsRow base e m v n xs) : v = .slice none 0 0 ∨ ∃ b o n c, v = .slice (some ⟨b, o, none⟩) n c := by
  rcases h.2 with ⟨h, _⟩ | ⟨g, cap, cur, h, _⟩
  · exact Or.inl h
  · exact Or.inr ⟨g, 0, n, cap, h⟩
end Go.Proofs.Ytalpocgajecjbaa
