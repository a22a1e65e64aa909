/- Vectors in structs, compared. Conditions: none. -/
import Derived.Test.YtgooepfhapaenaaGreatResRef
import Derived.Laws.StructEq
namespace Go.Proofs.YtgooepfhapaenaaGreat
open Go.ChangeShapes Go.WideShapes Go.ChangeAt Go.RowKit
set_option linter.unusedVariables false
set_option maxRecDepth 100000
set_option linter.unusedSimpArgs false
set_option maxHeartbeats 2000000

theorem eqRes_run (w : World) (v u : V3) :
    (Op.equalIn 9999 23 (.agg #[.int .i64 v.a, .int .i64 v.b, .int .i64 v.c]) (.agg #[.int .i64 u.a, .int .i64 u.b, .int .i64 u.c])).run Tryz.prog w = .ok (eq3 v u) w := by
  obtain ⟨i, hi, hz0, hz1, hz2⟩ := info_parts infoI64
  have h := run_equalIn_array (P := Tryz.prog) (w := w) 9998 (t := 23) (e := 3) (n := 3) #[.int .i64 v.a, .int .i64 v.b, .int .i64 v.c] #[.int .i64 u.a, .int .i64 u.b, .int .i64 u.c] (by kernel_rfl) hi
  rw [show Tryz.prog.cellsOf 3 = 1 by kernel_rfl, show List.range 3 = [0, 1, 2] from rfl] at h
  refine Eq.trans h ?_
  have hu : Tryz.prog.underlying 3 = some (.int .i64) := Tryz.underlying3
  unfold eq3
  cases h1 : v.a == u.a <;> cases h2 : v.b == u.b <;> cases h3 : v.c == u.c <;>
  simp [Op.eqItems, part, go_sem, hi, hz1, hu, h1, h2, h3]
theorem infoRes : ∃ i, Tryz.prog.info? 23 = some i ∧ i.size = 3 := by
  have h : (Tryz.prog.info? 23).map (fun i => i.size) = some 3 := by kernel_rfl
  cases hi : Tryz.prog.info? 23 with
  | none => rw [hi] at h; cases h
  | some i => rw [hi] at h; exact ⟨i, rfl, by simpa using h⟩
theorem eqResD (d : Nat) (w : World) (v u : V3) :
    (Op.equalIn (d + 2) 23 (.agg #[.int .i64 v.a, .int .i64 v.b, .int .i64 v.c]) (.agg #[.int .i64 u.a, .int .i64 u.b, .int .i64 u.c])).run Tryz.prog w = .ok (eq3 v u) w := by
  obtain ⟨i, hi, hz0, hz1, hz2⟩ := info_parts infoI64
  have h := run_equalIn_array (P := Tryz.prog) (w := w) (d + 1) (t := 23) (e := 3) (n := 3) #[.int .i64 v.a, .int .i64 v.b, .int .i64 v.c] #[.int .i64 u.a, .int .i64 u.b, .int .i64 u.c] (by kernel_rfl) hi
  rw [show Tryz.prog.cellsOf 3 = 1 by kernel_rfl, show List.range 3 = [0, 1, 2] from rfl] at h
  refine Eq.trans h ?_
  have hu : Tryz.prog.underlying 3 = some (.int .i64) := Tryz.underlying3
  unfold eq3
  cases h1 : v.a == u.a <;> cases h2 : v.b == u.b <;> cases h3 : v.c == u.c <;>
  simp [Op.eqItems, part, go_sem, hi, hz1, hu, h1, h2, h3]
theorem eq3_self (a : V3) : eq3 a a = true := by simp [eq3]
end Go.Proofs.YtgooepfhapaenaaGreat
