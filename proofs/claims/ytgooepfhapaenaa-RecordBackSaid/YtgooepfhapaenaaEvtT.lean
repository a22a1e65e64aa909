/- What the document's own names and numbers of events come to. Conditions: numbers that an int holds. -/
import Derived.Test.YtgooepfhapaenaaProg
import Derived.Test.YtgooepfhapaenaaEvtPlain
import Derived.Test.YtgooepfhapaenaaRdI
import Derived.Test.YtgooepfhapaenaaSame
import Derived.Test.YtgooepfhapaenaaHolds
import Derived.Test.YtgooepfhapaenaaHoldV
import Derived.Test.YtgooepfhapaenaaSetR
import Derived.Test.YtgooepfhapaenaaHoldT
import Derived.Test.YtgooepfhapaenaaEqRes
import Derived.Laws.StructEq
namespace Go.Proofs.Ytgooepfhapaenaa
open Go.ChangeShapes Go.WideShapes Go.ChangeAt Go.RowKit
set_option linter.unusedVariables false
set_option maxRecDepth 100000
set_option linter.unusedSimpArgs false
set_option maxHeartbeats 2000000
/-- A letter of a text. -/
theorem letter_at (ls : List UInt8) (m : Nat) (h : m < ls.length) (c : UInt8) (hc : ls[m] = c) (w : World) :
    (Instr.index 9 (.string (bs ls)) (.int .i64 (m : Int))).run Try.prog w = .ok (.int .u8 c.toNat) w := by
  have hs : m < (bs ls).size := by rw [bs_size]; exact h
  rw [ix_at w 9 (bs ls) m hs (by kernel_rfl)]
  have : (bs ls)[m]'hs = c := by rw [← hc]; simp [bs, ByteArray.getElem_eq_getElem_data]
  rw [this]
theorem letter5 (c : UInt8) : (c = 78 ∨ c = 73 ∨ c = 74 ∨ c = 80) ∨ (c ≠ 78 ∧ c ≠ 73 ∧ c ≠ 74 ∧ c ≠ 80) := by
  by_cases h1 : c = 78; · exact .inl (.inl h1)
  by_cases h2 : c = 73; · exact .inl (.inr (.inl h2))
  by_cases h3 : c = 74; · exact .inl (.inr (.inr (.inl h3)))
  by_cases h4 : c = 80; · exact .inl (.inr (.inr (.inr h4)))
  exact .inr ⟨h1, h2, h3, h4⟩
theorem toNat_ne {c d : UInt8} (h : c ≠ d) : ((c.toNat : Int) == (d.toNat : Int)) = false := by
  have : ¬ (c.toNat : Int) = (d.toNat : Int) := fun e => h (UInt8.toNat_inj.1 (by omega))
  simpa using this
theorem numsE_step (v : Evt) (ls : List UInt8) (m : Nat) (h : m < ls.length) : numsE v (ls.take (m + 1)) = numsE v (ls.take m) ++ fieldE v ls[m] := by
  unfold numsE
  rw [List.take_succ_eq_append_getElem h, List.flatMap_append]
  simp
end Go.Proofs.Ytgooepfhapaenaa
/- What the document's own Made, Pure of events come to. Conditions: numbers that an int holds; as many numbers as the kind has. -/
namespace Go.Proofs.Ytgooepfhapaenaa
open Go.ChangeShapes Go.WideShapes Go.ChangeAt Go.RowKit
set_option linter.unusedVariables false
set_option maxRecDepth 100000
set_option linter.unusedSimpArgs false
set_option maxHeartbeats 2000000

/-- An event's block, cell by cell. -/
theorem evt_cells {w : World} {b : Nat} {v : Evt} {t : TypeId} (h : w.heap[b]? = some (.cells v.cells t (0, 0))) : w.cell? ⟨b, 0, none⟩ = some (.int .i64 v.k) ∧ w.cell? ⟨b, 1, none⟩ = some (.int .i64 v.n) ∧ w.cell? ⟨b, 2, none⟩ = some (.int .i64 v.j) ∧ w.cell? ⟨b, 3, none⟩ = some (.int .i64 v.i) ∧ w.cell? ⟨b, 4, none⟩ = some (.int .i64 v.p) ∧ w.cell? ⟨b, 5, none⟩ = some (.int .i64 v.r.a) ∧ w.cell? ⟨b, 6, none⟩ = some (.int .i64 v.r.b) ∧ w.cell? ⟨b, 7, none⟩ = some (.int .i64 v.r.c) :=
  ⟨blk_cell h 0, blk_cell h 1, blk_cell h 2, blk_cell h 3, blk_cell h 4, blk_cell h 5, blk_cell h 6, blk_cell h 7⟩
theorem evt_free {w : World} {b : Nat} {v : Evt} {t : TypeId} (h : w.heap[b]? = some (.cells v.cells t (0, 0))) : w.frozen? ⟨b, 0, none⟩ = false ∧ w.frozen? ⟨b, 1, none⟩ = false ∧ w.frozen? ⟨b, 2, none⟩ = false ∧ w.frozen? ⟨b, 3, none⟩ = false ∧ w.frozen? ⟨b, 4, none⟩ = false ∧ w.frozen? ⟨b, 5, none⟩ = false ∧ w.frozen? ⟨b, 6, none⟩ = false ∧ w.frozen? ⟨b, 7, none⟩ = false :=
  ⟨blk_free h 0, blk_free h 1, blk_free h 2, blk_free h 3, blk_free h 4, blk_free h 5, blk_free h 6, blk_free h 7⟩
/-- An event's block written all over. -/
abbrev evtW (w : World) (b : Nat) (v : Evt) : World := setRow w b 0 v.row
theorem evt_set {w : World} {b : Nat} {u v : Evt} {t : TypeId} (h : w.heap[b]? = some (.cells u.cells t (0, 0))) : (evtW w b v).heap[b]? = some (.cells v.cells t (0, 0)) := setRow_all v.row h rfl
theorem evt_only (w : World) (b : Nat) (v : Evt) : Only b w (evtW w b v) := setRow_only b _ _ _
theorem manyE_take (ls : List UInt8) (m : Nat) (h : m < ls.length) : manyE (ls.take (m + 1)) = manyE (ls.take m) + wideE ls[m] ∧ manyE (ls.take m) + wideE ls[m] ≤ manyE ls := by
  have e1 : manyE (ls.take (m + 1)) = manyE (ls.take m) + wideE ls[m] := by
    unfold manyE
    rw [List.take_succ_eq_append_getElem h, List.map_append, List.sum_append]
    simp
  refine ⟨e1, ?_⟩
  rw [← e1]
  unfold manyE
  conv => rhs; rw [← List.take_append_drop (m + 1) ls, List.map_append, List.sum_append]
  omega
/-- A round of Made. -/
theorem fill_step {ls : List UInt8} {l : List Int} {ev x : Evt} {m : Nat} (h : m < ls.length) (hf : fillE (ls.drop m) (l.drop (manyE (ls.take m))) ev = x) : fillE (ls.drop (m + 1)) (l.drop (manyE (ls.take (m + 1)))) (putF ev ls[m] (l.drop (manyE (ls.take m)))) = x := by
  rw [List.drop_eq_getElem_cons h] at hf
  unfold fillE at hf
  rw [List.drop_drop] at hf
  rw [(manyE_take ls m h).1]
  exact hf
end Go.Proofs.Ytgooepfhapaenaa
/- What the document's own Pure, Check of events come to. Conditions: numbers that an int holds. -/
namespace Go.Proofs.Ytgooepfhapaenaa
open Go.ChangeShapes Go.WideShapes Go.ChangeAt Go.RowKit
set_option linter.unusedVariables false
set_option maxRecDepth 100000
set_option linter.unusedSimpArgs false
set_option maxHeartbeats 2000000

theorem eqE_run (w : World) (a b : Evt) :
    (Op.equalIn 10000 25 (.agg #[.int .i64 a.k, .int .i64 a.n, .int .i64 a.j, .int .i64 a.i, .int .i64 a.p, .int .i64 a.r.a, .int .i64 a.r.b, .int .i64 a.r.c]) (.agg #[.int .i64 b.k, .int .i64 b.n, .int .i64 b.j, .int .i64 b.i, .int .i64 b.p, .int .i64 b.r.a, .int .i64 b.r.b, .int .i64 b.r.c])).run Try.prog w = .ok (eqE a b) w := by
  have hu : Try.prog.underlying 3 = some (.int .i64) := Try.underlying3
  have hf : Try.prog.underlying 25 = some (.struct (Try.prog.fieldsOf 25)) := by kernel_rfl
  obtain ⟨i, hi, hz0, hz1, hz2⟩ := info_parts infoI64
  obtain ⟨ir, hir, hr1⟩ := infoRes
  have hr := eqRes_run w a.r b.r
  rw [run_equalIn_agg w 9999 25 _ _ hf (by kernel_rfl)]
  unfold eqE
  have hag : (isAgg 23).run Try.prog w = .ok true w := by kernel_rfl
  cases h1 : a.k == b.k
  · simp [Op.eqFields, Program.fieldsOf, Try.underlying25, part, go_sem, hi, hz1, hu, h1]
  cases h2 : a.n == b.n
  · simp [Op.eqFields, Program.fieldsOf, Try.underlying25, part, go_sem, hi, hz1, hu, h1, h2]
  cases h3 : a.j == b.j
  · simp [Op.eqFields, Program.fieldsOf, Try.underlying25, part, go_sem, hi, hz1, hu, h1, h2, h3]
  cases h4 : a.i == b.i
  · simp [Op.eqFields, Program.fieldsOf, Try.underlying25, part, go_sem, hi, hz1, hu, h1, h2, h3, h4]
  cases h5 : a.p == b.p
  · simp [Op.eqFields, Program.fieldsOf, Try.underlying25, part, go_sem, hi, hz1, hu, h1, h2, h3, h4, h5]
  simp [Op.eqFields, Program.fieldsOf, Try.underlying25, part, go_sem, hi, hz1, hir, hr1, hu, hag, h1, h2, h3, h4, h5, hr]
  cases eq3 a.r b.r <;> rfl
/-- Pure's region that draws: what holds where so many of the chain have come up. -/
def PuC (w0 : World) (v x : Evt) (p : Nat) (w : World) : Prop :=
  w.heap[w0.heap.size]? = some (.cells v.cells 25 (0, 0)) ∧ Below w0.heap.size w0 w ∧ (p ≤ 2 → w.heap[w0.heap.size + 1]? = some (.cells zeroE.cells 25 (0, 0))) ∧ (3 ≤ p → w.heap[w0.heap.size + 1]? = some (.cells x.cells 25 (0, 0)))
theorem then_qe {K : Act → World → Prop} {Q : Exit → Act → World → Prop} {a : Act} {w : World} (h : K a w) : Exit.then K Q .normal a w := h
theorem neE_run (w : World) (a b : Evt) : (binOp .neq 25 a.val b.val).run Try.prog w = .ok (.bool (!eqE a b)) w := by
  unfold Evt.val
  rw [run_neq_struct, eqE_run]
  rfl
theorem neE_guard (w : World) (a b : Evt) (x y : Operand) : (eqGuard .neq 25 x y a.val b.val).run Try.prog w = .ok () w := run_eqGuard_agg w .neq 25 x y _ _ (by kernel_rfl)
theorem letters_mem (k : Int) : ∀ c ∈ lettersE k, c = 78 ∨ c = 73 ∨ c = 74 ∨ c = 80 ∨ c = 82 := by
  rcases letters_cases k with ⟨_, e⟩ | ⟨_, e⟩ | ⟨_, e⟩ | ⟨_, e⟩ | ⟨_, e⟩ | ⟨_, e⟩ | ⟨_, e⟩ | ⟨_, e⟩ <;> rw [e] <;> decide
end Go.Proofs.Ytgooepfhapaenaa
