/- Records in memory: cells, rows written, compared. Conditions: none. -/
import Derived.Test.YtgooepfhapaenaaRecPlain
import Derived.Test.YtgooepfhapaenaaEvtT
import Derived.Test.YtgooepfhapaenaaFrmRef
import Derived.Test.YtgooepfhapaenaaEvtV
namespace Go.Proofs.Ytgooepfhapaenaa
open Go.ChangeShapes Go.WideShapes Go.ChangeAt Go.RowKit
set_option linter.unusedVariables false
set_option maxRecDepth 100000
set_option linter.unusedSimpArgs false
set_option maxHeartbeats 2000000

theorem rec_cells {w : World} {b : Nat} {r : Rec} {t : TypeId} (h : w.heap[b]? = some (.cells r.cells t (0, 0))) :
    w.cell? ⟨b, 0, none⟩ = some (.int .i64 r.s) ∧ w.cell? ⟨b, 1, none⟩ = some (.int .i64 r.e) ∧ w.cell? ⟨b, 2, none⟩ = some (.int .i64 r.v.k) ∧ w.cell? ⟨b, 3, none⟩ = some (.int .i64 r.v.n) ∧ w.cell? ⟨b, 4, none⟩ = some (.int .i64 r.v.j) ∧ w.cell? ⟨b, 5, none⟩ = some (.int .i64 r.v.i) ∧
    w.cell? ⟨b, 6, none⟩ = some (.int .i64 r.v.p) ∧ w.cell? ⟨b, 7, none⟩ = some (.int .i64 r.v.r.a) ∧ w.cell? ⟨b, 8, none⟩ = some (.int .i64 r.v.r.b) ∧ w.cell? ⟨b, 9, none⟩ = some (.int .i64 r.v.r.c) :=
  ⟨blk_cell h 0, blk_cell h 1, blk_cell h 2, blk_cell h 3, blk_cell h 4, blk_cell h 5, blk_cell h 6, blk_cell h 7, blk_cell h 8, blk_cell h 9⟩
theorem rec_free {w : World} {b : Nat} {r : Rec} {t : TypeId} (h : w.heap[b]? = some (.cells r.cells t (0, 0))) :
    w.frozen? ⟨b, 0, none⟩ = false ∧ w.frozen? ⟨b, 1, none⟩ = false ∧ w.frozen? ⟨b, 2, none⟩ = false ∧ w.frozen? ⟨b, 3, none⟩ = false ∧ w.frozen? ⟨b, 4, none⟩ = false ∧ w.frozen? ⟨b, 5, none⟩ = false ∧ w.frozen? ⟨b, 6, none⟩ = false ∧ w.frozen? ⟨b, 7, none⟩ = false ∧ w.frozen? ⟨b, 8, none⟩ = false ∧ w.frozen? ⟨b, 9, none⟩ = false :=
  ⟨blk_free h 0, blk_free h 1, blk_free h 2, blk_free h 3, blk_free h 4, blk_free h 5, blk_free h 6, blk_free h 7, blk_free h 8, blk_free h 9⟩
abbrev recW (w : World) (b : Nat) (r : Rec) : World := setRow w b 0 r.row
theorem rec_set {w : World} {b : Nat} {u r : Rec} {t : TypeId} (h : w.heap[b]? = some (.cells u.cells t (0, 0))) : (recW w b r).heap[b]? = some (.cells r.cells t (0, 0)) := setRow_all r.row h rfl
theorem rec_only (w : World) (b : Nat) (r : Rec) : Only b w (recW w b r) := setRow_only b _ _ _
theorem results_c3 {P : Program} {fn : Func} {p u v : Tmp} {ty : TypeId} (h : fn.results = #[.cell p ty, .tmp u, .tmp v]) {tmps : Array Value} {w : World} {g : Nat} {t : TypeId} {cs : Array Value} {d : TypeDesc} {x y : Value}
    (hp : tmps.getD p undef = .pointer (some ⟨g, 0, none⟩)) (hx : tmps.getD u undef = x) (hy : tmps.getD v undef = y) (hg : w.heap[g]? = some (.cells cs t (0, 0)))
    (hu : P.underlying ty = some d) (hd : (match d with | .struct _ | .array _ _ => true | _ => false) = true) (hi : (P.info? ty).map (·.size) = some cs.size) : (results fn tmps).run P w = .ok (.tuple #[.agg cs, x, y]) w := by
  have hp' : tmps[p]?.getD undef = .pointer (some ⟨g, 0, none⟩) := by simpa using hp
  have hx' : tmps[u]?.getD undef = x := by simpa using hx
  have hy' : tmps[v]?.getD undef = y := by simpa using hy
  simp [results, h, hp', hx', hy', asAddr, run_loadVar_row w g t ty cs (0, 0) d hg hu hd hi]
/-! ### Compared, at any depth -/
theorem infoEvt8 : ∃ i, Try.prog.info? 25 = some i ∧ i.size = 8 := by
  have h : (Try.prog.info? 25).map (fun i => i.size) = some 8 := by kernel_rfl
  cases hi : Try.prog.info? 25 with
  | none => rw [hi] at h; cases h
  | some i => rw [hi] at h; exact ⟨i, rfl, by simpa using h⟩
theorem eqED (d : Nat) (w : World) (a b : Evt) :
    (Op.equalIn (d + 3) 25 (.agg #[.int .i64 a.k, .int .i64 a.n, .int .i64 a.j, .int .i64 a.i, .int .i64 a.p, .int .i64 a.r.a, .int .i64 a.r.b, .int .i64 a.r.c]) (.agg #[.int .i64 b.k, .int .i64 b.n, .int .i64 b.j, .int .i64 b.i, .int .i64 b.p, .int .i64 b.r.a, .int .i64 b.r.b, .int .i64 b.r.c])).run Try.prog w = .ok (eqE a b) w := by
  have hu : Try.prog.underlying 3 = some (.int .i64) := Try.underlying3
  have hf : Try.prog.underlying 25 = some (.struct (Try.prog.fieldsOf 25)) := by kernel_rfl
  obtain ⟨i, hi, hz0, hz1, hz2⟩ := info_parts infoI64
  obtain ⟨ir, hir, hr1⟩ := infoRes
  have hr := eqResD d w a.r b.r
  rw [run_equalIn_agg w (d + 2) 25 _ _ hf (by kernel_rfl)]
  unfold eqE
  have hag : (isAgg 23).run Try.prog w = .ok true w := by kernel_rfl
  cases h1 : a.k == b.k
  · simp [Op.eqFields, Program.fieldsOf, Try.underlying25, part, go_sem, hi, hz1, hu, h1]
  cases h2 : a.n == b.n
  · simp [Op.eqFields, Program.fieldsOf, Try.underlying25, part, go_sem, hi, hz1, hu, h1, h2]
  cases h3 : a.j == b.j
  · simp [Op.eqFields, Program.fieldsOf, Try.underlying25, part, go_sem, hi, hz1, hu, h1, h2, h3]
  cases h4 : a.i == b.i
  · simp [Op.eqFields, Program.fieldsOf, Try.underlying25, part, go_sem, hi, hz1, hu, h1, h2, h3, h4]
  cases h5 : a.p == b.p
  · simp [Op.eqFields, Program.fieldsOf, Try.underlying25, part, go_sem, hi, hz1, hu, h1, h2, h3, h4, h5]
  simp [Op.eqFields, Program.fieldsOf, Try.underlying25, part, go_sem, hi, hz1, hir, hr1, hu, hag, h1, h2, h3, h4, h5, hr]
  cases eq3 a.r b.r <;> rfl
theorem eqR_run (w : World) (a b : Rec) : (Op.equalIn 10000 27 a.val b.val).run Try.prog w = .ok (eqR a b) w := by
  unfold Rec.val
  have hu : Try.prog.underlying 3 = some (.int .i64) := Try.underlying3
  have hf : Try.prog.underlying 27 = some (.struct (Try.prog.fieldsOf 27)) := by kernel_rfl
  obtain ⟨i, hi, hz0, hz1, hz2⟩ := info_parts infoI64
  obtain ⟨ir, hir, hr1⟩ := infoEvt8
  have hr : (Op.equalIn 9999 25 _ _).run Try.prog w = _ := eqED 9996 w a.v b.v
  rw [run_equalIn_agg w 9999 27 _ _ hf (by kernel_rfl)]
  unfold eqR
  have hag : (isAgg 25).run Try.prog w = .ok true w := by kernel_rfl
  cases h1 : a.s == b.s
  · simp [Op.eqFields, Program.fieldsOf, Try.underlying27, part, go_sem, hi, hz1, hu, h1]
  cases h2 : a.e == b.e
  · simp [Op.eqFields, Program.fieldsOf, Try.underlying27, part, go_sem, hi, hz1, hu, h1, h2]
  have hres : (Op.equalIn 9998 23 _ _).run Try.prog w = _ := eqResD 9996 w a.v.r b.v.r
  clear hr
  simp [Op.eqFields, Program.fieldsOf, Try.underlying27, part, go_sem, hi, hz1, hir, hr1, hu, hag, h1, h2, hres]
  unfold eqE
  by_cases k1 : a.v.k = b.v.k
  · by_cases k2 : a.v.n = b.v.n
    · by_cases k3 : a.v.j = b.v.j
      · by_cases k4 : a.v.i = b.v.i
        · by_cases k5 : a.v.p = b.v.p
          · cases h6 : eq3 a.v.r b.v.r <;> simp [k1, k2, k3, k4, k5, h6, Result.andThen]
          · simp [k1, k2, k3, k4, k5]
        · simp [k1, k2, k3, k4]
      · simp [k1, k2, k3]
    · simp [k1, k2]
  · simp [k1]
theorem eqlR_run (w : World) (a b : Rec) : (binOp .eql 27 a.val b.val).run Try.prog w = .ok (.bool (eqR a b)) w := by
  have h := eqR_run w a b
  unfold Rec.val at h ⊢
  rw [run_eql_struct, h]
  rfl
theorem neR_run (w : World) (a b : Rec) : (binOp .neq 27 a.val b.val).run Try.prog w = .ok (.bool (!eqR a b)) w := by
  have h := eqR_run w a b
  unfold Rec.val at h ⊢
  rw [run_neq_struct, h]
  rfl
theorem eqlR_guard (w : World) (a b : Rec) (x y : Operand) : (eqGuard .eql 27 x y a.val b.val).run Try.prog w = .ok () w := run_eqGuard_agg w .eql 27 x y _ _ (by kernel_rfl)
theorem neR_guard (w : World) (a b : Rec) (x y : Operand) : (eqGuard .neq 27 x y a.val b.val).run Try.prog w = .ok () w := run_eqGuard_agg w .neq 27 x y _ _ (by kernel_rfl)
theorem eqR_self (a : Rec) : eqR a a = true := (eqR_iff a a).2 rfl
end Go.Proofs.Ytgooepfhapaenaa
/- What the document's own Check, Seal and Open of records come to. Conditions: texts of up to 100,000 bytes. -/
namespace Go.Proofs.Ytgooepfhapaenaa
open Go.ChangeShapes Go.WideShapes Go.ChangeAt Go.RowKit
set_option linter.unusedVariables false
set_option maxRecDepth 100000
set_option linter.unusedSimpArgs false
set_option maxHeartbeats 4000000

theorem numR_no {r : Rec} (h : numRc r = false) : checkR r = 1 := by unfold checkR; rw [if_pos h]
theorem varS_of {n : Int} (h : 0 ≤ n) : varS n = bs (varL n.toNat) := by unfold varS; rw [if_neg (by omega)]
end Go.Proofs.Ytgooepfhapaenaa
/- What the document's own Open of records comes to. Conditions: texts of up to 100,000 bytes. -/
namespace Go.Proofs.Ytgooepfhapaenaa
open Go.ChangeShapes Go.WideShapes Go.ChangeAt Go.RowKit
set_option linter.unusedVariables false
set_option maxRecDepth 100000
set_option linter.unusedSimpArgs false
set_option maxHeartbeats 4000000

theorem openB_len (s : List UInt8) : (openB s).length ≤ 200 := by
  unfold openB
  split
  · rename_i h
    have := (openE_ok h).1
    rw [List.length_take, List.length_drop]
    omega
  · simp
/-- Where Open stands: the result's block and the empty record's. -/
structure OC (w0 w : World) : Prop where
  b0 : w.heap[w0.heap.size]? = some (.cells zeroR.cells 27 (0, 0))
  b1 : w.heap[w0.heap.size + 1]? = some (.cells zeroR.cells 27 (0, 0))
  bel : Below w0.heap.size w0 w
theorem OC.below {w0 w w' : World} (h : OC w0 w) (k : Below w.heap.size w w') : OC w0 w' := ⟨blk_below k h.b0 (lt_of_block h.b0), blk_below k h.b1 (lt_of_block h.b1), h.bel.trans (k.mono h.bel.size)⟩
theorem OC.fin {w0 w : World} (h : OC w0 w) (r : Rec) : (recW w w0.heap.size r).heap[w0.heap.size]? = some (.cells r.cells 27 (0, 0)) ∧ Below w0.heap.size w0 (recW w w0.heap.size r) :=
  ⟨rec_set h.b0, h.bel.trans ((rec_only w _ r).below (Nat.le_refl _) h.bel.size)⟩
end Go.Proofs.Ytgooepfhapaenaa
