/- Stores of whole structs in a region that draws its order (HoldV's chain). Conditions: as stated. -/
import Derived.Test.YthpijibcfkcenaaDoorHoldV
import Derived.Deep.MidRow
namespace Go.Proofs.YthpijibcfkcenaaDoor
open Go.ChangeShapes Go.WideShapes Go.ChangeAt Go.RowKit
set_option linter.unusedVariables false

theorem holdP_storeRow {P : Program} {ops : Array Oper} {cl : List Nat} {T : Act → (Nat → World → Prop) → Prop} {i : Nat} {o : Oper} {r : List Oper} {a : Act} {C : Nat → World → Prop} (q : Nat) (ty : TypeId) (x y : Operand) (ho : o.op = .store ty x y) (hq : cl[q]? = some i) (hw : Region.wanted o (yielded ops a.tmps) = true)
    (g : Nat) (cells : Array Value) (hx : a.eval x = .pointer (some ⟨g, 0, none⟩)) (hy : a.eval y = .agg cells) (hi : (P.info? ty).map (·.size) = some cells.size) (h1 : cells.all (·.oneCell') = true)
    (hs : ∀ w, C q w → ∃ t old, w.heap[g]? = some (.cells old t (0, 0)) ∧ old.size = cells.size ∧ C (q + 1) (w.setRow g cells))
    (h : HoldP P cl ops T (i + 1) r (a.put o.dst undef) C) : HoldP P cl ops T i (o :: r) a C :=
  holdP_store q hq hw (fun w hC => by
    obtain ⟨t, old, hg, hold, hC'⟩ := hs w hC
    refine ⟨w.setRow g cells, ?_, hC'⟩
    unfold execOp
    simp only [ho, hx, hy, Instr.storeAt, Instr.sureAddr, Sem.run_bind, Sem.run_pure, Result.andThen_ok, run_storeVar_row w g t ty old cells hg hi hold h1]) h
/-- A store of a struct that lies within a block. -/
theorem holdP_storeMid {P : Program} {ops : Array Oper} {cl : List Nat} {T : Act → (Nat → World → Prop) → Prop} {i : Nat} {o : Oper} {r : List Oper} {a : Act} {C : Nat → World → Prop} (q : Nat) (ty : TypeId) (x y : Operand) (ho : o.op = .store ty x y) (hq : cl[q]? = some i) (hw : Region.wanted o (yielded ops a.tmps) = true)
    (g k : Nat) (cells : Array Value) (hx : a.eval x = .pointer (some ⟨g, k, none⟩)) (hy : a.eval y = .agg cells) (hi : (P.info? ty).map (·.size) = some cells.size) (h1 : cells.all (·.oneCell') = true)
    (hs : ∀ w, C q w → w.there g k cells.size ∧ C (q + 1) (w.setCells g k cells.toList))
    (h : HoldP P cl ops T (i + 1) r (a.put o.dst undef) C) : HoldP P cl ops T i (o :: r) a C :=
  holdP_store q hq hw (fun w hC => by
    obtain ⟨ht, hC'⟩ := hs w hC
    refine ⟨w.setCells g k cells.toList, ?_, hC'⟩
    unfold execOp
    simp only [ho, hx, hy, Instr.storeAt, Instr.sureAddr, Sem.run_bind, Sem.run_pure, Result.andThen_ok, run_storeVar_mid w g k ty cells ht hi h1]) h
end Go.Proofs.YthpijibcfkcenaaDoor
