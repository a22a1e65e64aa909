/- A region in the text's order, with a store of a whole row among its operations. Conditions: as stated. -/
import Derived.Test.YtalpocgajecjbaaHold
import Derived.Laws.Tables
namespace Go.Proofs.Ytalpocgajecjbaa
open Go.RowKit
set_option linter.unusedVariables false

theorem rowSet_heap (w : World) (g : Nat) (cs : Array Value) (t : TypeId) (old : Array Value) (h : w.heap[g]? = some (.cells old t (0, 0))) : (w.setRow g cs).heap[g]? = some (.cells cs t (0, 0)) := by
  simp [World.setRow, Array.getElem?_modify, h]
theorem rowSet_far (w : World) (g k : Nat) (cs : Array Value) (h : k ≠ g) : (w.setRow g cs).heap[k]? = w.heap[k]? := by
  simp only [World.setRow, Array.getElem?_modify]; rw [if_neg (fun e => h e.symm)]
theorem rowSet_below {w w' : World} {B g : Nat} (cs : Array Value) (h : Below B w w') (hB : B ≤ g) : Below B w (w'.setRow g cs) :=
  h.trans ⟨rfl, rfl, rfl, by simp [World.setRow], fun k hk => rowSet_far _ _ _ _ (by omega)⟩
section
variable {P : Program} {ops : Array Oper} {ps : List Nat} {C : List Bool → World → Prop}
/-- A store of a whole row, the k-th of the marked ones. -/
theorem holdC_store {T : Act → Prop} {i : Nat} {o : Oper} {r : List Oper} {a : Act} (k : Nat) (ty : TypeId) (x y : Operand) (ho : o.op = .store ty x y) (hk : ps[k]? = some i) (hnd : ps.Nodup) (hw : Region.wanted o (yielded ops a.tmps) = true)
    (g : Nat) (cells : Array Value) (hx : a.eval x = .pointer (some ⟨g, 0, none⟩)) (hy : a.eval y = .agg cells) (hi : (P.info? ty).map (·.size) = some cells.size) (h1 : cells.all (·.oneCell') = true)
    (hs : ∀ m w, m[k]? = some false → C m w → ∃ t old, w.heap[g]? = some (.cells old t (0, 0)) ∧ old.size = cells.size ∧ C (m.set k true) (w.setRow g cells))
    (h : HoldC P ops ps C T (i + 1) r (a.put o.dst undef)) : HoldC P ops ps C T i (o :: r) a :=
  ⟨undef, .inl ⟨hw, fun L w hr hS => .inr (.inl (by
    obtain ⟨t, old, hg, hold, hC⟩ := hs _ w (by unfold marks; rw [List.getElem?_map, hk]; simp only [Option.map_some]; rw [ready_off hr]) hS.2
    refine ⟨w.setRow g cells, ?_, rfl, by simpa using hS.1, by rw [marks_at hk hnd (ready_size hr)]; exact hC⟩
    unfold execOp
    simp only [ho, hx, hy, Instr.storeAt, Instr.sureAddr, Sem.run_bind, Sem.run_pure, Result.andThen_ok, run_storeVar_row w g t ty old cells hg hi hold h1]))⟩, h⟩
end
end Go.Proofs.Ytalpocgajecjbaa
