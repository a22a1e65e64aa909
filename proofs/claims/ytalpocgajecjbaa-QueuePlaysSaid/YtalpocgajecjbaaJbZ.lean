/- What reads as jobs, kept. Conditions: as stated. -/
import Derived.Test.YtalpocgajecjbaaJbR
import Derived.Test.YtalpocgajecjbaaHolds
namespace Go.Proofs.Ytalpocgajecjbaa
open Go.ChangeShapes Go.WideShapes Go.ChangeAt Go.RowKit
set_option linter.unusedVariables false
set_option maxRecDepth 100000
set_option linter.unusedSimpArgs false

/-- A slice that reads as jobs. -/
def RdJ (l : List Jb) (v : Value) (w : World) : Prop := RdK 8 w (fun _ => True) v (rowsJ l)
theorem kept_rdj (l : List Jb) (v : Value) : Kept (RdJ l v) := fun w w' h hb => h.below hb
theorem kept_bel (W : World) : Kept (fun w => Below W.heap.size W w) := fun w w' h hb => h.trans (hb.mono h.size)
theorem rdj_lit (w : World) (l : List Jb) (cs : Array Value) (hc : cs.toList = (rowsJ l).flatten) (hm : l.length ≤ maxLen) : RdJ l (.slice (some ⟨w.heap.size, 0, none⟩) l.length l.length) (w.alloc (.cells cs 37)) := by
  refine ⟨some ⟨w.heap.size, 0, none⟩, l.length, by rw [rowsJ_len], by rw [rowsJ_len]; exact Nat.le_refl _, hm, fun h0 => ⟨w.heap.size, 0, rfl, by simp, trivial, fun i r hi j x hj => ?_⟩⟩
  have := flat_get 8 (rowsJ l) (rowsJ_eight l) i r hi j x hj
  rw [← hc] at this
  rw [blk_cell (blk_new w (.cells cs 37))]
  rw [Nat.zero_add]
  simpa using this
theorem grw_call {P : Program} {f : FuncId} {args : Array Value} {w : World} {e0 : Ending} (h : Calls P f args w fun e w' => e = e0 ∧ Grw w w') : Calls P f args w fun e w' => e = e0 ∧ Below w.heap.size w w' := h.mono fun e w' h => ⟨h.1, h.2.below⟩
end Go.Proofs.Ytalpocgajecjbaa
