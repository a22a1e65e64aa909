/- What the document's own answers for things with keys come to: Ids, Put. Conditions: lists of at most 100,000 things. -/
import Derived.Test.YtalpocgajecjbaaThgRef
import Derived.Laws.AppendOwnNone
namespace Go.Proofs.Ytalpocgajecjbaa
open Go.ChangeShapes Go.WideShapes Go.ChangeAt Go.RowKit
set_option linter.unusedVariables false
set_option maxRecDepth 100000
set_option linter.unusedSimpArgs false

theorem rows_one (l : List Thg) : ∀ u ∈ (rowsT l).flatten, u.oneCell' = true := by
  intro u hu
  obtain ⟨r, hr, hu⟩ := List.mem_flatten.1 hu
  obtain ⟨t, _, rfl⟩ := List.mem_map.1 hr
  exact row_four t u hu
/-- A result that is a slice of numbers. -/
def IntsN (l : List Int) (w : World) (e : Ending) (w' : World) : Prop :=
  ∃ v, e = .returned v ∧ Rd w' w'.heap.size v (ints l) ∧ Below w.heap.size w w'
end Go.Proofs.Ytalpocgajecjbaa
