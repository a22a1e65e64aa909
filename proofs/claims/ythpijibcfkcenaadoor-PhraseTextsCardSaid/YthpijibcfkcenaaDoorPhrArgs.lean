/- Rows of events that came in. Conditions: none. -/
import Derived.Test.YthpijibcfkcenaaDoorEvtRow
import Derived.Test.YthpijibcfkcenaaDoorEvtArgs
import Derived.Test.YthpijibcfkcenaaDoorRdmArgs
namespace Go.Proofs.YthpijibcfkcenaaDoor
open Go.ChangeShapes Go.WideShapes Go.ChangeAt Go.RowKit
set_option linter.unusedVariables false
set_option maxRecDepth 100000

theorem evts_of {w : World} (R : List (List Value)) (h : ∀ r ∈ R, Has w shEvt r) : ∃ l : List Evt, R = rowsV l ∧ ∀ a ∈ l, a.ok := by
  induction R with
  | nil => exact ⟨[], rfl, fun a h => by cases h⟩
  | cons r R ih =>
    obtain ⟨a, ha, rfl⟩ := evt_of (h r (by simp))
    obtain ⟨l, rfl, hl⟩ := ih fun q hq => h q (by simp [hq])
    refine ⟨a :: l, rfl, fun b hb => ?_⟩
    rcases List.mem_cons.1 hb with rfl | hb
    · exact ha
    · exact hl b hb
theorem evts_came {w : World} {A : Option Addr} {len cap : Nat} (h : Has w (.slice shEvt) [.slice A len cap]) : ∃ l : List Evt, l.length = len ∧ RdV w (fun _ => True) (.slice A len cap) l ∧ ∀ a ∈ l, a.ok := by
  obtain ⟨R, h1, h2, h3⟩ := rdk_came h
  obtain ⟨l, rfl, hl⟩ := evts_of R h2
  exact ⟨l, by rw [← h1, rowsV_len], h3, hl⟩
end Go.Proofs.YthpijibcfkcenaaDoor
