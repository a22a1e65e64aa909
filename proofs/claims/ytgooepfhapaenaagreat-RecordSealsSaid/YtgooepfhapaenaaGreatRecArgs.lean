/- What records look like in memory that came in. Conditions: none. -/
import Derived.Test.YtgooepfhapaenaaGreatRecPlain
import Derived.Test.YtgooepfhapaenaaGreatEvtArgs
namespace Go.Proofs.YtgooepfhapaenaaGreat
open Go.ChangeShapes Go.WideShapes Go.ChangeAt Go.RowKit
set_option linter.unusedVariables false
set_option maxRecDepth 100000

abbrev shRec : Sh := .pair (.int .i64) (.pair (.int .i64) (.pair shEvt .unit))
theorem rec_of {w : World} {r : List Value} (h : Has w shRec r) : ∃ x : Rec, x.ok ∧ r = x.row := by
  obtain ⟨_, r, rfl, ⟨n1, rfl, h1⟩, _, r2, rfl, ⟨n2, rfl, h2⟩, _, r3, rfl, hk, h3⟩ := h
  have h3 : r3 = [] := h3
  subst h3
  obtain ⟨v, hv, rfl⟩ := evt_of hk
  exact ⟨⟨n1, n2, v⟩, ⟨wf_in h1, wf_in h2, hv⟩, rfl⟩
theorem rec_came {w : World} {c : Array Value} (h : Has w shRec c.toList) : ∃ x : Rec, x.ok ∧ c = x.row.toArray := by
  obtain ⟨x, hx, hr⟩ := rec_of h
  exact ⟨x, hx, by cases c; simp at hr; rw [hr]⟩
end Go.Proofs.YtgooepfhapaenaaGreat
