/- Events that came in. Conditions: none. -/
import Derived.Test.YtgooepfhapaenaaGreatEvtPlain
import Derived.Test.YtgooepfhapaenaaGreatRdmArgs
namespace Go.Proofs.YtgooepfhapaenaaGreat
open Go.ChangeShapes Go.WideShapes Go.ChangeAt Go.RowKit
set_option linter.unusedVariables false
set_option maxRecDepth 100000

abbrev shEvt : Sh := .pair (.int .i64) (.pair (.int .i64) (.pair (.int .i64) (.pair (.int .i64) (.pair (.int .i64) (.pair (Sh.rep (.int .i64) 3) .unit)))))
theorem evt_of {w : World} {r : List Value} (h : Has w shEvt r) : ∃ x : Evt, x.ok ∧ r = x.row := by
  obtain ⟨_, r, rfl, ⟨n1, rfl, h1⟩, _, r2, rfl, ⟨n2, rfl, h2⟩, _, r3, rfl, ⟨n3, rfl, h3⟩, _, r4, rfl, ⟨n4, rfl, h4⟩, _, r5, rfl, ⟨n5, rfl, h5⟩, _, r6, rfl, hk, h6⟩ := h
  have h6 : r6 = [] := h6
  subst h6
  obtain ⟨v, hv, rfl⟩ := key_of hk
  exact ⟨⟨n1, n2, n3, n4, n5, v⟩, ⟨wf_in h1, wf_in h2, wf_in h3, wf_in h4, wf_in h5, hv⟩, rfl⟩
theorem evt_came {w : World} {c : Array Value} (h : Has w shEvt c.toList) : ∃ x : Evt, x.ok ∧ c = x.row.toArray := by
  obtain ⟨x, hx, hr⟩ := evt_of h
  exact ⟨x, hx, by cases c; simp at hr; rw [hr]⟩
end Go.Proofs.YtgooepfhapaenaaGreat
