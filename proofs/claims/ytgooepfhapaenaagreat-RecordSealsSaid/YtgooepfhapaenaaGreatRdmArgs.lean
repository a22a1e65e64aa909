/- Rows and keys that came in, as lists. Conditions: none. -/
import Derived.Test.YtgooepfhapaenaaGreatRdm
import Derived.Test.YtgooepfhapaenaaGreatArgs
import Derived.Test.YtgooepfhapaenaaGreatPlains
import Derived.Deep.Slices
namespace Go.Proofs.YtgooepfhapaenaaGreat
open Go.ChangeShapes Go.WideShapes Go.ChangeAt Go.RowKit
set_option linter.unusedVariables false
set_option maxRecDepth 100000

/-- A slice that came in, element by element. -/
theorem rdk_came {w : World} {e : Sh} {A : Option Addr} {len cap : Nat} (h : Has w (.slice e) [.slice A len cap]) :
    ∃ R : List (List Value), R.length = len ∧ (∀ r ∈ R, Has w e r) ∧ RdK e.size w (fun _ => True) (.slice A len cap) R := by
  obtain ⟨A', len', cap', h0, h1, h2, h3, E, hE⟩ := h
  simp only [List.cons.injEq, Value.slice.injEq, and_true] at h0
  obtain ⟨rfl, rfl, rfl⟩ := h0
  refine ⟨(List.range len).map E, by simp, fun r hr => ?_, A, cap, by simp, by simpa using h1, h2, fun h0 => ?_⟩
  · obtain ⟨i, hi, rfl⟩ := List.mem_map.1 hr
    exact (hE i (by simpa using hi)).1
  · obtain ⟨b, o, ha, hb⟩ := h3 (by simpa using h0)
    refine ⟨b, o, ha, hb, trivial, fun i r hi j x hj => ?_⟩
    have hil : i < len := by
      have := (List.getElem?_eq_some_iff.1 hi).1
      simpa using this
    rw [List.getElem?_map, List.getElem?_range hil] at hi
    simp at hi
    subst hi
    exact (hE i hil).2 b o ha j x hj
theorem wf_in {n : Int} (h : (Lit.int .i64 n).wf = true) : inI n := by
  have := bounds_i64 h; unfold inI; omega
theorem key_of {w : World} {r : List Value} (h : Has w (Sh.rep (.int .i64) 3) r) : ∃ v : V3, v.ok ∧ r = [.int .i64 v.a, .int .i64 v.b, .int .i64 v.c] := by
  obtain ⟨x, r, rfl, ⟨n1, rfl, h1⟩, y, r2, rfl, ⟨n2, rfl, h2⟩, z, r3, rfl, ⟨n3, rfl, h3⟩, h4⟩ := h
  have h4 : r3 = [] := h4
  subst h4
  exact ⟨⟨n1, n2, n3⟩, ⟨wf_in h1, wf_in h2, wf_in h3⟩, rfl⟩
end Go.Proofs.YtgooepfhapaenaaGreat
