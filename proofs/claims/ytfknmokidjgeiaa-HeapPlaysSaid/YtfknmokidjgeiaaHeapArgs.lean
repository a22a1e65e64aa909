/- Calls on a heap that came in, as a list. Conditions: none. -/
import Derived.Test.YtfknmokidjgeiaaHeap
import Derived.Test.YtfknmokidjgeiaaArgs
import Derived.Deep.Slices
namespace Go.Proofs.Ytfknmokidjgeiaa
open Go.ChangeShapes Go.WideShapes Go.ChangeAt Go.RowKit
set_option linter.unusedVariables false
set_option maxRecDepth 100000

/-- A slice that came in, element by element. -/
theorem rdk_came {w : World} {e : Sh} {A : Option Addr} {len cap : Nat} (h : Has w (.slice e) [.slice A len cap]) :
    ∃ R : List (List Value), R.length = len ∧ (∀ r ∈ R, Has w e r) ∧ RdK e.size w (fun _ => True) (.slice A len cap) R := by
  obtain ⟨A', len', cap', h0, h1, h2, h3, E, hE⟩ := h
  simp only [List.cons.injEq, Value.slice.injEq, and_true] at h0
  obtain ⟨rfl, rfl, rfl⟩ := h0
  refine ⟨(List.range len).map E, by simp, fun r hr => ?_, A, cap, by simp, by simpa using h1, h2, fun h0 => ?_⟩
  · obtain ⟨i, hi, rfl⟩ := List.mem_map.1 hr
    exact (hE i (by simpa using hi)).1
  · obtain ⟨b, o, ha, hb⟩ := h3 (by simpa using h0)
    refine ⟨b, o, ha, hb, trivial, fun i r hi j x hj => ?_⟩
    have hil : i < len := by
      have := (List.getElem?_eq_some_iff.1 hi).1
      simpa using this
    rw [List.getElem?_map, List.getElem?_range hil] at hi
    simp at hi
    subst hi
    exact (hE i hil).2 b o ha j x hj
theorem wf_in {n : Int} (h : (Lit.int .i64 n).wf = true) : inI n := by
  have := bounds_i64 h; unfold inI; omega
/-- A call: its kind, and a thing. -/
structure ActH where
  kind : Int
  t : Thg
def ActH.row (a : ActH) : List Value := [.int .i64 a.kind, .int .i64 a.t.id, .int .i64 a.t.key.a, .int .i64 a.t.key.b, .int .i64 a.t.key.c]
def rowsA (l : List ActH) : List (List Value) := l.map ActH.row
theorem rowsA_len (l : List ActH) : (rowsA l).length = l.length := by simp [rowsA]
theorem rowsA_get (l : List ActH) (k : Nat) (h : k < l.length) : (rowsA l)[k]? = some l[k].row := by simp [rowsA, h]
theorem key_of {w : World} {r : List Value} (h : Has w (Sh.rep (.int .i64) 3) r) : ∃ v : V3, v.ok ∧ r = [.int .i64 v.a, .int .i64 v.b, .int .i64 v.c] := by
  obtain ⟨x, r, rfl, ⟨n1, rfl, h1⟩, y, r2, rfl, ⟨n2, rfl, h2⟩, z, r3, rfl, ⟨n3, rfl, h3⟩, h4⟩ := h
  have h4 : r3 = [] := h4
  subst h4
  exact ⟨⟨n1, n2, n3⟩, ⟨wf_in h1, wf_in h2, wf_in h3⟩, rfl⟩
theorem act_of {w : World} {r : List Value} (h : Has w (.pair (.int .i64) (.pair (.int .i64) (.pair (Sh.rep (.int .i64) 3) .unit))) r) : ∃ a : ActH, a.t.ok ∧ r = a.row := by
  obtain ⟨x, r, rfl, ⟨n1, rfl, h1⟩, y, r2, rfl, ⟨n2, rfl, h2⟩, z, r3, rfl, hk, h4⟩ := h
  have h4 : r3 = [] := h4
  subst h4
  obtain ⟨v, hv, rfl⟩ := key_of hk
  exact ⟨⟨n1, ⟨n2, v⟩⟩, ⟨wf_in h2, hv⟩, rfl⟩
theorem acts_of {w : World} (R : List (List Value)) (h : ∀ r ∈ R, Has w (.pair (.int .i64) (.pair (.int .i64) (.pair (Sh.rep (.int .i64) 3) .unit))) r) : ∃ l : List ActH, R = rowsA l ∧ ∀ a ∈ l, a.t.ok := by
  induction R with
  | nil => exact ⟨[], rfl, fun a h => by cases h⟩
  | cons r R ih =>
    obtain ⟨a, ha, rfl⟩ := act_of (h r (by simp))
    obtain ⟨l, rfl, hl⟩ := ih fun q hq => h q (by simp [hq])
    refine ⟨a :: l, rfl, fun b hb => ?_⟩
    rcases List.mem_cons.1 hb with rfl | hb
    · exact ha
    · exact hl b hb
theorem acts_came {w : World} {A : Option Addr} {len cap : Nat} (h : Has w (.slice (.pair (.int .i64) (.pair (.int .i64) (.pair (Sh.rep (.int .i64) 3) .unit)))) [.slice A len cap]) :
    ∃ l : List ActH, l.length = len ∧ RdK 5 w (fun _ => True) (.slice A len cap) (rowsA l) ∧ ∀ a ∈ l, a.t.ok := by
  obtain ⟨R, h1, h2, h3⟩ := rdk_came h
  obtain ⟨l, rfl, hl⟩ := acts_of R h2
  exact ⟨l, by rw [← h1, rowsA_len], h3, hl⟩
end Go.Proofs.Ytfknmokidjgeiaa
