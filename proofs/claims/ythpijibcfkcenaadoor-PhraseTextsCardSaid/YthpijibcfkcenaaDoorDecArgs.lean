/- Numbers that came in. Conditions: none. -/
import Derived.Test.YthpijibcfkcenaaDoorSlices
import Derived.Test.YthpijibcfkcenaaDoorPlains
import Derived.Test.YthpijibcfkcenaaDoorArgs
namespace Go.Proofs.YthpijibcfkcenaaDoor
open Go.ChangeShapes Go.WideShapes Go.ChangeAt Go.RowKit
set_option linter.unusedVariables false
set_option maxRecDepth 100000

theorem rd_ints {w : World} {A : Option Addr} {len cap : Nat} (h : Has w (.slice (.int .i64)) [.slice A len cap]) :
    ∃ ns : List Int, ns.length = len ∧ Rd w w.heap.size (.slice A len cap) (ints ns) ∧ ∀ n ∈ ns, inI n := by
  obtain ⟨h1, h2, h3⟩ := has_ints h
  rcases h3 with rfl | ⟨b, off, Z, h0, rfl, hb, hZ⟩
  · exact ⟨[], rfl, ⟨A, cap, rfl, Nat.zero_le _, h2, fun h => absurd h (by simp [ints])⟩, fun b hb => by cases hb⟩
  · refine ⟨(List.range len).map Z, by simp, ⟨some ⟨b, off, none⟩, cap, by simp [ints], by simpa [ints] using h1, h2, fun _ => ⟨b, off, rfl, hb, ?_⟩⟩, ?_⟩
    · intro j x hj
      simp only [ints, List.map_map, List.getElem?_map] at hj
      rcases Nat.lt_or_ge j len with hl | hl
      · rw [List.getElem?_range hl] at hj
        simp at hj
        rw [← hj]
        exact (hZ j hl).2
      · rw [List.getElem?_eq_none (by simpa using hl)] at hj; cases hj
    · intro x hx
      obtain ⟨i, hi, rfl⟩ := List.mem_map.1 hx
      have := bounds_i64 (hZ i (by simpa using hi)).1
      unfold inI; omega
end Go.Proofs.YthpijibcfkcenaaDoor
