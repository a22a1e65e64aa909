/- Texts that came in. Conditions: none. -/
import Derived.Test.YtlmijhladbinjaaDoorSlices
import Derived.Test.YtlmijhladbinjaaDoorArgs
namespace Go.Proofs.YtlmijhladbinjaaDoor
open Go.ChangeShapes Go.WideShapes Go.ChangeAt Go.RowKit
set_option linter.unusedVariables false
set_option maxRecDepth 100000

/-- Texts that came in. -/
theorem rd_came {w : World} {A : Option Addr} {len cap : Nat} (h : Has w (.slice .str) [.slice A len cap]) :
    ∃ BL : List (List UInt8), BL.length = len ∧ Rd w w.heap.size (.slice A len cap) (strs BL) ∧ ∀ b ∈ BL, b.length ≤ maxLen := by
  obtain ⟨h1, h2, h3⟩ := has_strs h
  rcases h3 with rfl | ⟨b, off, Z, h0, rfl, hb, hZ⟩
  · exact ⟨[], rfl, ⟨A, cap, rfl, Nat.zero_le _, h2, fun h => absurd h (by simp [strs])⟩, fun b hb => by cases hb⟩
  · refine ⟨(List.range len).map fun i => (Z i).data.toList, by simp, ⟨some ⟨b, off, none⟩, cap, by simp [strs], by simpa [strs] using h1, h2, fun _ => ⟨b, off, rfl, hb, ?_⟩⟩, ?_⟩
    · intro j x hj
      simp only [strs, List.map_map, List.getElem?_map] at hj
      rcases Nat.lt_or_ge j len with hl | hl
      · rw [List.getElem?_range hl] at hj
        simp [bs_of] at hj
        rw [← hj]
        exact (hZ j hl).2
      · rw [List.getElem?_eq_none (by simpa using hl)] at hj; cases hj
    · intro x hx
      obtain ⟨i, hi, rfl⟩ := List.mem_map.1 hx
      rw [data_len]
      exact (hZ i (by simpa using hi)).1
end Go.Proofs.YtlmijhladbinjaaDoor
