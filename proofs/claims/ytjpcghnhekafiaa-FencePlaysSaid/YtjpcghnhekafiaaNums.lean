/- Numbers that came in. Conditions: none. -/
import Derived.Test.YtjpcghnhekafiaaArgs
import Derived.Test.YtjpcghnhekafiaaPlains
import Derived.Test.YtjpcghnhekafiaaRdmArgs
namespace Go.Proofs.Ytjpcghnhekafiaa
open Go.ChangeShapes Go.WideShapes Go.ChangeAt Go.RowKit
set_option linter.unusedVariables false
set_option maxRecDepth 100000

theorem ints_came {w : World} {A : Option Addr} {len cap : Nat} (h : Has w (.slice (.int .i64)) [.slice A len cap]) :
    ∃ ns : List Int, ns.length = len ∧ (∀ n ∈ ns, inI n) ∧ ∀ k (hk : k < ns.length), ∃ b o, A = some ⟨b, o, none⟩ ∧ ∀ w', Below w.heap.size w w' → w'.cell? ⟨b, o + k, none⟩ = some (.int .i64 ns[k]) := by
  obtain ⟨h1, h2, h3⟩ := has_ints h
  rcases h3 with rfl | ⟨b, off, Z, h0, rfl, hb, hZ⟩
  · exact ⟨[], rfl, by simp, fun k hk => by cases hk⟩
  · refine ⟨(List.range len).map Z, by simp, fun n hn => ?_, fun k hk => ⟨b, off, rfl, fun w' hw => ?_⟩⟩
    · obtain ⟨i, hi, rfl⟩ := List.mem_map.1 hn
      exact wf_in (hZ i (by simpa using hi)).1
    · have hk' : k < len := by simpa using hk
      rw [hw.cell hb, (hZ k hk').2]
      simp
end Go.Proofs.Ytjpcghnhekafiaa
