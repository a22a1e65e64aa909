/- Calls on a queue that came in, as a list. Conditions: none. -/
import Derived.Test.YtalpocgajecjbaaQueW
import Derived.Test.YtalpocgajecjbaaRnkArgs
namespace Go.Proofs.Ytalpocgajecjbaa
open Go.ChangeShapes Go.WideShapes Go.ChangeAt Go.RowKit
set_option linter.unusedVariables false
set_option maxRecDepth 100000

/-- A call: its kind, and a job. -/
structure ActQ where
  kind : Int
  j : Jb
def ActQ.row (a : ActQ) : List Value := .int .i64 a.kind :: a.j.row
def rowsQ (l : List ActQ) : List (List Value) := l.map ActQ.row
theorem rowsQ_len (l : List ActQ) : (rowsQ l).length = l.length := by simp [rowsQ]
theorem rowsQ_get (l : List ActQ) (k : Nat) (h : k < l.length) : (rowsQ l)[k]? = some l[k].row := by simp [rowsQ, h]
theorem actq_of {w : World} {r : List Value} (h : Has w (.pair (.int .i64) (.pair shJob .unit)) r) : ∃ a : ActQ, a.j.ok ∧ r = a.row := by
  obtain ⟨_, r, rfl, ⟨n1, rfl, h1⟩, _, r2, rfl, hj, h2⟩ := h
  have h2 : r2 = [] := h2
  subst h2
  obtain ⟨x, hx, rfl⟩ := job_of hj
  exact ⟨⟨n1, x⟩, hx, by simp [ActQ.row]⟩
theorem qacts_of {w : World} (R : List (List Value)) (h : ∀ r ∈ R, Has w (.pair (.int .i64) (.pair shJob .unit)) r) : ∃ l : List ActQ, R = rowsQ l ∧ ∀ a ∈ l, a.j.ok := by
  induction R with
  | nil => exact ⟨[], rfl, fun a h => by cases h⟩
  | cons r R ih =>
    obtain ⟨a, ha, rfl⟩ := actq_of (h r (by simp))
    obtain ⟨l, rfl, hl⟩ := ih fun q hq => h q (by simp [hq])
    refine ⟨a :: l, rfl, fun b hb => ?_⟩
    rcases List.mem_cons.1 hb with rfl | hb
    · exact ha
    · exact hl b hb
/-- A call's cells. -/
def ActJ (b o : Nat) (a : ActQ) (w : World) : Prop := w.cell? ⟨b, o, none⟩ = some (.int .i64 a.kind) ∧ J8 b (o + 1) a.j w
theorem qacts_came {w : World} {A : Option Addr} {len cap : Nat} (h : Has w (.slice (.pair (.int .i64) (.pair shJob .unit))) [.slice A len cap]) :
    ∃ l : List ActQ, l.length = len ∧ (∀ a ∈ l, a.j.ok) ∧ ∀ k (hk : k < l.length), ∃ b o, A = some ⟨b, o, none⟩ ∧ ∀ w', Below w.heap.size w w' → ActJ b (o + k * 9) l[k] w' := by
  obtain ⟨R, h1, h2, h3⟩ := rdk_came h
  obtain ⟨l, rfl, hl⟩ := qacts_of R h2
  refine ⟨l, by rw [← h1, rowsQ_len], hl, fun k hk => ?_⟩
  obtain ⟨b, o, ha, hb, _, hx⟩ := h3.at_ (k := k) (by rw [rowsQ_len]; exact hk)
  have hc : ∀ j x, l[k].row[j]? = some x → ∀ w', Below w.heap.size w w' → w'.cell? ⟨b, o + k * 9 + j, none⟩ = some x := fun j x hj w' hq =>
    (hq.cell (p := ⟨b, o + k * 9 + j, none⟩) hb).trans (hx k _ (rowsQ_get l k hk) j x hj)
  exact ⟨b, o, ha, fun w' hq => ⟨hc 0 _ rfl w' hq, hc 1 _ rfl w' hq, hc 2 _ rfl w' hq, hc 3 _ rfl w' hq, hc 4 _ rfl w' hq, hc 5 _ rfl w' hq, hc 6 _ rfl w' hq, hc 7 _ rfl w' hq, hc 8 _ rfl w' hq⟩⟩
end Go.Proofs.Ytalpocgajecjbaa
