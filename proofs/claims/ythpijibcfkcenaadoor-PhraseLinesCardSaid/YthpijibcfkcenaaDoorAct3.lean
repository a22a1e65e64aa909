/- Numbers, and calls of three numbers, that came in. Conditions: none. -/
import Derived.Test.YthpijibcfkcenaaDoorRdI
import Derived.Test.YthpijibcfkcenaaDoorDecArgs
import Derived.Test.YthpijibcfkcenaaDoorRdmArgs
namespace Go.Proofs.YthpijibcfkcenaaDoor
open Go.ChangeShapes Go.WideShapes Go.ChangeAt Go.RowKit
set_option linter.unusedVariables false
set_option maxRecDepth 100000

theorem rdI_of {w : World} {v : Value} {ns : List Int} (h : Rd w w.heap.size v (ints ns)) : RdI w (fun b => b < w.heap.size) v ns := by
  obtain ⟨A, c, h1, h2, h3, h4⟩ := h
  rw [ints_len] at h1 h2 h4
  refine ⟨A, c, h1, h2, h3, fun h0 => ?_⟩
  obtain ⟨b, o, ha, hb, hc⟩ := h4 h0
  exact ⟨b, o, ha, hb, hb, fun i hi => hc i _ (by simp [ints, hi])⟩
theorem rdI_came {w : World} {A : Option Addr} {len cap : Nat} (h : Has w (.slice (.int .i64)) [.slice A len cap]) :
    ∃ ns : List Int, ns.length = len ∧ RdI w (fun b => b < w.heap.size) (.slice A len cap) ns ∧ ∀ n ∈ ns, inI n := by
  obtain ⟨ns, h1, h2, h3⟩ := rd_ints h
  exact ⟨ns, h1, rdI_of h2, h3⟩
/-! ### Calls that came in -/
/-- A call: its kind, two numbers. -/
structure ActD where
  kind : Int
  n : Int
  m : Int
def ActD.ok (a : ActD) : Prop := inI a.n ∧ inI a.m
def ActD.row (a : ActD) : List Value := [.int .i64 a.kind, .int .i64 a.n, .int .i64 a.m]
def rowsD (l : List ActD) : List (List Value) := l.map ActD.row
theorem rowsD_len (l : List ActD) : (rowsD l).length = l.length := by simp [rowsD]
theorem rowsD_get (l : List ActD) (k : Nat) (h : k < l.length) : (rowsD l)[k]? = some l[k].row := by simp [rowsD, h]
theorem actd_of {w : World} {r : List Value} (h : Has w (.pair (.int .i64) (.pair (.int .i64) (.pair (.int .i64) .unit))) r) : ∃ a : ActD, a.ok ∧ r = a.row := by
  obtain ⟨_, r, rfl, ⟨n1, rfl, h1⟩, _, r2, rfl, ⟨n2, rfl, h2⟩, _, r3, rfl, ⟨n3, rfl, h3⟩, h4⟩ := h
  have h4 : r3 = [] := h4
  subst h4
  exact ⟨⟨n1, n2, n3⟩, ⟨wf_in h2, wf_in h3⟩, rfl⟩
theorem dacts_of {w : World} (R : List (List Value)) (h : ∀ r ∈ R, Has w (.pair (.int .i64) (.pair (.int .i64) (.pair (.int .i64) .unit))) r) : ∃ l : List ActD, R = rowsD l ∧ ∀ a ∈ l, a.ok := by
  induction R with
  | nil => exact ⟨[], rfl, fun a h => by cases h⟩
  | cons r R ih =>
    obtain ⟨a, ha, rfl⟩ := actd_of (h r (by simp))
    obtain ⟨l, rfl, hl⟩ := ih fun q hq => h q (by simp [hq])
    refine ⟨a :: l, rfl, fun b hb => ?_⟩
    rcases List.mem_cons.1 hb with rfl | hb
    · exact ha
    · exact hl b hb
/-- A call's cells. -/
def ActC (b o : Nat) (a : ActD) (w : World) : Prop := w.cell? ⟨b, o, none⟩ = some (.int .i64 a.kind) ∧ w.cell? ⟨b, o + 1, none⟩ = some (.int .i64 a.n) ∧ w.cell? ⟨b, o + 2, none⟩ = some (.int .i64 a.m)
theorem dacts_came {w : World} {A : Option Addr} {len cap : Nat} (h : Has w (.slice (.pair (.int .i64) (.pair (.int .i64) (.pair (.int .i64) .unit)))) [.slice A len cap]) :
    ∃ l : List ActD, l.length = len ∧ (∀ a ∈ l, a.ok) ∧ ∀ k (hk : k < l.length), ∃ b o, A = some ⟨b, o, none⟩ ∧ ∀ w', Below w.heap.size w w' → ActC b (o + k * 3) l[k] w' := by
  obtain ⟨R, h1, h2, h3⟩ := rdk_came h
  obtain ⟨l, rfl, hl⟩ := dacts_of R h2
  refine ⟨l, by rw [← h1, rowsD_len], hl, fun k hk => ?_⟩
  obtain ⟨b, o, ha, hb, _, hx⟩ := h3.at_ (k := k) (by rw [rowsD_len]; exact hk)
  have hc : ∀ j x, l[k].row[j]? = some x → ∀ w', Below w.heap.size w w' → w'.cell? ⟨b, o + k * 3 + j, none⟩ = some x := fun j x hj w' hq =>
    (hq.cell (p := ⟨b, o + k * 3 + j, none⟩) hb).trans (hx k _ (rowsD_get l k hk) j x hj)
  exact ⟨b, o, ha, fun w' hq => ⟨hc 0 _ rfl w' hq, hc 1 _ rfl w' hq, hc 2 _ rfl w' hq⟩⟩
end Go.Proofs.YthpijibcfkcenaaDoor
