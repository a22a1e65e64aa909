/- Calls of four numbers that came in. Conditions: none. -/
import Derived.Test.YtdlkpkigpnlanaaAct3
namespace Go.Proofs.Ytdlkpkigpnlanaa
open Go.ChangeShapes Go.WideShapes Go.ChangeAt Go.RowKit
set_option linter.unusedVariables false
set_option maxRecDepth 100000

/-! ### Calls that came in -/
/-- A call: its kind, three numbers. -/
structure ActE where
  kind : Int
  n : Int
  m : Int
  e : Int
def ActE.ok (a : ActE) : Prop := inI a.kind ∧ inI a.n ∧ inI a.m ∧ inI a.e
def ActE.row (a : ActE) : List Value := [.int .i64 a.kind, .int .i64 a.n, .int .i64 a.m, .int .i64 a.e]
def rowsE (l : List ActE) : List (List Value) := l.map ActE.row
theorem rowsE_len (l : List ActE) : (rowsE l).length = l.length := by simp [rowsE]
theorem rowsE_get (l : List ActE) (k : Nat) (h : k < l.length) : (rowsE l)[k]? = some l[k].row := by simp [rowsE, h]
theorem acte_of {w : World} {r : List Value} (h : Has w (.pair (.int .i64) (.pair (.int .i64) (.pair (.int .i64) (.pair (.int .i64) .unit)))) r) : ∃ a : ActE, a.ok ∧ r = a.row := by
  obtain ⟨_, r, rfl, ⟨n1, rfl, h1⟩, _, r2, rfl, ⟨n2, rfl, h2⟩, _, r3, rfl, ⟨n3, rfl, h3⟩, _, r4, rfl, ⟨n4, rfl, h4⟩, h5⟩ := h
  have h5 : r4 = [] := h5
  subst h5
  exact ⟨⟨n1, n2, n3, n4⟩, ⟨wf_in h1, wf_in h2, wf_in h3, wf_in h4⟩, rfl⟩
theorem eacts_of {w : World} (R : List (List Value)) (h : ∀ r ∈ R, Has w (.pair (.int .i64) (.pair (.int .i64) (.pair (.int .i64) (.pair (.int .i64) .unit)))) r) : ∃ l : List ActE, R = rowsE l ∧ ∀ a ∈ l, a.ok := by
  induction R with
  | nil => exact ⟨[], rfl, fun a h => by cases h⟩
  | cons r R ih =>
    obtain ⟨a, ha, rfl⟩ := acte_of (h r (by simp))
    obtain ⟨l, rfl, hl⟩ := ih fun q hq => h q (by simp [hq])
    refine ⟨a :: l, rfl, fun b hb => ?_⟩
    rcases List.mem_cons.1 hb with rfl | hb
    · exact ha
    · exact hl b hb
/-- A call's cells. -/
def AcEC (b o : Nat) (a : ActE) (w : World) : Prop := w.cell? ⟨b, o, none⟩ = some (.int .i64 a.kind) ∧ w.cell? ⟨b, o + 1, none⟩ = some (.int .i64 a.n) ∧ w.cell? ⟨b, o + 2, none⟩ = some (.int .i64 a.m) ∧ w.cell? ⟨b, o + 3, none⟩ = some (.int .i64 a.e)
theorem eacts_came {w : World} {A : Option Addr} {len cap : Nat} (h : Has w (.slice (.pair (.int .i64) (.pair (.int .i64) (.pair (.int .i64) (.pair (.int .i64) .unit))))) [.slice A len cap]) :
    ∃ l : List ActE, l.length = len ∧ (∀ a ∈ l, a.ok) ∧ ∀ k (hk : k < l.length), ∃ b o, A = some ⟨b, o, none⟩ ∧ ∀ w', Below w.heap.size w w' → AcEC b (o + k * 4) l[k] w' := by
  obtain ⟨R, h1, h2, h3⟩ := rdk_came h
  obtain ⟨l, rfl, hl⟩ := eacts_of R h2
  refine ⟨l, by rw [← h1, rowsE_len], hl, fun k hk => ?_⟩
  obtain ⟨b, o, ha, hb, _, hx⟩ := h3.at_ (k := k) (by rw [rowsE_len]; exact hk)
  have hc : ∀ j x, l[k].row[j]? = some x → ∀ w', Below w.heap.size w w' → w'.cell? ⟨b, o + k * 4 + j, none⟩ = some x := fun j x hj w' hq =>
    (hq.cell (p := ⟨b, o + k * 4 + j, none⟩) hb).trans (hx k _ (rowsE_get l k hk) j x hj)
  exact ⟨b, o, ha, fun w' hq => ⟨hc 0 _ rfl w' hq, hc 1 _ rfl w' hq, hc 2 _ rfl w' hq, hc 3 _ rfl w' hq⟩⟩
end Go.Proofs.Ytdlkpkigpnlanaa
