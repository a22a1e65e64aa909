/- A row of cells written one after the other: a struct's block written all over; a struct's result. Of any program. Conditions: as stated. -/
import Derived.Test.YtgooepfhapaenaaGreatKit
namespace Go.Proofs.YtgooepfhapaenaaGreat
open Go.ChangeShapes Go.WideShapes Go.ChangeAt Go.RowKit
set_option linter.unusedVariables false
set_option maxRecDepth 100000

/-- The values written from cell i on. -/
def setRow (w : World) (b : Nat) : Nat → List Value → World
  | _, [] => w
  | i, v :: vs => setRow (w.setCell ⟨b, i, none⟩ v) b (i + 1) vs
theorem setRow_blk {b : Nat} {t : TypeId} : ∀ (vs old pre : List Value) (w : World), old.length = vs.length → w.heap[b]? = some (.cells (pre ++ old).toArray t (0, 0)) → (setRow w b pre.length vs).heap[b]? = some (.cells (pre ++ vs).toArray t (0, 0))
  | [], old, pre, w, hl, h => by
    have : old = [] := List.eq_nil_of_length_eq_zero hl
    subst this
    exact h
  | v :: vs, [], pre, w, hl, h => by simp at hl
  | v :: vs, o :: old, pre, w, hl, h => by
    have h1 := blk_set h pre.length v
    have e : (pre ++ o :: old).toArray.setIfInBounds pre.length v = ((pre ++ [v]) ++ old).toArray := by
      apply Array.toList_inj.1
      simp
    rw [e] at h1
    have ih := setRow_blk vs old (pre ++ [v]) (w.setCell ⟨b, pre.length, none⟩ v) (by simpa using hl) h1
    rw [List.length_append] at ih
    simpa [setRow] using ih
theorem setRow_all {b : Nat} {t : TypeId} {cs : Array Value} {w : World} (vs : List Value) (h : w.heap[b]? = some (.cells cs t (0, 0))) (hl : cs.size = vs.length) : (setRow w b 0 vs).heap[b]? = some (.cells vs.toArray t (0, 0)) :=
  setRow_blk vs cs.toList [] w (by simpa using hl) (by simpa using h)
theorem setRow_only (b : Nat) : ∀ (vs : List Value) (i : Nat) (w : World), Only b w (setRow w b i vs)
  | [], _, w => Only.refl b w
  | v :: vs, i, w => ((Only.refl b w).setCell i v).trans (setRow_only b vs (i + 1) _)
theorem results_ce {P : Program} {fn : Func} {p : Tmp} {ty : TypeId} (h : fn.results = #[.cell p ty]) {tmps : Array Value} {w : World} {g : Nat} {t : TypeId} {cs : Array Value} {d : TypeDesc}
    (hp : tmps.getD p undef = .pointer (some ⟨g, 0, none⟩)) (hg : w.heap[g]? = some (.cells cs t (0, 0)))
    (hu : P.underlying ty = some d) (hd : (match d with | .struct _ | .array _ _ => true | _ => false) = true) (hi : (P.info? ty).map (·.size) = some cs.size) : (results fn tmps).run P w = .ok (.agg cs) w := by
  have hp' : tmps[p]?.getD undef = .pointer (some ⟨g, 0, none⟩) := by simpa using hp
  simp [results, h, hp', asAddr, run_loadVar_row w g t ty cs (0, 0) d hg hu hd hi]
theorem results_cv {P : Program} {fn : Func} {p u : Tmp} {ty : TypeId} (h : fn.results = #[.cell p ty, .tmp u]) {tmps : Array Value} {w : World} {g : Nat} {t : TypeId} {cs : Array Value} {d : TypeDesc} {x : Value}
    (hp : tmps.getD p undef = .pointer (some ⟨g, 0, none⟩)) (hx : tmps.getD u undef = x) (hg : w.heap[g]? = some (.cells cs t (0, 0)))
    (hu : P.underlying ty = some d) (hd : (match d with | .struct _ | .array _ _ => true | _ => false) = true) (hi : (P.info? ty).map (·.size) = some cs.size) : (results fn tmps).run P w = .ok (.tuple #[.agg cs, x]) w := by
  have hp' : tmps[p]?.getD undef = .pointer (some ⟨g, 0, none⟩) := by simpa using hp
  have hx' : tmps[u]?.getD undef = x := by simpa using hx
  simp [results, h, hp', hx', asAddr, run_loadVar_row w g t ty cs (0, 0) d hg hu hd hi]
end Go.Proofs.YtgooepfhapaenaaGreat
