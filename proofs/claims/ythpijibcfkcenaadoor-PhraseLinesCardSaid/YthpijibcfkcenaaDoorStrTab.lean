/- A package-level table of texts: what a row's list tells of it, and its cells. Conditions: as stated. -/
import Derived.Test.YthpijibcfkcenaaDoorKit
import Derived.Lib.LaidTab
namespace Go.Proofs.YthpijibcfkcenaaDoor
open Go.ChangeShapes Go.WideShapes Go.ChangeAt Go.RowKit
set_option linter.unusedVariables false
set_option maxRecDepth 100000

/-- A table of texts as a row lists it. -/
def textData {H : Type} (ss : List (List UInt8)) : DataW H := .agg (ss.map fun s => .lit (.string s))
/-- The variable holds just these texts. -/
def TextsIs (P : Program) (w : World) (name : String) (ss : List (List UInt8)) : Prop := w.var? P name = some (ss.map fun s => Value.string (bs s)).toArray
theorem texts_cells {H : Type} {enc : TypeId × Value → H} {P : Program} {w : World} {base : Nat} {sp : Nat → Bool} {held : Bool} {fuel : Nat} {t e : TypeId} {n : Nat} {cs : List Value} {ss : List (List UInt8)} {p : List MemPlace}
    (ht : P.underlying t = some (.array n e)) (he : P.underlying e = some .string) (hce : P.cellsOf e = 1) (hct : P.cellsOf t = n) (h : DataW.trod enc P w base sp held fuel t cs = some (textData ss, p)) : cs = ss.map fun s => Value.string (bs s) := by
  cases fuel with
  | zero => simp [DataW.trod] at h
  | succ fuel =>
    simp only [DataW.trod, ht, hce, hct, Nat.mul_one] at h
    split at h
    case isFalse => cases h
    case isTrue hl =>
      obtain ⟨xs, hm, hx⟩ := Option.map_eq_some_iff.1 h
      have h1 : xs.map (·.1) = ss.map fun s => (DataW.lit (.string s) : DataW H) := by simpa [textData] using congrArg Prod.fst hx
      have h2 : xs.length = n := by simpa using Lib.mapM_length hm
      have h3 : ss.length = n := by have := congrArg List.length h1; simp at this; omega
      refine List.ext_getElem (by rw [List.length_map]; omega) fun i hi hj => ?_
      have hin : i < n := by omega
      obtain ⟨b, hb, hf⟩ := Lib.mapM_at hm i i (by simp [hin])
      obtain ⟨s, hc, rfl, _⟩ := DataW.trod_string he hf
      have q1 : cs[i]? = some (.string s) := by
        have q0 := congrArg (·[0]?) hc
        simpa [List.getElem?_take, List.getElem?_drop] using q0
      have q2 : (xs.map (·.1))[i]? = some (DataW.lit (.string s.data.toList) : DataW H) := by simp [hb]
      rw [h1] at q2
      simp only [List.getElem?_map, Option.map_eq_some_iff, DataW.lit.injEq, Lit.string.injEq] at q2
      obtain ⟨u, hu, e2⟩ := q2
      rw [List.getElem_map]
      have e3 : cs[i] = .string s := Option.some.inj ((List.getElem?_eq_getElem hi).symm.trans q1)
      have e4 : ss[i]'(by rw [h3]; exact hin) = u := Option.some.inj ((List.getElem?_eq_getElem _).symm.trans hu)
      rw [e3, e4, e2]
      rfl
/-- From the row's condition: the table stands first on the list. -/
theorem textsIs_of_head {P : Program} {W : World} {name : String} {ss : List (List UInt8)} {rest : List (String × DataW Unit)} {g : Nat} {t e : TypeId} {n : Nat}
    (hg : P.globalNamed name = some g) (hty : (P.globals[g]?).map (·.type) = some t) (ht : P.underlying t = some (.array n e)) (he : P.underlying e = some .string) (hce : P.cellsOf e = 1) (hct : P.cellsOf t = n)
    (h : laidMet P ((name, textData ss) :: rest) W) : TextsIs P W name ss := by
  obtain ⟨_, ⟨g1, t1, cs, fuel, p, q, a1, a2, a3, a4, _, _⟩, _⟩ := h
  rw [hg] at a1
  obtain rfl := Option.some.inj a1
  rw [hty] at a2
  obtain rfl := Option.some.inj a2
  unfold TextsIs
  rw [a3, ← texts_cells ht he hce hct a4]
theorem TextsIs.cell {P : Program} {W : World} {name : String} {ss : List (List UInt8)} {g : Nat} (h : TextsIs P W name ss) (hg : P.globalNamed name = some g) (i : Nat) (s : List UInt8) (hi : ss[i]? = some s) : W.cell? ⟨g, i, none⟩ = some (.string (bs s)) := by
  have := World.var?_cell hg h i
  simpa [hi] using this
theorem TextsIs.lt {P : Program} {W : World} {name : String} {ss : List (List UInt8)} {g : Nat} (h : TextsIs P W name ss) (hg : P.globalNamed name = some g) : g < W.heap.size := by
  unfold TextsIs World.var? at h
  rw [hg] at h
  rcases Nat.lt_or_ge g W.heap.size with q | q
  · exact q
  · simp [Array.getElem?_eq_none q] at h
theorem TextsIs.below {P : Program} {W W' : World} {name : String} {ss : List (List UInt8)} {g : Nat} (h : TextsIs P W name ss) (hg : P.globalNamed name = some g) (hb : Below W.heap.size W W') : TextsIs P W' name ss := by
  have hl := h.lt hg
  unfold TextsIs World.var? at h ⊢
  rw [hg] at h ⊢
  simp only [Option.bind_some] at h ⊢
  rw [hb.block g hl]
  exact h
end Go.Proofs.YthpijibcfkcenaaDoor
