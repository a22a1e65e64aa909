/- Plain facts on rows: no Go in sight. Conditions: none. -/
import Derived.Test.YthpijibcfkcenaaDoorPlains
namespace Go.Proofs.YthpijibcfkcenaaDoor
open Go.RowKit
set_option linter.unusedVariables false
set_option linter.unusedSimpArgs false

/-- A name with its number. -/
def partL (a : List UInt8) (n : Int) : List UInt8 := a ++ 61 :: textL n
def rowParts (w : List UInt8) (ks : List (List UInt8)) (ns : List Int) : List (List UInt8) := w :: List.zipWith partL ks ns
/-- The row. -/
def rowL (w : List UInt8) (ks : List (List UInt8)) (ns : List Int) : List UInt8 := joinW (rowParts w ks ns)
/-- The number of a part with a name. -/
def partO (a p : List UInt8) : Option Int := if p.take (a.length + 1) = a ++ [61] ∧ parE (p.drop (a.length + 1)) = 0 then some (parV (p.drop (a.length + 1))) else none
def partsO : List (List UInt8) → List (List UInt8) → Option (List Int)
  | [], [] => some []
  | a :: ks, p :: ps => match partO a p with
    | some v => (partsO ks ps).map (v :: ·)
    | none => none
  | _, _ => none
def rowO (l w : List UInt8) (ks : List (List UInt8)) : Option (List Int) := match wordsL l with
  | [] => none
  | x :: ps => if x = w then partsO ks ps else none
def rowE (l w : List UInt8) (ks : List (List UInt8)) : Nat := if (rowO l w ks).isSome then 0 else 2
def rowV (l w : List UInt8) (ks : List (List UInt8)) : List Int := (rowO l w ks).getD []
def rowW (l : List UInt8) : List UInt8 := (wordsL l).headD []
theorem partsO_len : ∀ (ks ps : List (List UInt8)) (o : List Int), partsO ks ps = some o → ks.length = ps.length ∧ o.length = ks.length
  | [], [], o, h => by simp [partsO] at h; subst h; exact ⟨rfl, rfl⟩
  | [], _ :: _, o, h => by simp [partsO] at h
  | _ :: _, [], o, h => by simp [partsO] at h
  | a :: ks, p :: ps, o, h => by
    simp only [partsO] at h
    split at h
    · obtain ⟨o', h1, rfl⟩ := Option.map_eq_some_iff.1 h
      have := partsO_len ks ps o' h1
      simp; omega
    · cases h
theorem partsO_in : ∀ (ks ps : List (List UInt8)) (o : List Int), partsO ks ps = some o → ∀ n ∈ o, inI n
  | [], [], o, h => by simp [partsO] at h; subst h; simp
  | [], _ :: _, o, h => by simp [partsO] at h
  | _ :: _, [], o, h => by simp [partsO] at h
  | a :: ks, p :: ps, o, h => by
    simp only [partsO] at h
    split at h
    · rename_i v hv
      obtain ⟨o', h1, rfl⟩ := Option.map_eq_some_iff.1 h
      intro n hn
      rcases List.mem_cons.1 hn with hn | hn
      · subst hn
        unfold partO at hv
        split at hv
        · cases hv; exact parV_in _
        · cases hv
      · exact partsO_in ks ps o' h1 n hn
    · cases h
/-- So many parts are read. -/
def PrI (ks ps : List (List UInt8)) (k : Nat) (out : List Int) : Prop := out.length = k ∧ partsO ks ps = (partsO (ks.drop k) (ps.drop k)).map (out ++ ·)
theorem prI_zero (ks ps : List (List UInt8)) : PrI ks ps 0 [] := ⟨rfl, by simp⟩
theorem prI_next {ks ps : List (List UInt8)} {k : Nat} {out : List Int} (h : PrI ks ps k out) (ha : k < ks.length) (hp : k < ps.length) (v : Int) (hv : partO ks[k] ps[k] = some v) : PrI ks ps (k + 1) (out ++ [v]) := by
  obtain ⟨h1, h2⟩ := h
  refine ⟨by simp [h1], ?_⟩
  rw [h2, List.drop_eq_getElem_cons ha, List.drop_eq_getElem_cons hp]
  simp only [partsO, hv, Option.map_map]
  congr 1
  funext x
  simp
theorem prI_bad {ks ps : List (List UInt8)} {k : Nat} {out : List Int} (h : PrI ks ps k out) (ha : k < ks.length) (hp : k < ps.length) (hv : partO ks[k] ps[k] = none) : partsO ks ps = none := by
  obtain ⟨h1, h2⟩ := h
  rw [h2, List.drop_eq_getElem_cons ha, List.drop_eq_getElem_cons hp]
  simp only [partsO, hv]; rfl
theorem prI_end {ks ps : List (List UInt8)} {k : Nat} {out : List Int} (h : PrI ks ps k out) (ha : k = ks.length) (hp : k = ps.length) : partsO ks ps = some out := by
  obtain ⟨h1, h2⟩ := h
  rw [h2, List.drop_eq_nil_of_le (by omega), List.drop_eq_nil_of_le (by omega)]
  simp [partsO]
theorem row_none {l w : List UInt8} {ks : List (List UInt8)} (h : rowO l w ks = none) : rowE l w ks = 2 ∧ rowV l w ks = [] := by
  unfold rowE rowV; rw [h]; exact ⟨rfl, rfl⟩
theorem row_some {l w : List UInt8} {ks : List (List UInt8)} {o : List Int} (h : rowO l w ks = some o) : rowE l w ks = 0 ∧ rowV l w ks = o := by
  unfold rowE rowV; rw [h]; exact ⟨rfl, rfl⟩
theorem rowO_len {l w : List UInt8} {ks : List (List UInt8)} (h : (wordsL l).length ≠ ks.length + 1) : rowO l w ks = none := by
  unfold rowO
  cases hw : wordsL l with
  | nil => rfl
  | cons x ps =>
    simp only
    split
    · cases ho : partsO ks ps with
      | none => rfl
      | some o =>
        have := (partsO_len ks ps o ho).1
        rw [hw] at h; simp at h; omega
    · rfl
theorem rowO_word {l w x : List UInt8} {ks ps : List (List UInt8)} (h : wordsL l = x :: ps) (hx : x ≠ w) : rowO l w ks = none := by
  unfold rowO; rw [h]; simp only; rw [if_neg hx]
theorem rowO_parts {l w : List UInt8} {ks ps : List (List UInt8)} (h : wordsL l = w :: ps) : rowO l w ks = partsO ks ps := by
  unfold rowO; rw [h]; simp
theorem rowV_len (l w : List UInt8) (ks : List (List UInt8)) : (rowV l w ks).length ≤ ks.length := by
  unfold rowV
  cases h : rowO l w ks with
  | none => simp
  | some o =>
    unfold rowO at h
    split at h
    · cases h
    · split at h
      · have := (partsO_len _ _ _ h).2; simp; omega
      · cases h
theorem rowV_in (l w : List UInt8) (ks : List (List UInt8)) : ∀ n ∈ rowV l w ks, inI n := by
  unfold rowV
  cases h : rowO l w ks with
  | none => simp
  | some o =>
    unfold rowO at h
    split at h
    · cases h
    · split at h
      · simpa using partsO_in _ _ _ h
      · cases h

theorem part_back (a : List UInt8) (n : Int) (hn : inI n) : partO a (partL a n) = some n := by
  have e : partL a n = (a ++ [61]) ++ textL n := by unfold partL; simp
  have h1 : (partL a n).take (a.length + 1) = a ++ [61] := by rw [e, List.take_left' (by simp)]
  have h2 : (partL a n).drop (a.length + 1) = textL n := by rw [e, List.drop_left' (by simp)]
  have h3 := par_text n hn
  unfold partO
  rw [h1, h2, if_pos ⟨rfl, h3.1⟩, h3.2]
theorem parts_back : ∀ (ks : List (List UInt8)) (ns : List Int), ks.length ≤ ns.length → (∀ n ∈ ns, inI n) → partsO ks (List.zipWith partL ks ns) = some (ns.take ks.length)
  | [], ns, _, _ => by simp [partsO]
  | a :: ks, [], h, _ => by simp at h
  | a :: ks, n :: ns, h, hi => by
    simp only [List.zipWith_cons_cons, partsO]
    rw [part_back a n (hi n (by simp)), parts_back ks ns (by simpa using h) (fun m hm => hi m (by simp [hm]))]
    simp
theorem words_join_end (l : List (List UInt8)) (h : ∀ p ∈ l, p ≠ [] ∧ ∀ c ∈ p, wchar c) : wordsL (joinW l) = l := by
  unfold wordsL joinW
  induction l with
  | nil => rfl
  | cons a l ih =>
    obtain ⟨h1, h2⟩ := h a (by simp)
    cases l with
    | nil =>
      have := wordsA_plain a h2 [] []
      simp only [List.append_nil, List.nil_append] at this
      simp only [joinS]
      rw [this]
      simp [wordsA, lastW, h1]
    | cons b l =>
      simp only [joinS]
      rw [wordsA_plain a h2]
      have e2 : wordsA ([] ++ a) (32 :: joinS 32 (b :: l)) = a :: wordsA [] (joinS 32 (b :: l)) := by
        simp [wordsA, lastW, h1]
      rw [e2, ih (fun p hp => h p (by simp [hp]))]
theorem textL_wchar (n : Int) : ∀ c ∈ textL n, wchar c := by
  intro c hc
  rcases textL_chars n c hc with h | h
  · unfold isDig at h
    refine ⟨?_, ?_, ?_⟩ <;> (intro e; subst e; simp at h)
  · subst h; exact ⟨by decide, by decide, by decide⟩
theorem row_plain (w : List UInt8) (ks : List (List UInt8)) (ns : List Int) (hw : w ≠ [] ∧ ∀ c ∈ w, wchar c) (ha : ∀ a ∈ ks, ∀ c ∈ a, wchar c) : ∀ p ∈ rowParts w ks ns, p ≠ [] ∧ ∀ c ∈ p, wchar c := by
  intro p hp
  rcases List.mem_cons.1 hp with hp | hp
  · subst hp; exact hw
  · induction ks generalizing ns with
    | nil => simp at hp
    | cons a ks ih =>
      cases ns with
      | nil => simp at hp
      | cons n ns =>
        rcases List.mem_cons.1 (by simpa only [List.zipWith_cons_cons] using hp) with h | h
        · subst h
          refine ⟨by unfold partL; simp, fun c hc => ?_⟩
          unfold partL at hc
          rcases List.mem_append.1 hc with hc | hc
          · exact ha a (by simp) c hc
          · rcases List.mem_cons.1 hc with hc | hc
            · subst hc; exact ⟨by decide, by decide, by decide⟩
            · exact textL_wchar n c hc
        · exact ih ns (fun b hb => ha b (by simp [hb])) (by simp [rowParts, h]) h
theorem row_back (w : List UInt8) (ks : List (List UInt8)) (ns : List Int) (hw : w ≠ [] ∧ ∀ c ∈ w, wchar c) (ha : ∀ a ∈ ks, ∀ c ∈ a, wchar c) (hl : ks.length ≤ ns.length) (hi : ∀ n ∈ ns, inI n) :
    rowE (rowL w ks ns) w ks = 0 ∧ rowV (rowL w ks ns) w ks = ns.take ks.length ∧ rowW (rowL w ks ns) = w := by
  have e : wordsL (rowL w ks ns) = w :: List.zipWith partL ks ns := words_join_end _ (row_plain w ks ns hw ha)
  have h1 := row_some (l := rowL w ks ns) (w := w) (ks := ks) (o := ns.take ks.length) (by rw [rowO_parts e]; exact parts_back ks ns hl hi)
  exact ⟨h1.1, h1.2, by unfold rowW; rw [e]; rfl⟩
theorem rowL_take (w : List UInt8) (ks : List (List UInt8)) (ns : List Int) : rowL w ks (ns.take ks.length) = rowL w ks ns := by
  unfold rowL rowParts
  congr 2
  induction ks generalizing ns with
  | nil => simp
  | cons a ks ih =>
    cases ns with
    | nil => simp
    | cons n ns => simp [ih]
end Go.Proofs.YthpijibcfkcenaaDoor
