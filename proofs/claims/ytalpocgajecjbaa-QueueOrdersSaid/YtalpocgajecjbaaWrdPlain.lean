/- Plain facts on lines and words: no Go in sight. Conditions: none. -/
import Derived.Test.YtalpocgajecjbaaKit
import Derived.Test.YtalpocgajecjbaaDecPlain
namespace Go.Proofs.Ytalpocgajecjbaa
open Go.RowKit
set_option linter.unusedVariables false
set_option linter.unusedSimpArgs false

/-- What is open at the end. -/
def lastW (w : List UInt8) : List (List UInt8) := if w = [] then [] else [w]
/-- The lines of a text of which some bytes of a line are open. -/
def linesA : List UInt8 → List UInt8 → List (List UInt8)
  | w, [] => lastW w
  | w, c :: l => if c = 10 then w :: linesA [] l else linesA (w ++ [c]) l
def linesL (l : List UInt8) : List (List UInt8) := linesA [] l
/-- The words. -/
def wordsA : List UInt8 → List UInt8 → List (List UInt8)
  | w, [] => lastW w
  | w, c :: l => if c = 35 then lastW w else if c = 32 ∨ c = 9 then lastW w ++ wordsA [] l else wordsA (w ++ [c]) l
def wordsL (l : List UInt8) : List (List UInt8) := wordsA [] l
def joinW (l : List (List UInt8)) : List UInt8 := joinS 32 l
def textW (l : List (List UInt8)) : List UInt8 := (l.map (· ++ [10])).flatten
/-- Where something comes first. -/
def findA {α : Type} [DecidableEq α] (x : α) : List α → Option Nat
  | [] => none
  | a :: l => if a = x then some 0 else (findA x l).map (· + 1)
theorem findA_zero {α : Type} [DecidableEq α] (x : α) (l : List α) : findA x l = (findA x (l.drop 0)).map (· + 0) := by simp
theorem findA_at {α : Type} [DecidableEq α] (x : α) (l : List α) (k : Nat) (hk : k < l.length) (hI : findA x l = (findA x (l.drop k)).map (· + k)) (h : l[k] = x) : findA x l = some k := by
  rw [hI, List.drop_eq_getElem_cons hk]
  simp [findA, h]
theorem findA_next {α : Type} [DecidableEq α] (x : α) (l : List α) (k : Nat) (hk : k < l.length) (hI : findA x l = (findA x (l.drop k)).map (· + k)) (h : l[k] ≠ x) : findA x l = (findA x (l.drop (k + 1))).map (· + (k + 1)) := by
  rw [hI, List.drop_eq_getElem_cons hk]
  simp only [findA, if_neg h, Option.map_map]
  congr 1
  funext i
  simp; omega
theorem findA_end {α : Type} [DecidableEq α] (x : α) (l : List α) (k : Nat) (hk : l.length ≤ k) (hI : findA x l = (findA x (l.drop k)).map (· + k)) : findA x l = none := by
  rw [hI, List.drop_eq_nil_of_le hk]; rfl
/-- A place's number, or -1. -/
def idxI : Option Nat → Int
  | some k => k
  | none => -1
def cutA (l : List UInt8) (c : UInt8) : List UInt8 := match findA c l with
  | some k => l.take k
  | none => []
def cutB (l : List UInt8) (c : UInt8) : List UInt8 := match findA c l with
  | some k => l.drop (k + 1)
  | none => []

theorem linesA_plain (p : List UInt8) (h : (10 : UInt8) ∉ p) : ∀ w r, linesA w (p ++ r) = linesA (w ++ p) r := by
  induction p with
  | nil => intro w r; simp
  | cons c p ih =>
    intro w r
    have h1 : ¬ c = 10 := fun e => h (by simp [e])
    simp only [List.cons_append, linesA, if_neg h1]
    rw [ih (fun e => h (by simp [e]))]
    simp
theorem lines_back (l : List (List UInt8)) (h : ∀ p ∈ l, (10 : UInt8) ∉ p) : linesL (textW l) = l := by
  unfold linesL
  induction l with
  | nil => rfl
  | cons a l ih =>
    have e : textW (a :: l) = a ++ (10 :: textW l) := by simp [textW]
    rw [e, linesA_plain a (h a (by simp))]
    simp only [linesA, if_true, List.nil_append]
    rw [ih (fun p hp => h p (by simp [hp]))]
/-- A character of a word. -/
def wchar (c : UInt8) : Prop := c ≠ 35 ∧ c ≠ 32 ∧ c ≠ 9
theorem wordsA_plain (p : List UInt8) (h : ∀ c ∈ p, wchar c) : ∀ w r, wordsA w (p ++ r) = wordsA (w ++ p) r := by
  induction p with
  | nil => intro w r; simp
  | cons c p ih =>
    intro w r
    obtain ⟨h1, h2, h3⟩ := h c (by simp)
    simp only [List.cons_append, wordsA, if_neg h1]
    rw [if_neg (by intro e; rcases e with e | e; exact h2 e; exact h3 e), ih (fun c hc => h c (by simp [hc]))]
    simp
theorem words_join (l : List (List UInt8)) (h : ∀ p ∈ l, p ≠ [] ∧ ∀ c ∈ p, wchar c) (r : List UInt8) : wordsA [] (joinW l ++ 32 :: r) = l ++ wordsA [] r := by
  unfold joinW
  induction l with
  | nil => simp [joinS, wordsA, lastW]
  | cons a l ih =>
    obtain ⟨h1, h2⟩ := h a (by simp)
    cases l with
    | nil =>
      simp only [joinS]
      rw [wordsA_plain a h2]
      simp [wordsA, lastW, h1]
    | cons b l =>
      have e : joinS 32 (a :: b :: l) ++ 32 :: r = a ++ (32 :: (joinS 32 (b :: l) ++ 32 :: r)) := by simp [joinS]
      rw [e, wordsA_plain a h2]
      have e2 : wordsA ([] ++ a) (32 :: (joinS 32 (b :: l) ++ 32 :: r)) = a :: wordsA [] (joinS 32 (b :: l) ++ 32 :: r) := by
        simp [wordsA, lastW, h1]
      rw [e2, ih (fun p hp => h p (by simp [hp]))]
      rfl
theorem words_back (l : List (List UInt8)) (h : ∀ p ∈ l, p ≠ [] ∧ ∀ c ∈ p, wchar c) : wordsL ([9] ++ joinW l ++ [32, 35, 32, 120]) = l := by
  unfold wordsL
  have e : [9] ++ joinW l ++ [32, 35, 32, 120] = 9 :: (joinW l ++ 32 :: [35, 32, 120]) := by simp
  rw [e]
  have e2 : wordsA [] (9 :: (joinW l ++ 32 :: [35, 32, 120])) = wordsA [] (joinW l ++ 32 :: [35, 32, 120]) := by
    simp [wordsA, lastW]
  rw [e2, words_join l h]
  simp [wordsA, lastW]
theorem linesA_len (l : List UInt8) : ∀ w, (linesA w l).length ≤ l.length + 1 := by
  induction l with
  | nil => intro w; unfold linesA lastW; split <;> simp
  | cons c l ih =>
    intro w
    simp only [linesA]
    split
    · have := ih []; simp; omega
    · have := ih (w ++ [c]); simp; omega
theorem wordsA_len (l : List UInt8) : ∀ w, (wordsA w l).length ≤ l.length + 1 := by
  induction l with
  | nil => intro w; unfold wordsA lastW; split <;> simp
  | cons c l ih =>
    intro w
    simp only [wordsA]
    split
    · unfold lastW; split <;> simp
    · split
      · have := ih []; unfold lastW; split <;> simp <;> omega
      · have := ih (w ++ [c]); simp; omega
theorem textW_snoc (l : List (List UInt8)) (x : List UInt8) : textW (l ++ [x]) = textW l ++ (x ++ [10]) := by simp [textW]
theorem joinW_snoc (l : List (List UInt8)) (x : List UInt8) : joinW (l ++ [x]) = if l = [] then x else joinW l ++ 32 :: x := joinS_snoc 32 l x
end Go.Proofs.Ytalpocgajecjbaa
