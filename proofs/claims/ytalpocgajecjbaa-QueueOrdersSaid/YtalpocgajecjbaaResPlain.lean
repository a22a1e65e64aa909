/- Plain facts on vectors of three numbers: no Go in sight. Conditions: none. -/
import Derived.Test.YtalpocgajecjbaaDecPlain
namespace Go.Proofs.Ytalpocgajecjbaa
open Go.RowKit
set_option linter.unusedVariables false
set_option linter.unusedSimpArgs false

/-- Three numbers. -/
structure V3 where
  a : Int
  b : Int
  c : Int
def V3.ok (v : V3) : Prop := inI v.a ∧ inI v.b ∧ inI v.c
def V3.val (v : V3) : Value := .agg #[.int .i64 v.a, .int .i64 v.b, .int .i64 v.c]
def V3.cells (v : V3) : Array Value := #[.int .i64 v.a, .int .i64 v.b, .int .i64 v.c]
def V3.list (v : V3) : List Int := [v.a, v.b, v.c]
def zero3 : V3 := ⟨0, 0, 0⟩
def unitB (n : Int) : Bool := decide (0 ≤ n) && decide (n ≤ 1048576)
def rightB (v : V3) : Bool := unitB v.a && unitB v.b && unitB v.c
def fitsB (v u : V3) : Bool := decide (v.a ≤ u.a) && decide (v.b ≤ u.b) && decide (v.c ≤ u.c)
def sumV (v u : V3) : V3 := ⟨v.a + u.a, v.b + u.b, v.c + u.c⟩
def subV (v u : V3) : V3 := ⟨v.a - u.a, v.b - u.b, v.c - u.c⟩
def addB (v u : V3) : Bool := rightB v && rightB u && rightB (sumV v u)
def addV (v u : V3) : V3 := if addB v u = true then sumV v u else zero3
def takeB (v u : V3) : Bool := rightB v && rightB u && fitsB u v
def takeV (v u : V3) : V3 := if takeB v u = true then subV v u else zero3
def lessB (v u : V3) : Bool := if v.a ≠ u.a then decide (v.a < u.a) else if v.b ≠ u.b then decide (v.b < u.b) else decide (v.c < u.c)
def mostV (v u : V3) : V3 := ⟨max v.a u.a, max v.b u.b, max v.c u.c⟩
theorem unitB_iff (n : Int) : unitB n = true ↔ 0 ≤ n ∧ n ≤ 1048576 := by simp [unitB]
theorem rightB_iff (v : V3) : rightB v = true ↔ (0 ≤ v.a ∧ v.a ≤ 1048576) ∧ (0 ≤ v.b ∧ v.b ≤ 1048576) ∧ (0 ≤ v.c ∧ v.c ≤ 1048576) := by
  simp [rightB, unitB, and_assoc]
theorem fitsB_iff (v u : V3) : fitsB v u = true ↔ v.a ≤ u.a ∧ v.b ≤ u.b ∧ v.c ≤ u.c := by simp [fitsB, and_assoc]
theorem takeB_iff (v u : V3) : takeB v u = true ↔ rightB v = true ∧ rightB u = true ∧ fitsB u v = true := by simp [takeB, and_assoc]
theorem addB_iff (v u : V3) : addB v u = true ↔ rightB v = true ∧ rightB u = true ∧ rightB (sumV v u) = true := by simp [addB, and_assoc]
/-- A vector's text, and a text's vector. -/
def text3 (v : V3) : List UInt8 := listL v.list
def parse3E (l : List UInt8) : Nat := plE l 3
def parse3V (l : List UInt8) : V3 := match plV l 3 with
  | [a, b, c] => ⟨a, b, c⟩
  | _ => zero3
theorem plV_three {l : List UInt8} (h : plE l 3 = 0) : ∃ a b c, plV l 3 = [a, b, c] ∧ inI a ∧ inI b ∧ inI c := by
  have hl : ((splitS 44 l).length : Int) = 3 := by
    unfold plE at h; split at h
    · rename_i h2; exact h2.2
    · cases h
  have e : plV l 3 = (splitS 44 l).map parV := by unfold plV; rw [if_pos h]
  match hs : splitS 44 l, hl with
  | [x, y, z], _ => exact ⟨parV x, parV y, parV z, by rw [e, hs]; rfl, parV_in x, parV_in y, parV_in z⟩
theorem parse3_back (v : V3) (h : v.ok) : parse3E (text3 v) = 0 ∧ parse3V (text3 v) = v := by
  have := pl_back v.list (by simp [V3.list]) (by intro n hn; simp [V3.list] at hn; rcases hn with rfl | rfl | rfl; exact h.1; exact h.2.1; exact h.2.2)
  have e : ((v.list.length : Nat) : Int) = 3 := rfl
  rw [e] at this
  exact ⟨this.1, by unfold parse3V text3; rw [this.2]; rfl⟩
theorem parse3_bad {l : List UInt8} (h : ¬ parse3E l = 0) : parse3E l = 2 ∧ parse3V l = zero3 := by
  have h1 : plE l 3 = 2 := by
    unfold parse3E plE at h; unfold plE
    split at h
    · exact absurd rfl h
    · rename_i hn; rw [if_neg hn]
  refine ⟨h1, ?_⟩
  unfold parse3V plV
  rw [if_neg (by rw [h1]; omega)]
theorem text3_len (v : V3) (h : v.ok) : (text3 v).length ≤ 70 := by
  have h1 := textL_len v.a h.1
  have h2 := textL_len v.b h.2.1
  have h3 := textL_len v.c h.2.2
  unfold text3 listL V3.list
  simp [joinS]; omega
/- The laws. -/
theorem takeV_addV (v u : V3) (h : addB v u = true) : takeB (addV v u) u = true ∧ takeV (addV v u) u = v := by
  have h1 := (addB_iff v u).1 h
  have e : addV v u = sumV v u := by unfold addV; rw [if_pos h]
  rw [e]
  have h2 : takeB (sumV v u) u = true := (takeB_iff _ _).2 ⟨h1.2.2, h1.2.1, (fitsB_iff _ _).2 (by
    have := (rightB_iff v).1 h1.1
    simp only [sumV]; omega)⟩
  refine ⟨h2, ?_⟩
  unfold takeV; rw [if_pos h2]
  cases v; simp [subV, sumV]
theorem addV_takeV (v u : V3) (h : takeB v u = true) : addB (takeV v u) u = true ∧ addV (takeV v u) u = v := by
  have h1 := (takeB_iff v u).1 h
  have e : takeV v u = subV v u := by unfold takeV; rw [if_pos h]
  have e2 : sumV (subV v u) u = v := by cases v; simp [subV, sumV]
  rw [e]
  have h2 : addB (subV v u) u = true := (addB_iff _ _).2 ⟨(rightB_iff _).2 (by
    have q1 := (rightB_iff v).1 h1.1
    have q2 := (rightB_iff u).1 h1.2.1
    have q3 := (fitsB_iff u v).1 h1.2.2
    simp only [subV]; omega), h1.2.1, by rw [e2]; exact h1.1⟩
  exact ⟨h2, by unfold addV; rw [if_pos h2, e2]⟩
theorem takeB_of (v u : V3) (h1 : rightB v = true) (h2 : rightB u = true) : takeB v u = fitsB u v := by unfold takeB; rw [h1, h2]; rfl
theorem lessB_self (v : V3) : lessB v v = false := by simp [lessB]
theorem lessB_iff (v u : V3) : lessB v u = true ↔ v.a < u.a ∨ (v.a = u.a ∧ (v.b < u.b ∨ (v.b = u.b ∧ v.c < u.c))) := by
  unfold lessB
  by_cases h1 : v.a = u.a
  · by_cases h2 : v.b = u.b
    · simp [h1, h2]
    · simp [h1, h2]
  · simp [h1]
theorem lessB_other (v u : V3) (h : v ≠ u) : lessB v u = !lessB u v := by
  have hne : ¬ (v.a = u.a ∧ v.b = u.b ∧ v.c = u.c) := fun ⟨h1, h2, h3⟩ => h (by cases v; cases u; simp_all)
  cases h1 : lessB v u <;> cases h2 : lessB u v
  · have a1 : ¬ lessB v u = true := by rw [h1]; simp
    have a2 : ¬ lessB u v = true := by rw [h2]; simp
    rw [lessB_iff] at a1 a2; omega
  · rfl
  · rfl
  · rw [lessB_iff] at h1 h2; omega
theorem lessB_trans (v u x : V3) (h1 : lessB v u = true) (h2 : lessB u x = true) : lessB v x = true := by
  rw [lessB_iff] at h1 h2 ⊢; omega
theorem fits_most (v u : V3) : fitsB v (mostV v u) = true ∧ fitsB u (mostV v u) = true := by
  rw [fitsB_iff, fitsB_iff]; simp only [mostV]; omega
theorem most_fits (v u x : V3) (h1 : fitsB v x = true) (h2 : fitsB u x = true) : fitsB (mostV v u) x = true := by
  rw [fitsB_iff] at h1 h2 ⊢; simp only [mostV]; omega
theorem most_comm (v u : V3) : mostV v u = mostV u v := by simp only [mostV]; congr 1 <;> omega
theorem most_self (v : V3) : mostV v v = v := by cases v; simp [mostV]
end Go.Proofs.Ytalpocgajecjbaa
