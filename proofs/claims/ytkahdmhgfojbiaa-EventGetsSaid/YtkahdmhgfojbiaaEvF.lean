/- Plain facts on the numbers of an event by their cells; what Check, of package event, comes to. Conditions: as stated. -/
import Derived.Test.YtkahdmhgfojbiaaEvN
import Derived.Test.YtkahdmhgfojbiaaEvtT
namespace Go.Proofs.Ytkahdmhgfojbiaa
open Go.ChangeShapes Go.WideShapes Go.ChangeAt Go.RowKit
set_option linter.unusedVariables false
set_option maxRecDepth 100000
set_option linter.unusedSimpArgs false

/-! ### Plain -/
def setE (v : Evt) (j : Nat) (x : Int) : Evt := if j = 1 then { v with n := x } else if j = 2 then { v with j := x } else if j = 3 then { v with i := x } else if j = 4 then { v with p := x } else if j = 5 then { v with r := ⟨x, v.r.b, v.r.c⟩ } else if j = 6 then { v with r := ⟨v.r.a, x, v.r.c⟩ } else { v with r := ⟨v.r.a, v.r.b, x⟩ }
theorem setE_cells (v : Evt) (j : Nat) (x : Int) (h : 1 ≤ j ∧ j < 8) : v.cells.setIfInBounds j (.int .i64 x) = (setE v j x).cells := by
  rcases (by omega : j = 1 ∨ j = 2 ∨ j = 3 ∨ j = 4 ∨ j = 5 ∨ j = 6 ∨ j = 7) with rfl | rfl | rfl | rfl | rfl | rfl | rfl <;> rfl
theorem setE_k (v : Evt) (j : Nat) (x : Int) : (setE v j x).k = v.k := by unfold setE; (repeat' split) <;> rfl
theorem setE_ok (v : Evt) (j : Nat) (x : Int) (hv : v.ok) (hx : inI x) : (setE v j x).ok := by
  obtain ⟨h1, h2, h3, h4, h5, h6, h7, h8⟩ := hv
  unfold setE
  (repeat' split) <;> exact ⟨by assumption, by assumption, by assumption, by assumption, by assumption, by assumption, by assumption, by assumption⟩
/-- The numbers laid into the cells, in order. -/
def layE : List Nat → List Int → Evt → Evt
  | j :: ks, x :: xs, v => layE ks xs (setE v j x)
  | _, _, v => v
theorem layE_k : ∀ (ks : List Nat) (xs : List Int) (v : Evt), (layE ks xs v).k = v.k
  | [], _, _ => by unfold layE; rfl
  | _ :: _, [], _ => by unfold layE; rfl
  | j :: ks, x :: xs, v => by rw [layE, layE_k ks xs, setE_k]
theorem layE_snoc (v : Evt) (j : Nat) (x : Int) : ∀ (ks : List Nat) (xs : List Int) (u : Evt), ks.length = xs.length → layE (ks ++ [j]) (xs ++ [x]) u = setE (layE ks xs u) j x
  | [], [], _, _ => rfl
  | k :: ks, y :: xs, u, h => by
    rw [List.cons_append, List.cons_append, layE, layE, layE_snoc v j x ks xs _ (by simpa using h)]
theorem idx_cases (k : Int) : (k = 1 ∧ idxE k = [1, 3, 5, 6, 7] ∧ lettersE k = [78, 73, 82]) ∨ (k = 2 ∧ idxE k = [1, 3, 5, 6, 7] ∧ lettersE k = [78, 73, 82]) ∨ (k = 3 ∧ idxE k = [1, 3] ∧ lettersE k = [78, 73]) ∨ (k = 4 ∧ idxE k = [2, 4, 5, 6, 7] ∧ lettersE k = [74, 80, 82]) ∨
    (k = 5 ∧ idxE k = [2] ∧ lettersE k = [74]) ∨ (k = 6 ∧ idxE k = [2, 1, 3] ∧ lettersE k = [74, 78, 73]) ∨ (k = 7 ∧ idxE k = [2, 1, 3] ∧ lettersE k = [74, 78, 73]) ∨ (idxE k = [] ∧ lettersE k = []) := by
  by_cases h1 : k = 1; · subst h1; exact .inl ⟨rfl, rfl, rfl⟩
  by_cases h2 : k = 2; · subst h2; exact .inr (.inl ⟨rfl, rfl, rfl⟩)
  by_cases h3 : k = 3; · subst h3; exact .inr (.inr (.inl ⟨rfl, rfl, rfl⟩))
  by_cases h4 : k = 4; · subst h4; exact .inr (.inr (.inr (.inl ⟨rfl, rfl, rfl⟩)))
  by_cases h5 : k = 5; · subst h5; exact .inr (.inr (.inr (.inr (.inl ⟨rfl, rfl, rfl⟩))))
  by_cases h6 : k = 6; · subst h6; exact .inr (.inr (.inr (.inr (.inr (.inl ⟨rfl, rfl, rfl⟩)))))
  by_cases h7 : k = 7; · subst h7; exact .inr (.inr (.inr (.inr (.inr (.inr (.inl ⟨rfl, rfl, rfl⟩))))))
  refine .inr (.inr (.inr (.inr (.inr (.inr (.inr ⟨?_, ?_⟩))))))
  · unfold idxE; rw [if_neg (by omega), if_neg h3, if_neg h4, if_neg h5, if_neg (by omega)]
  · unfold lettersE; rw [if_neg (by omega), if_neg h3, if_neg h4, if_neg h5, if_neg (by omega)]
theorem idx_none (k : Int) : idxE k = [] ↔ lettersE k = [] := by
  rcases idx_cases k with ⟨_, h1, h2⟩ | ⟨_, h1, h2⟩ | ⟨_, h1, h2⟩ | ⟨_, h1, h2⟩ | ⟨_, h1, h2⟩ | ⟨_, h1, h2⟩ | ⟨_, h1, h2⟩ | ⟨h1, h2⟩ <;> rw [h1, h2] <;> simp
theorem idx_len (k : Int) : (idxE k).length = manyE (lettersE k) := by
  rcases idx_cases k with ⟨_, h1, h2⟩ | ⟨_, h1, h2⟩ | ⟨_, h1, h2⟩ | ⟨_, h1, h2⟩ | ⟨_, h1, h2⟩ | ⟨_, h1, h2⟩ | ⟨_, h1, h2⟩ | ⟨h1, h2⟩ <;> rw [h1, h2] <;> rfl
theorem idx_lt (k : Int) : ∀ j ∈ idxE k, 1 ≤ j ∧ j < 8 := by
  rcases idx_cases k with ⟨_, h1, h2⟩ | ⟨_, h1, h2⟩ | ⟨_, h1, h2⟩ | ⟨_, h1, h2⟩ | ⟨_, h1, h2⟩ | ⟨_, h1, h2⟩ | ⟨_, h1, h2⟩ | ⟨h1, h2⟩ <;> rw [h1] <;> decide
theorem idx_nums (v : Evt) (k : Int) : numsE v (lettersE k) = (idxE k).map fun j => (intsE v).getD j 0 := by
  rcases idx_cases k with ⟨_, h1, h2⟩ | ⟨_, h1, h2⟩ | ⟨_, h1, h2⟩ | ⟨_, h1, h2⟩ | ⟨_, h1, h2⟩ | ⟨_, h1, h2⟩ | ⟨_, h1, h2⟩ | ⟨h1, h2⟩ <;> rw [h1, h2] <;> rfl
theorem idx_all (v : Evt) (k : Int) : (lettersE k).all (okFv v) = (idxE k).all (okAt v) := by
  have a1 : okFv v 78 = okAt v 1 := by unfold okFv okAt rightN; simp [Bool.decide_and]
  have a2 : okFv v 74 = okAt v 2 := by unfold okFv okAt rightN; simp [Bool.decide_and]
  have a3 : okFv v 73 = okAt v 3 := by unfold okFv okAt rightN; simp [Bool.decide_and]
  have a4 : okFv v 80 = okAt v 4 := by unfold okFv okAt rightN; simp [Bool.decide_and]
  have a5 : okFv v 82 = rightB v.r := by unfold okFv; simp
  have a6 : ∀ j, 5 ≤ j → okAt v j = rightB v.r := fun j h => by unfold okAt; rw [if_neg (by omega), if_neg (by omega), if_neg (by omega), if_neg (by omega)]
  rcases idx_cases k with ⟨_, h1, h2⟩ | ⟨_, h1, h2⟩ | ⟨_, h1, h2⟩ | ⟨_, h1, h2⟩ | ⟨_, h1, h2⟩ | ⟨_, h1, h2⟩ | ⟨_, h1, h2⟩ | ⟨h1, h2⟩ <;> rw [h1, h2] <;>
    simp [List.all_cons, a1, a2, a3, a4, a5, a6 5, a6 6, a6 7]
theorem idx_made (k : Int) (l : List Int) (h : l.length = (idxE k).length) : layE (idxE k) l ⟨k, 0, 0, 0, 0, zero3⟩ = madeE k l := by
  unfold madeE
  rcases idx_cases k with ⟨_, h1, h2⟩ | ⟨_, h1, h2⟩ | ⟨_, h1, h2⟩ | ⟨_, h1, h2⟩ | ⟨_, h1, h2⟩ | ⟨_, h1, h2⟩ | ⟨_, h1, h2⟩ | ⟨h1, h2⟩ <;> rw [h1] at h ⊢ <;> rw [h2]
  · obtain ⟨a, b, c, d, e, rfl⟩ := len5 h; rfl
  · obtain ⟨a, b, c, d, e, rfl⟩ := len5 h; rfl
  · obtain ⟨a, b, rfl⟩ := len2 h; rfl
  · obtain ⟨a, b, c, d, e, rfl⟩ := len5 h; rfl
  · obtain ⟨a, rfl⟩ := len1 h; rfl
  · obtain ⟨a, b, c, rfl⟩ := len3 h; rfl
  · obtain ⟨a, b, c, rfl⟩ := len3 h; rfl
  · obtain rfl := List.eq_nil_of_length_eq_zero h; rfl
/-- What is left of an event without its kind's numbers. -/
def bareE (v : Evt) (m : Nat) : Evt := layE ((idxE v.k).take m) (List.replicate m 0) v
theorem bareE_zero (v : Evt) : bareE v 0 = v := by unfold bareE; rw [List.take_zero]; rfl
theorem bareE_succ (v : Evt) (m : Nat) (j : Nat) (h : (idxE v.k)[m]? = some j) : bareE v (m + 1) = setE (bareE v m) j 0 := by
  obtain ⟨hm, hj⟩ := List.getElem?_eq_some_iff.1 h
  unfold bareE
  rw [List.take_succ_eq_append_getElem hm, hj, List.replicate_succ', layE_snoc v j 0 _ _ _ (by simp; omega)]
theorem bareE_k (v : Evt) (m : Nat) : (bareE v m).k = v.k := layE_k _ _ _
theorem bare_pure (v : Evt) (h : idxE v.k ≠ []) : eqE (bareE v (idxE v.k).length) ⟨v.k, 0, 0, 0, 0, zero3⟩ = eqE (pureE v) v := by
  rw [Bool.eq_iff_iff, eqE_iff, eqE_iff]
  have hl : lettersE v.k ≠ [] := fun e => h ((idx_none _).2 e)
  have hp : pureE v = layE (idxE v.k) ((idxE v.k).map fun j => (intsE v).getD j 0) ⟨v.k, 0, 0, 0, 0, zero3⟩ := by
    unfold pureE; rw [if_neg hl, idx_nums, ← idx_made _ _ (by simp)]
  rw [hp]
  unfold bareE
  rw [List.take_length]
  obtain ⟨k, n, j, i, p, ⟨a, b, c⟩⟩ := v
  dsimp only at h ⊢
  rcases idx_cases k with ⟨_, h1, h2⟩ | ⟨_, h1, h2⟩ | ⟨_, h1, h2⟩ | ⟨_, h1, h2⟩ | ⟨_, h1, h2⟩ | ⟨_, h1, h2⟩ | ⟨_, h1, h2⟩ | ⟨h1, h2⟩
  all_goals first
    | exact absurd h1 h
    | (rw [h1]; simp [layE, setE, intsE, zero3, List.replicate]; (try constructor) <;> intros <;> (try simp_all) <;> omega)
end Go.Proofs.Ytkahdmhgfojbiaa
