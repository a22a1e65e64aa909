/- What the document's own answers for lists of numbers and for bytes as signs come to. Conditions: texts of at most 100,000 bytes, lists of at most 1,000 numbers. -/
import Derived.Test.YtkahdmhgfojbiaaDecRef
import Derived.Test.YtkahdmhgfojbiaaSame
namespace Go.Proofs.Ytkahdmhgfojbiaa
open Go.ChangeShapes Go.WideShapes Go.ChangeAt Go.RowKit
set_option linter.unusedVariables false
set_option maxRecDepth 100000
set_option linter.unusedSimpArgs false

theorem listL_snoc (p : List Int) (n : Int) : listL (p ++ [n]) = if p = [] then textL n else listL p ++ 44 :: textL n := by
  unfold listL
  rw [List.map_append, List.map_cons, List.map_nil, joinS_snoc]
  by_cases h : p = []
  · rw [if_pos h, if_pos (by simp [h])]
  · rw [if_neg h, if_neg (by simpa using h)]
theorem listL_len (ns : List Int) (hi : ∀ n ∈ ns, inI n) : ∀ k, (listL (ns.take k)).length ≤ 21 * k := by
  intro k
  induction k with
  | zero => simp [listL, joinS]
  | succ k ih =>
    by_cases h : k < ns.length
    · rw [List.take_succ_eq_append_getElem h, listL_snoc]
      have := textL_len ns[k] (hi _ (List.getElem_mem h))
      split
      · omega
      · simp; omega
    · rw [List.take_of_length_le (by omega)]
      rw [List.take_of_length_le (by omega)] at ih
      omega
/-- What is behind so many bytes of a text of numbers: done, and what is open. -/
def PlI (l : List UInt8) (i f : Nat) (out : List Int) : Prop :=
  f ≤ i ∧ f ≤ l.length ∧ out.length ≤ f ∧ (44 : UInt8) ∉ (l.drop f).take (i - f) ∧ ∃ done : List (List UInt8), done.map parV = out ∧ (∀ p ∈ done, parE p = 0) ∧ splitS 44 l = done ++ splitS 44 (l.drop f)
theorem plI_zero (l : List UInt8) : PlI l 0 0 [] := ⟨Nat.le_refl _, Nat.zero_le _, Nat.zero_le _, by simp, [], rfl, by simp, rfl⟩
theorem plI_more {l : List UInt8} {i f : Nat} {out : List Int} (h : PlI l i f out) (hi : i < l.length) (hc : l[i] ≠ 44) : PlI l (i + 1) f out := by
  obtain ⟨h1, h2, h3, h4, h5⟩ := h
  refine ⟨by omega, h2, h3, ?_, h5⟩
  rw [show i + 1 - f = (i - f) + 1 by omega, List.take_succ_eq_append_getElem (by rw [List.length_drop]; omega)]
  intro hm
  rcases List.mem_append.1 hm with hm | hm
  · exact h4 hm
  · rw [List.getElem_drop] at hm
    simp only [show f + (i - f) = i by omega, List.mem_singleton] at hm
    exact hc hm.symm
/-- The part that ends at a comma. -/
theorem plI_part {l : List UInt8} {i f : Nat} {out : List Int} (h : PlI l i f out) (hi : i < l.length) (hc : l[i] = 44) :
    splitS 44 (l.drop f) = (l.drop f).take (i - f) :: splitS 44 (l.drop (i + 1)) := by
  obtain ⟨h1, h2, h3, h4, h5⟩ := h
  have e : l.drop f = (l.drop f).take (i - f) ++ 44 :: l.drop (i + 1) := by
    conv => lhs; rw [← List.take_append_drop (i - f) (l.drop f)]
    rw [List.drop_drop, show f + (i - f) = i by omega, List.drop_eq_getElem_cons hi, hc]
  conv => lhs; rw [e]
  exact splitS_at 44 _ _ h4
theorem plI_last {l : List UInt8} {f : Nat} {out : List Int} (h : PlI l l.length f out) : splitS 44 (l.drop f) = [(l.drop f).take (l.length - f)] := by
  obtain ⟨h1, h2, h3, h4, h5⟩ := h
  have e : (l.drop f).take (l.length - f) = l.drop f := List.take_of_length_le (by rw [List.length_drop]; omega)
  rw [e] at h4 ⊢
  exact splitS_end 44 _ h4
theorem plI_next {l : List UInt8} {i f : Nat} {out : List Int} (h : PlI l i f out) (hi : i < l.length) (hc : l[i] = 44) (hp : parE ((l.drop f).take (i - f)) = 0) : PlI l (i + 1) (i + 1) (out ++ [parV ((l.drop f).take (i - f))]) := by
  have hpart := plI_part h hi hc
  obtain ⟨h1, h2, h3, h4, done, h5, h6, h7⟩ := h
  refine ⟨Nat.le_refl _, by omega, by simp; omega, by simp, done ++ [(l.drop f).take (i - f)], by simp [h5], ?_, ?_⟩
  · intro p hp2
    rcases List.mem_append.1 hp2 with hp2 | hp2
    · exact h6 p hp2
    · obtain rfl : p = _ := by simpa using hp2
      exact hp
  · rw [h7, hpart]; simp
theorem pl_bad {l : List UInt8} {i f : Nat} {out : List Int} (h : PlI l i f out) (part : List UInt8) (hm : part ∈ splitS 44 (l.drop f)) (hp : ¬ parE part = 0) (many : Int) : plE l many = 2 ∧ plV l many = [] := by
  have e : plE l many = 2 := by
    unfold plE
    rw [if_neg]
    rintro ⟨h1, _⟩
    obtain ⟨_, _, _, _, done, _, _, h7⟩ := h
    exact hp (h1 part (by rw [h7]; exact List.mem_append_right _ hm))
  exact ⟨e, by unfold plV; rw [e, if_neg (by omega)]⟩
theorem pl_done {l : List UInt8} {f : Nat} {out : List Int} (h : PlI l l.length f out) (hp : parE ((l.drop f).take (l.length - f)) = 0) (many : Int) :
    (((out ++ [parV ((l.drop f).take (l.length - f))]).length : Int) = many → plE l many = 0 ∧ plV l many = out ++ [parV ((l.drop f).take (l.length - f))]) ∧
    (((out ++ [parV ((l.drop f).take (l.length - f))]).length : Int) ≠ many → plE l many = 2 ∧ plV l many = []) := by
  have hlast := plI_last h
  obtain ⟨_, _, _, _, done, h5, h6, h7⟩ := h
  have hs : splitS 44 l = done ++ [(l.drop f).take (l.length - f)] := by rw [h7, hlast]
  have hall : ∀ p ∈ splitS 44 l, parE p = 0 := by
    rw [hs]
    intro p hp2
    rcases List.mem_append.1 hp2 with hp2 | hp2
    · exact h6 p hp2
    · obtain rfl : p = _ := by simpa using hp2
      exact hp
  have hlen : (splitS 44 l).length = (out ++ [parV ((l.drop f).take (l.length - f))]).length := by rw [hs, ← h5]; simp
  refine ⟨fun hm => ?_, fun hm => ?_⟩
  · have e : plE l many = 0 := by unfold plE; rw [if_pos ⟨hall, by rw [hlen]; exact hm⟩]
    exact ⟨e, by unfold plV; rw [if_pos e, hs, ← h5]; simp⟩
  · have e : plE l many = 2 := by
      unfold plE; rw [if_neg]
      rintro ⟨_, h2⟩
      rw [hlen] at h2; exact hm h2
    exact ⟨e, by unfold plV; rw [e, if_neg (by omega)]⟩

def PlR (l : List UInt8) (many : Int) (w : World) (e : Ending) (w' : World) : Prop :=
  ∃ v, e = .returned (.tuple #[v, .int .i64 (plE l many)]) ∧ Rd w' w'.heap.size v (ints (plV l many)) ∧ Below w.heap.size w w'
theorem plR_bad {l : List UInt8} {many : Int} {w w' : World} (h : plE l many = 2 ∧ plV l many = []) (hb : Below w.heap.size w w') : PlR l many w (.returned (.tuple #[.slice none 0 0, .int .i64 2])) w' :=
  ⟨.slice none 0 0, by rw [h.1]; rfl, by rw [h.2]; exact Rd.nil _ _, hb⟩
def PlJ (l : List UInt8) (many : Int) (k f : Nat) (out : List Int) : Prop :=
  (k ≤ l.length ∧ PlI l k f out) ∨ (k = l.length + 1 ∧ out.length ≤ k ∧ ((out.length : Int) = many → plE l many = 0 ∧ plV l many = out) ∧ ((out.length : Int) ≠ many → plE l many = 2 ∧ plV l many = []))
end Go.Proofs.Ytkahdmhgfojbiaa
