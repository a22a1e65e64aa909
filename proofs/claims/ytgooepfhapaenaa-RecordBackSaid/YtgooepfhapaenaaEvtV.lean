/- What the document's own Put of events comes to. Conditions: numbers that an int holds. -/
import Derived.Test.YtgooepfhapaenaaEvtT
import Derived.Test.YtgooepfhapaenaaOctJ
namespace Go.Proofs.Ytgooepfhapaenaa
open Go.ChangeShapes Go.WideShapes Go.ChangeAt Go.RowKit
set_option linter.unusedVariables false
set_option maxRecDepth 100000
set_option linter.unusedSimpArgs false
set_option maxHeartbeats 2000000

theorem fixS_one (k : Nat) : fixS k 1 = bs [UInt8.ofNat k] := by
  unfold fixS
  simp [fixL]
theorem kind_small {k : Int} (h : lettersE k ≠ []) : 1 ≤ k ∧ k ≤ 7 := by
  rcases letters_cases k with ⟨e, _⟩ | ⟨e, _⟩ | ⟨e, _⟩ | ⟨e, _⟩ | ⟨e, _⟩ | ⟨e, _⟩ | ⟨e, _⟩ | ⟨_, e⟩
  all_goals first | omega | exact absurd e h
theorem many_small (k : Int) : manyE (lettersE k) ≤ 5 := by
  rcases letters_cases k with ⟨_, e⟩ | ⟨_, e⟩ | ⟨_, e⟩ | ⟨_, e⟩ | ⟨_, e⟩ | ⟨_, e⟩ | ⟨_, e⟩ | ⟨_, e⟩ <;> rw [e] <;> decide
theorem bytesN_step (l : List Int) (m : Nat) (h : m < l.length) : bs (bytesN (l.take (m + 1))) = bs (bytesN (l.take m)) ++ varS l[m] := by
  unfold bytesN varS
  rw [List.take_succ_eq_append_getElem h, List.flatMap_append]
  split <;> rw [bs_append] <;> simp [*]
theorem bytesN_len : ∀ (l : List Int), (∀ n ∈ l, 0 ≤ n ∧ n ≤ 2147483647) → (bytesN l).length ≤ 9 * l.length
  | [], _ => Nat.le_refl _
  | n :: l, h => by
    obtain ⟨h0, h1⟩ := h n List.mem_cons_self
    have ih := bytesN_len l fun m hm => h m (List.mem_cons_of_mem _ hm)
    have h9 := varL_nine n.toNat (by omega)
    rw [bs_size] at h9
    unfold bytesN at ih ⊢
    rw [List.flatMap_cons, if_neg (by omega), List.length_append, List.length_cons]
    omega
theorem varS_len {n : Int} (h0 : 0 ≤ n) (h1 : n ≤ 2147483647) : (varS n).size ≤ 9 := by
  unfold varS
  rw [if_neg (by omega)]
  exact varL_nine n.toNat (by omega)
end Go.Proofs.Ytgooepfhapaenaa
/- What the document's own Get of events comes to. Conditions: texts of up to 100,000 bytes. -/
namespace Go.Proofs.Ytgooepfhapaenaa
open Go.ChangeShapes Go.WideShapes Go.ChangeAt Go.RowKit
set_option linter.unusedVariables false
set_option maxRecDepth 100000
set_option linter.unusedSimpArgs false
set_option maxHeartbeats 4000000

/-- How far the numbers are taken off: xs, the next one at a. -/
structure TkS (M : Nat) (t s : List UInt8) (xs : List Int) (a : Nat) : Prop where
  one : (takesE M t).1 = xs ++ (takesE (M - xs.length) (s.drop a)).1
  two : (takesE M t).2 = (takesE (M - xs.length) (s.drop a)).2
  len : xs.length ≤ M
  at_ : a ≤ s.length
theorem TkS.bad {M : Nat} {t s : List UInt8} {xs : List Int} {a : Nat} (h : TkS M t s xs a) (hl : xs.length < M) (he : tvE (s.drop a) ≠ 0) : (takesE M t).2.2 = tvE (s.drop a) := by
  rw [h.two]
  obtain ⟨q, hq⟩ : ∃ q, M - xs.length = q + 1 := ⟨M - xs.length - 1, by omega⟩
  rw [hq]
  unfold takesE
  rw [if_neg he]
theorem TkS.next {M : Nat} {t s : List UInt8} {xs : List Int} {a : Nat} (h : TkS M t s xs a) (hl : xs.length < M) (he : tvE (s.drop a) = 0) : TkS M t s (xs ++ [((tvV (s.drop a) : Nat) : Int)]) (a + tvM (s.drop a)) := by
  obtain ⟨q, hq⟩ : ∃ q, M - xs.length = q + 1 := ⟨M - xs.length - 1, by omega⟩
  have e : takesE (q + 1) (s.drop a) = (((tvV (s.drop a) : Nat) : Int) :: (takesE q ((s.drop a).drop (tvM (s.drop a)))).1, (takesE q ((s.drop a).drop (tvM (s.drop a)))).2) := by
    conv => lhs; unfold takesE
    rw [if_pos he]
  have h1 := h.one
  have h2 := h.two
  rw [hq, e, List.drop_drop] at h1 h2
  have hq2 : M - (xs ++ [((tvV (s.drop a) : Nat) : Int)]).length = q := by simp; omega
  refine ⟨?_, ?_, by simp; omega, ?_⟩
  · rw [hq2, h1, List.append_assoc]; rfl
  · rw [hq2, h2]
  · have := tvM_le (s.drop a)
    rw [List.length_drop] at this
    have := h.at_
    omega
theorem TkS.done {M : Nat} {t s : List UInt8} {xs : List Int} {a : Nat} (h : TkS M t s xs a) (hl : ¬ xs.length < M) : (takesE M t).1 = xs ∧ (takesE M t).2.1 = s.drop a ∧ (takesE M t).2.2 = 0 ∧ xs.length = M := by
  have e : M - xs.length = 0 := by omega
  have h1 := h.one
  have h2 := h.two
  rw [e] at h1 h2
  have hl2 := h.len
  refine ⟨?_, ?_, ?_, by omega⟩
  · rw [h1]; unfold takesE; simp
  · rw [h2]; rfl
  · rw [h2]; rfl
end Go.Proofs.Ytgooepfhapaenaa
