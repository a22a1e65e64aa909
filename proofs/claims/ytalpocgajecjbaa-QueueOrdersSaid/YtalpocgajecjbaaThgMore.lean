/- More plain facts on things with keys: what is looked up, how many there are, what stands first. Conditions: none. -/
import Derived.Test.YtalpocgajecjbaaThgPlain
namespace Go.Proofs.Ytalpocgajecjbaa
open Go.RowKit
set_option linter.unusedVariables false
set_option linter.unusedSimpArgs false

/-- A thing's key. -/
def lookT (l : List Thg) (id : Int) : Option V3 := (l.find? fun t => t.id == id).map (·.key)
theorem look_find (l : List Thg) (id : Int) : (findT l id).isSome = (lookT l id).isSome := by
  unfold findT lookT
  induction l with
  | nil => rfl
  | cons a l ih =>
    by_cases h : a.id = id
    · simp [findA, h]
    · have hb : (a.id == id) = false := by simpa using h
      simp only [List.map_cons, findA, if_neg h, List.find?_cons, hb]
      rw [Option.isSome_map]; exact ih
theorem look_at (l : List Thg) (id : Int) (k : Nat) (h : findT l id = some k) : ∃ hk : k < l.length, l[k].id = id ∧ lookT l id = some l[k].key := by
  unfold findT at h
  induction l generalizing k with
  | nil => cases h
  | cons a l ih =>
    by_cases he : a.id = id
    · simp [findA, he] at h
      subst h
      exact ⟨by simp, he, by simp [lookT, he]⟩
    · simp only [List.map_cons, findA, if_neg he, Option.map_eq_some_iff] at h
      obtain ⟨j, hj, rfl⟩ := h
      obtain ⟨h1, h2, h3⟩ := ih j hj
      refine ⟨by simp; omega, by simpa using h2, ?_⟩
      have hb : (a.id == id) = false := by simpa using he
      unfold lookT at h3 ⊢
      rw [List.find?_cons, hb]
      simpa using h3
theorem look_none (l : List Thg) (id : Int) (h : findT l id = none) : lookT l id = none := by
  have := look_find l id
  rw [h] at this
  cases hl : lookT l id
  · rfl
  · rw [hl] at this; cases this
theorem look_drop (l : List Thg) (j i : Int) : lookT (dropT l j) i = if i = j then none else lookT l i := by
  unfold lookT dropT
  induction l with
  | nil => simp
  | cons a l ih =>
    by_cases ha : a.id = j
    · have hb : (a.id != j) = false := by simp [ha]
      rw [List.filter_cons, hb]
      simp only [Bool.false_eq_true, if_false]
      rw [ih, List.find?_cons]
      by_cases hi : i = j
      · rw [if_pos hi, if_pos hi]
      · have : (a.id == i) = false := by simp [ha]; exact fun e => hi e.symm
        rw [if_neg hi, this]; simp [hi]
    · have hb : (a.id != j) = true := by simpa using ha
      rw [List.filter_cons, hb]
      simp only [if_true]
      rw [List.find?_cons, List.find?_cons]
      by_cases hai : a.id = i
      · have : (a.id == i) = true := by simpa using hai
        rw [this, if_neg (fun e => ha (hai.trans e))]
      · have : (a.id == i) = false := by simpa using hai
        rw [this]; exact ih
theorem put_split (l : List Thg) (x : Thg) : ∃ a b, dropT l x.id = a ++ b ∧ putT l x = a ++ x :: b :=
  ⟨_, _, (List.takeWhile_append_dropWhile).symm, rfl⟩
theorem look_put (l : List Thg) (x : Thg) (i : Int) : lookT (putT l x) i = if i = x.id then some x.key else lookT l i := by
  obtain ⟨a, b, h1, h2⟩ := put_split l x
  have hd := look_drop l x.id i
  rw [h1] at hd
  rw [h2]
  unfold lookT at hd ⊢
  rw [List.find?_append] at hd ⊢
  by_cases hi : i = x.id
  · rw [if_pos hi] at hd ⊢
    cases ha : a.find? (fun t => t.id == i) with
    | none => rw [List.find?_cons]; simp [hi]
    | some t => rw [ha] at hd; simp at hd
  · rw [if_neg hi] at hd ⊢
    have : (x.id == i) = false := by simp; exact fun e => hi e.symm
    rw [List.find?_cons, this]
    exact hd
theorem drop_put (l : List Thg) (x : Thg) : dropT (putT l x) x.id = dropT l x.id := by
  obtain ⟨a, b, h1, h2⟩ := put_split l x
  have hd : dropT (dropT l x.id) x.id = dropT l x.id := by unfold dropT; rw [List.filter_filter]; simp
  rw [h2]
  rw [h1] at hd ⊢
  unfold dropT at hd ⊢
  rw [List.filter_append, List.filter_cons] at *
  simpa using hd
theorem put_len (l : List Thg) (x : Thg) : (putT l x).length = (dropT l x.id).length + 1 := by
  obtain ⟨a, b, h1, h2⟩ := put_split l x
  rw [h1, h2]; simp; omega
/-- None twice. -/
def Uniq (l : List Thg) : Prop := l.Pairwise fun x y => x.id ≠ y.id
theorem drop_same (l : List Thg) (id : Int) (h : ∀ t ∈ l, t.id ≠ id) : dropT l id = l := by
  unfold dropT
  rw [List.filter_eq_self]
  intro t ht
  simpa using h t ht
theorem find_mem (l : List Thg) (id : Int) : findT l id = none ↔ ∀ t ∈ l, t.id ≠ id := by
  unfold findT
  induction l with
  | nil => simp [findA]
  | cons a l ih =>
    by_cases h : a.id = id
    · simp [findA, h]
    · simp [findA, h, ih]
theorem drop_len (l : List Thg) (id : Int) (hu : Uniq l) : (dropT l id).length + (if (findT l id).isSome = true then 1 else 0) = l.length := by
  induction l with
  | nil => rfl
  | cons a l ih =>
    obtain ⟨h1, h2⟩ := List.pairwise_cons.1 hu
    by_cases h : a.id = id
    · have hd : dropT (a :: l) id = l := by
        have : dropT (a :: l) id = dropT l id := by simp [dropT, h]
        rw [this, drop_same]
        intro t ht e
        exact h1 t ht (h.trans e.symm)
      have hf : (findT (a :: l) id).isSome = true := by simp [findT, findA, h]
      rw [hd, hf]; rfl
    · have hd : dropT (a :: l) id = a :: dropT l id := by simp [dropT, h]
      have hf : (findT (a :: l) id).isSome = (findT l id).isSome := by simp [findT, findA, h]
      rw [hd, hf, List.length_cons, List.length_cons, ← ih h2]; omega
theorem put_len_new (l : List Thg) (x : Thg) (hu : Uniq l) : (putT l x).length = l.length + (if (findT l x.id).isNone = true then 1 else 0) := by
  have h1 := put_len l x
  have h2 := drop_len l x.id hu
  rw [h1, ← h2]
  cases findT l x.id <;> simp
theorem find_head (a : Thg) (l : List Thg) : findT (a :: l) a.id = some 0 := by simp [findT, findA]
theorem find_tail (a : Thg) (l : List Thg) (hu : Uniq (a :: l)) : findT l a.id = none :=
  (find_mem l a.id).2 fun t ht e => (List.pairwise_cons.1 hu).1 t ht e.symm
theorem ids_drop (l : List Thg) (id : Int) : idsT (dropT l id) = (idsT l).filter (· != id) := by
  unfold idsT dropT
  rw [List.filter_map]
  rfl
end Go.Proofs.Ytalpocgajecjbaa
