/- Plain facts on heaps that lie in a row: no Go in sight. Conditions: none. -/
import Derived.Test.YtalpocgajecjbaaThgMore
namespace Go.Proofs.Ytalpocgajecjbaa
open Go.RowKit
set_option linter.unusedVariables false
set_option linter.unusedSimpArgs false

/-! ### The order -/
theorem ahead_iff (x y : Thg) : aheadT x y = true ↔ lessB x.key y.key = true ∨ (x.key = y.key ∧ x.id < y.id) := by
  unfold aheadT
  rw [Bool.or_eq_true, Bool.and_eq_true, eq3_iff, decide_eq_true_iff]
theorem v3_ext {v u : V3} (h1 : v.a = u.a) (h2 : v.b = u.b) (h3 : v.c = u.c) : v = u := by cases v; cases u; simp_all
theorem ahead_lex (x y : Thg) : aheadT x y = true ↔ x.key.a < y.key.a ∨ (x.key.a = y.key.a ∧ (x.key.b < y.key.b ∨ (x.key.b = y.key.b ∧ (x.key.c < y.key.c ∨ (x.key.c = y.key.c ∧ x.id < y.id))))) := by
  rw [ahead_iff, lessB_iff]
  constructor
  · rintro (h | ⟨h, hi⟩)
    · omega
    · rw [h]; omega
  · intro h
    by_cases hk : x.key.a = y.key.a ∧ x.key.b = y.key.b ∧ x.key.c = y.key.c
    · exact .inr ⟨v3_ext hk.1 hk.2.1 hk.2.2, by omega⟩
    · exact .inl (by omega)
theorem ahead_self (x : Thg) : aheadT x x = false := by
  cases h : aheadT x x
  · rfl
  · rw [ahead_lex] at h; omega
theorem ahead_trans {x y z : Thg} (h1 : aheadT x y = true) (h2 : aheadT y z = true) : aheadT x z = true := by
  rw [ahead_lex] at *; omega
theorem ahead_asymm {x y : Thg} (h : aheadT x y = true) : aheadT y x = false := by
  cases h2 : aheadT y x
  · rfl
  · have := ahead_trans h h2; rw [ahead_self] at this; cases this
theorem ahead_total {x y : Thg} (h1 : aheadT x y = false) (h2 : aheadT y x = false) : x = y := by
  have h1' : ¬ aheadT x y = true := by rw [h1]; exact Bool.false_ne_true
  have h2' : ¬ aheadT y x = true := by rw [h2]; exact Bool.false_ne_true
  rw [ahead_lex] at h1' h2'
  cases x with | mk i k => cases y with | mk j u =>
  dsimp only at h1' h2'
  have : k = u := v3_ext (by omega) (by omega) (by omega)
  subst this
  have : i = j := by omega
  rw [this]
/-- Not behind. -/
def leT (x y : Thg) : Prop := aheadT y x = false
theorem leT_trans {x y z : Thg} (h1 : leT x y) (h2 : leT y z) : leT x z := by
  unfold leT at *
  cases h : aheadT z x
  · rfl
  · cases hxy : aheadT x y
    · have := ahead_total hxy h1; subst this; rw [h2] at h; cases h
    · have := ahead_trans h hxy; rw [h2] at this; cases this
theorem leT_of {x y : Thg} (h : aheadT x y = true) : leT x y := ahead_asymm h
theorem leT_refl (x : Thg) : leT x x := ahead_self x

/-! ### The row -/
def nth (l : List Thg) (i : Nat) : Thg := l.getD i ⟨0, zero3⟩
theorem nth_eq (l : List Thg) (i : Nat) (h : i < l.length) : nth l i = l[i] := by simp [nth, h]
theorem nth_mem (l : List Thg) (i : Nat) (h : i < l.length) : nth l i ∈ l := by rw [nth_eq l i h]; exact List.getElem_mem h
theorem mem_nth {l : List Thg} {t : Thg} (h : t ∈ l) : ∃ i, i < l.length ∧ nth l i = t := by
  obtain ⟨i, hi, e⟩ := List.getElem_of_mem h
  exact ⟨i, hi, by rw [nth_eq l i hi]; exact e⟩
theorem nth_set (l : List Thg) (i j : Nat) (x : Thg) (h : i < l.length) : nth (l.set i x) j = if i = j then x else nth l j := by
  unfold nth
  rw [List.getD_eq_getElem?_getD, List.getElem?_set, List.getD_eq_getElem?_getD]
  by_cases e : i = j
  · subst e; simp [h]
  · simp [e]
theorem nth_append (l : List Thg) (x : Thg) (j : Nat) : nth (l ++ [x]) j = if j = l.length then x else nth l j := by
  unfold nth
  rw [List.getD_eq_getElem?_getD, List.getD_eq_getElem?_getD]
  by_cases e : j = l.length
  · subst e; simp
  · rw [if_neg e]
    by_cases h : j < l.length
    · rw [List.getElem?_append_left h]
    · rw [List.getElem?_eq_none (by simp; omega), List.getElem?_eq_none (by omega)]
theorem nth_take (l : List Thg) (k j : Nat) (h : j < k) : nth (l.take k) j = nth l j := by
  unfold nth
  rw [List.getD_eq_getElem?_getD, List.getD_eq_getElem?_getD, List.getElem?_take, if_pos h]
def up (i : Nat) : Nat := (i - 1) / 2
theorem up_lt {i : Nat} (h : 0 < i) : up i < i := by unfold up; omega
def HeapOK (l : List Thg) : Prop := ∀ i, 0 < i → i < l.length → leT (nth l (up i)) (nth l i)
/-- A heap, but for what touches the gap. -/
structure Hole (l : List Thg) (g : Nat) : Prop where
  far : ∀ i, 0 < i → i < l.length → i ≠ g → up i ≠ g → leT (nth l (up i)) (nth l i)
  near : ∀ c, 0 < c → c < l.length → up c = g → 0 < g → leT (nth l (up g)) (nth l c)
theorem Hole.of_heap {l : List Thg} (h : HeapOK l) (g : Nat) : Hole l g :=
  ⟨fun i h0 hi _ _ => h i h0 hi, fun c h0 hc hu hg => by
    have h1 := h c h0 hc
    rw [hu] at h1
    exact leT_trans (h g hg (by have := up_lt h0; omega)) h1⟩
theorem Hole.grow {l : List Thg} (h : HeapOK l) (x : Thg) : Hole (l ++ [x]) l.length :=
  ⟨fun i h0 hi hg hu => by
    simp at hi
    have := up_lt h0
    rw [nth_append, nth_append, if_neg hu, if_neg hg]
    exact h i h0 (by omega), fun c h0 hc hu hg => by
    simp at hc
    have := up_lt h0
    omega⟩
theorem HeapOK.take {l : List Thg} (h : HeapOK l) (k : Nat) : HeapOK (l.take k) := fun i h0 hi => by
  rw [List.length_take] at hi
  have := up_lt h0
  rw [nth_take _ _ _ (by omega), nth_take _ _ _ (by omega)]
  exact h i h0 (by omega)
theorem Hole.up {l : List Thg} {g : Nat} (h : Hole l g) (h0 : 0 < g) (hg : g < l.length) : Hole (l.set g (nth l (up g))) (up g) := by
  have hug := up_lt h0
  refine ⟨fun i hi hl h1 h2 => ?_, fun c hc hl hu hp => ?_⟩
  · rw [List.length_set] at hl
    have hui := up_lt hi
    have hig : ¬ g = i := fun e => by subst e; exact h2 rfl
    rw [nth_set _ _ _ _ hg, nth_set _ _ _ _ hg, if_neg hig]
    by_cases e : g = Go.Proofs.Ytalpocgajecjbaa.up i
    · rw [if_pos e]; exact h.near i hi hl e.symm h0
    · rw [if_neg e]; exact h.far i hi hl (fun e => hig e.symm) (fun q => e q.symm)
  · rw [List.length_set] at hl
    have huc := up_lt hc
    have hpp := up_lt hp
    rw [nth_set _ _ _ _ hg, nth_set _ _ _ _ hg, if_neg (by omega)]
    have h1 := h.far (Go.Proofs.Ytalpocgajecjbaa.up g) hp (by omega) (by omega) (by omega)
    by_cases e : g = c
    · rw [if_pos e]; exact h1
    · rw [if_neg e]
      have h2 := h.far c hc hl (fun q => e q.symm) (by omega)
      rw [hu] at h2
      exact leT_trans h1 h2
theorem Hole.down {l : List Thg} {g a : Nat} (h : Hole l g) (ha : 0 < a) (hl : a < l.length) (hu : Go.Proofs.Ytalpocgajecjbaa.up a = g) (hm : ∀ c, 0 < c → c < l.length → Go.Proofs.Ytalpocgajecjbaa.up c = g → leT (nth l a) (nth l c)) : Hole (l.set g (nth l a)) a := by
  have hag := up_lt ha
  have hg : g < l.length := by omega
  refine ⟨fun i hi hil h1 h2 => ?_, fun c hc hcl huc hp => ?_⟩
  · rw [List.length_set] at hil
    have hui := up_lt hi
    rw [nth_set _ _ _ _ hg, nth_set _ _ _ _ hg]
    by_cases e : g = Go.Proofs.Ytalpocgajecjbaa.up i
    · rw [if_pos e, if_neg (by omega)]; exact hm i hi hil e.symm
    · rw [if_neg e]
      by_cases e2 : g = i
      · rw [if_pos e2, ← e2]; exact h.near a ha hl hu (by omega)
      · rw [if_neg e2]; exact h.far i hi hil (fun q => e2 q.symm) (fun q => e q.symm)
  · rw [List.length_set] at hcl
    have hcc := up_lt hc
    rw [nth_set _ _ _ _ hg, nth_set _ _ _ _ hg, if_pos hu.symm, if_neg (by omega)]
    have := h.far c hc hcl (by omega) (by omega)
    rw [huc] at this
    exact this
theorem Hole.fill {l : List Thg} {g : Nat} {x : Thg} (h : Hole l g) (hg : g < l.length) (h1 : 0 < g → leT (nth l (Go.Proofs.Ytalpocgajecjbaa.up g)) x) (h2 : ∀ c, 0 < c → c < l.length → Go.Proofs.Ytalpocgajecjbaa.up c = g → leT x (nth l c)) : HeapOK (l.set g x) := by
  intro i hi hil
  rw [List.length_set] at hil
  have hui := up_lt hi
  rw [nth_set _ _ _ _ hg, nth_set _ _ _ _ hg]
  by_cases e : g = i
  · subst e
    rw [if_pos rfl, if_neg (by omega)]; exact h1 hi
  · rw [if_neg e]
    by_cases e2 : g = Go.Proofs.Ytalpocgajecjbaa.up i
    · rw [if_pos e2]; exact h2 i hi hil e2.symm
    · rw [if_neg e2]; exact h.far i hi hil (fun q => e q.symm) (fun q => e2 q.symm)
theorem HeapOK.top {l : List Thg} (h : HeapOK l) (i : Nat) (hi : i < l.length) : leT (nth l 0) (nth l i) := by
  induction i using Nat.strongRecOn with
  | _ i ih =>
    by_cases h0 : i = 0
    · subst h0; exact leT_refl _
    · have := up_lt (i := i) (by omega)
      exact leT_trans (ih _ this (by omega)) (h i (by omega) hi)

/-! ### What lies in it -/
def rest (l : List Thg) (g : Nat) : List Thg := l.take g ++ l.drop (g + 1)
theorem split_at (l : List Thg) (g : Nat) (h : g < l.length) : l = l.take g ++ nth l g :: l.drop (g + 1) := by
  rw [nth_eq l g h, List.getElem_cons_drop, List.take_append_drop]
theorem self_rest (l : List Thg) (g : Nat) (h : g < l.length) : l.Perm (nth l g :: rest l g) := by
  have h1 : (l.take g ++ nth l g :: l.drop (g + 1)).Perm (nth l g :: rest l g) := List.perm_middle
  rwa [← split_at l g h] at h1
theorem set_rest (l : List Thg) (g : Nat) (x : Thg) (h : g < l.length) : (l.set g x).Perm (x :: rest l g) := by
  rw [List.set_eq_take_append_cons_drop, if_pos h]
  exact List.perm_middle
theorem perm_hole (l : List Thg) (g p : Nat) (x : Thg) (hg : g < l.length) (hp : p < l.length) (hne : g ≠ p) : ((l.set g (nth l p)).set p x).Perm (l.set g x) := by
  have h1 := self_rest (l.set g (nth l p)) p (by simpa using hp)
  rw [nth_set _ _ _ _ hg, if_neg hne] at h1
  have h2 := set_rest l g (nth l p) hg
  have h3 := (List.perm_cons _).1 (h1.symm.trans h2)
  exact (set_rest _ p x (by simpa using hp)).trans ((h3.cons x).trans (set_rest l g x hg).symm)
theorem uniq_perm {l r : List Thg} (h : l.Perm r) (hu : Uniq l) : Uniq r := by
  unfold Uniq at *
  exact (h.pairwise_iff (R := fun x y : Thg => x.id ≠ y.id) (fun {a b} e => e.symm)).1 hu
theorem uniq_mem {l : List Thg} (hu : Uniq l) {s t : Thg} (hs : s ∈ l) (ht : t ∈ l) (he : s.id = t.id) : s = t := by
  induction l with
  | nil => cases hs
  | cons a l ih =>
    obtain ⟨h1, h2⟩ := List.pairwise_cons.1 hu
    rcases List.mem_cons.1 hs with rfl | hs'
    · rcases List.mem_cons.1 ht with rfl | ht'
      · rfl
      · exact absurd he (h1 t ht')
    · rcases List.mem_cons.1 ht with rfl | ht'
      · exact absurd he.symm (h1 s hs')
      · exact ih h2 hs' ht'
theorem uniq_nth {l : List Thg} (hu : Uniq l) {i j : Nat} (hi : i < l.length) (hj : j < l.length) (he : (nth l i).id = (nth l j).id) : i = j := by
  have h := List.pairwise_iff_getElem.1 hu
  rw [nth_eq l i hi, nth_eq l j hj] at he
  rcases Nat.lt_trichotomy i j with hij | hij | hij
  · exact absurd he (h i j hi hj hij)
  · exact hij
  · exact absurd he.symm (h j i hj hi hij)
theorem drop_rest {l : List Thg} (hu : Uniq l) {g : Nat} (hg : g < l.length) {id : Int} (he : (nth l g).id = id) : dropT l id = rest l g := by
  have hs := split_at l g hg
  have hu2 := hu
  rw [hs] at hu2
  obtain ⟨_, u2, u3⟩ := List.pairwise_append.1 hu2
  have e : dropT (l.take g ++ nth l g :: l.drop (g + 1)) id = rest l g := by
    unfold dropT rest
    rw [List.filter_append, List.filter_cons]
    have h0 : ((nth l g).id != id) = false := by simp [he]
    rw [h0]
    congr 1
    · rw [List.filter_eq_self]
      intro t ht
      have := u3 t ht (nth l g) (by simp)
      rw [he] at this
      simpa using this
    · rw [if_neg (by simp), List.filter_eq_self]
      intro t ht
      have := (List.pairwise_cons.1 u2).1 t ht
      rw [he] at this
      simpa using fun q => this q.symm
  rw [hs]
  rw [e, ← hs]
/-! ### Where each stands -/
abbrev PosM := Int → Option Nat
def setM (m : PosM) (id : Int) (k : Nat) : PosM := fun i => if i = id then some k else m i
def delM (m : PosM) (id : Int) : PosM := fun i => if i = id then none else m i
structure MapR (m : PosM) (l : List Thg) (g : Nat) (x : Thg) : Prop where
  at_ : ∀ j, j < l.length → j ≠ g → m (nth l j).id = some j
  none : ∀ id, (∀ t ∈ l.set g x, t.id ≠ id) → m id = none
structure MapOK (m : PosM) (l : List Thg) : Prop where
  at_ : ∀ j, j < l.length → m (nth l j).id = some j
  none : ∀ id, (∀ t ∈ l, t.id ≠ id) → m id = none
theorem nth_set_mem (l : List Thg) (g j : Nat) (x : Thg) (hj : j < l.length) (hne : j ≠ g) : nth l j ∈ l.set g x := by
  rw [List.mem_iff_getElem]
  exact ⟨j, by simpa using hj, by rw [List.getElem_set_ne (fun e => hne e.symm), nth_eq l j hj]⟩
theorem MapR.move {m : PosM} {l : List Thg} {g p : Nat} {x : Thg} (h : MapR m l g x) (hu : Uniq (l.set g x)) (hg : g < l.length) (hp : p < l.length) (hne : g ≠ p) : MapR (setM m (nth l p).id g) (l.set g (nth l p)) p x := by
  refine ⟨fun j hj hjp => ?_, fun id hid => ?_⟩
  · rw [List.length_set] at hj
    rw [nth_set _ _ _ _ hg]
    unfold setM
    by_cases e : g = j
    · subst e; rw [if_pos rfl, if_pos rfl]
    · rw [if_neg e]
      have hne' : (nth l j).id ≠ (nth l p).id := fun q => by
        have h1 := uniq_nth hu (i := j) (j := p) (by simpa using hj) (by simpa using hp) (by rw [nth_set _ _ _ _ hg, nth_set _ _ _ _ hg, if_neg e, if_neg hne]; exact q)
        exact hjp h1
      rw [if_neg hne']
      exact h.at_ j hj (fun q => e q.symm)
  · have hpm := perm_hole l g p x hg hp hne
    have hid' : ∀ t ∈ l.set g x, t.id ≠ id := fun t ht => hid t (hpm.mem_iff.2 ht)
    unfold setM
    rw [if_neg (fun e => hid' _ (nth_set_mem l g p x hp (fun q => hne q.symm)) e.symm)]
    exact h.none id hid'
theorem MapR.fill {m : PosM} {l : List Thg} {g : Nat} {x : Thg} (h : MapR m l g x) (hu : Uniq (l.set g x)) (hg : g < l.length) : MapOK (setM m x.id g) (l.set g x) := by
  refine ⟨fun j hj => ?_, fun id hid => ?_⟩
  · rw [List.length_set] at hj
    rw [nth_set _ _ _ _ hg]
    unfold setM
    by_cases e : g = j
    · subst e; rw [if_pos rfl, if_pos rfl]
    · rw [if_neg e]
      have hne : (nth l j).id ≠ x.id := fun q => by
        have h1 := uniq_nth hu (i := j) (j := g) (by simpa using hj) (by simpa using hg) (by rw [nth_set _ _ _ _ hg, nth_set _ _ _ _ hg, if_neg e, if_pos rfl]; exact q)
        exact e h1.symm
      rw [if_neg hne]
      exact h.at_ j hj (fun q => e q.symm)
  · unfold setM
    rw [if_neg (fun e => hid x (List.mem_iff_getElem.2 ⟨g, by simpa using hg, by simp⟩) e.symm)]
    exact h.none id hid
theorem MapOK.hole {m : PosM} {l : List Thg} (h : MapOK m l) {g : Nat} (hg : g < l.length) {x : Thg} (he : x.id = (nth l g).id) : MapR m l g x :=
  ⟨fun j hj _ => h.at_ j hj, fun id hid => h.none id fun t ht => by
    rcases List.mem_cons.1 ((self_rest l g hg).mem_iff.1 ht) with rfl | ht'
    · rw [← he]; exact hid x ((set_rest l g x hg).mem_iff.2 (by simp))
    · exact hid t ((set_rest l g x hg).mem_iff.2 (by simp [ht']))⟩
theorem set_len (l : List Thg) (z x : Thg) : (l ++ [z]).set l.length x = l ++ [x] := by
  rw [List.set_append_right _ _ (Nat.le_refl _)]; simp
theorem MapOK.grow {m : PosM} {l : List Thg} (h : MapOK m l) (z x : Thg) : MapR m (l ++ [z]) l.length x :=
  ⟨fun j hj hne => by
    simp at hj
    rw [nth_append, if_neg hne]; exact h.at_ j (by omega), fun id hid => h.none id fun t ht => hid t (by rw [set_len]; simp [ht])⟩
/-- The last one goes. -/
theorem MapOK.pop {m : PosM} {l : List Thg} {n : Nat} (h : MapOK m l) (hu : Uniq l) (hn : l.length = n + 1) {id : Int} (he : (nth l n).id = id) : MapOK (delM m id) (l.take n) := by
  have hr : rest l n = l.take n := by unfold rest; rw [List.drop_eq_nil_of_le (by omega)]; simp
  refine ⟨fun j hj => ?_, fun i hi => ?_⟩
  · rw [List.length_take] at hj
    rw [nth_take _ _ _ (by omega)]
    unfold delM
    rw [if_neg (fun q => by have := uniq_nth hu (i := j) (j := n) (by omega) (by omega) (q.trans he.symm); omega)]
    exact h.at_ j (by omega)
  · unfold delM
    split
    · rfl
    · rename_i hne
      refine h.none i fun t ht q => ?_
      rcases List.mem_cons.1 ((self_rest l n (by omega)).mem_iff.1 ht) with rfl | ht'
      · exact hne (q.symm.trans he)
      · rw [hr] at ht'; exact hi t ht' q
/-- One in the midst goes, the last one is to fill its gap. -/
theorem set_take_rest (l : List Thg) (n g : Nat) (hn : l.length = n + 1) (hg : g < n) : ((l.take n).set g (nth l n)).Perm (rest l g) := by
  have h1 := set_rest (l.take n) g (nth l n) (by simp; omega)
  have h2 := self_rest l n (by omega)
  have hr : rest l n = l.take n := by unfold rest; rw [List.drop_eq_nil_of_le (by omega)]; simp
  rw [hr] at h2
  have h3 := self_rest (l.take n) g (by simp; omega)
  rw [nth_take _ _ _ hg] at h3
  have h4 := self_rest l g (by omega)
  have h5 : (nth l g :: rest l g).Perm (nth l g :: nth l n :: rest (l.take n) g) :=
    h4.symm.trans (h2.trans ((h3.cons (nth l n)).trans (List.Perm.swap _ _ _)))
  exact h1.trans ((List.perm_cons _).1 h5).symm
theorem MapOK.fall {m : PosM} {l : List Thg} {n g : Nat} (h : MapOK m l) (hu : Uniq l) (hn : l.length = n + 1) (hg : g < n) {id : Int} (he : (nth l g).id = id) : MapR (delM m id) (l.take n) g (nth l n) := by
  refine ⟨fun j hj hne => ?_, fun i hi => ?_⟩
  · rw [List.length_take] at hj
    rw [nth_take _ _ _ (by omega)]
    unfold delM
    rw [if_neg (fun q => hne (uniq_nth hu (i := j) (j := g) (by omega) (by omega) (q.trans he.symm)))]
    exact h.at_ j (by omega)
  · unfold delM
    split
    · rfl
    · rename_i hne
      refine h.none i fun t ht q => ?_
      rcases List.mem_cons.1 ((self_rest l g (by omega)).mem_iff.1 ht) with rfl | ht'
      · exact hne (q.symm.trans he)
      · exact hi t ((set_take_rest l n g hn hg).mem_iff.2 ht') q
theorem uniq_rest {l : List Thg} (hu : Uniq l) {g : Nat} (hg : g < l.length) : Uniq (rest l g) :=
  (List.pairwise_cons.1 (uniq_perm (self_rest l g hg) hu)).2
/-! ### The row in heap order against the sorted one -/
theorem find_perm {l r : List Thg} (h : l.Perm r) (id : Int) : (findT l id).isSome = (findT r id).isSome := by
  have e : ∀ s : List Thg, (findT s id).isSome = false ↔ ∀ t ∈ s, t.id ≠ id := fun s => by
    rw [← find_mem]; cases findT s id <;> simp
  cases h1 : (findT l id).isSome <;> cases h2 : (findT r id).isSome
  · rfl
  · exact absurd ((e r).2 fun t ht => (e l).1 h1 t (h.mem_iff.2 ht)) (by rw [h2]; simp)
  · exact absurd ((e l).2 fun t ht => (e r).1 h2 t (h.mem_iff.1 ht)) (by rw [h1]; simp)
  · rfl
theorem MapOK.find {m : PosM} {l : List Thg} (h : MapOK m l) (id : Int) : (m id = Option.none ∧ findT l id = Option.none) ∨ ∃ k, m id = some k ∧ k < l.length ∧ (nth l k).id = id := by
  by_cases hx : ∃ t ∈ l, t.id = id
  · obtain ⟨t, ht, rfl⟩ := hx
    obtain ⟨k, hk, rfl⟩ := mem_nth ht
    exact .inr ⟨k, h.at_ k hk, hk, rfl⟩
  · have hx' : ∀ t ∈ l, t.id ≠ id := fun t ht e => hx ⟨t, ht, e⟩
    exact .inl ⟨h.none id hx', (find_mem l id).2 hx'⟩
theorem drop_perm {l r : List Thg} (h : l.Perm r) (id : Int) : (dropT l id).Perm (dropT r id) := h.filter _
theorem put_perm (l : List Thg) (x : Thg) : (putT l x).Perm (x :: dropT l x.id) := by
  obtain ⟨a, b, h1, h2⟩ := put_split l x
  rw [h1, h2]; exact List.perm_middle
end Go.Proofs.Ytalpocgajecjbaa
