/- Plain facts on waiting jobs: no Go in sight. Conditions: as stated. -/
import Derived.Test.YtalpocgajecjbaaPlains
import Derived.Test.YtalpocgajecjbaaHpqI
namespace Go.Proofs.Ytalpocgajecjbaa
open Go.RowKit
open Go.Sort (SWO)
set_option linter.unusedVariables false
set_option linter.unusedSimpArgs false

/-- The thing in a heap that stands for a job. -/
def thgJ (x : Jb) : Thg := ⟨x.id, keyJ x⟩
def thgs (l : List Jb) : List Thg := l.map thgJ
def dropJ (l : List Jb) (id : Int) : List Jb := l.filter fun t => t.id != id
def putJ (l : List Jb) (x : Jb) : List Jb := if x.prio < 0 then l else stb jobB (dropJ l x.id ++ [x])
def getJ (l : List Jb) (id : Int) : Option Jb := l.find? fun t => t.id == id
/-- The jobs stand in order, none twice; their numbers are such as an int holds, and none has a negative Prio. -/
def SortedJ (l : List Jb) : Prop := l.Pairwise (fun x y => jobB x y = true) ∧ (∀ t ∈ l, t.ok ∧ 0 ≤ t.prio) ∧ l.Pairwise (fun x y => x.id ≠ y.id)
theorem thgs_len (l : List Jb) : (thgs l).length = l.length := by simp [thgs]
theorem thgJ_ok {x : Jb} (h : x.ok) : (thgJ x).ok := by
  obtain ⟨h1, h2, h3, _⟩ := h
  refine ⟨h1, ?_, h3, h1⟩
  unfold inI at *
  show _ ∧ _
  unfold thgJ keyJ
  dsimp only
  omega
theorem ahead_thg {x y : Jb} (hx : 0 ≤ x.prio) (hy : 0 ≤ y.prio) : aheadT (thgJ x) (thgJ y) = jobB x y := by
  unfold aheadT
  show (lessB (keyJ x) (keyJ y) || (eq3 (keyJ x) (keyJ y) && decide (x.id < y.id))) = jobB x y
  rw [keyJ_less x y hx hy]
  cases he : eq3 (keyJ x) (keyJ y)
  · simp
  · have := (eq3_iff _ _).1 he
    have hid : x.id = y.id := congrArg V3.c this
    rw [hid]
    simp
theorem thgs_sorted {l : List Jb} (h : SortedJ l) : Sorted (thgs l) := by
  obtain ⟨h1, h2, h3⟩ := h
  refine ⟨?_, ?_, ?_⟩
  · unfold thgs
    rw [List.pairwise_map]
    refine List.Pairwise.imp_of_mem (fun {a b} ha hb hab => ?_) h1
    rw [ahead_thg (h2 a ha).2 (h2 b hb).2]; exact hab
  · intro t ht
    obtain ⟨x, hx, rfl⟩ := List.mem_map.1 ht
    exact thgJ_ok (h2 x hx).1
  · unfold thgs
    rw [List.pairwise_map]
    exact h3
theorem drop_thgs (l : List Jb) (id : Int) : dropT (thgs l) id = thgs (dropJ l id) := by
  unfold dropT thgs dropJ
  rw [List.filter_map]; rfl
theorem get_iff {l : List Jb} (hu : l.Pairwise (fun x y => x.id ≠ y.id)) (id : Int) (x : Jb) : getJ l id = some x ↔ x ∈ l ∧ x.id = id := by
  induction l with
  | nil => simp [getJ]
  | cons a l ih =>
    obtain ⟨h1, h2⟩ := List.pairwise_cons.1 hu
    unfold getJ at *
    rw [List.find?_cons]
    by_cases e : a.id = id
    · have : (a.id == id) = true := by simpa using e
      rw [this]
      constructor
      · intro h; cases h; exact ⟨by simp, e⟩
      · rintro ⟨hx, hxi⟩
        rcases List.mem_cons.1 hx with rfl | hx
        · rfl
        · exact absurd (e.trans hxi.symm) (h1 x hx)
    · have : (a.id == id) = false := by simpa using e
      rw [this]
      show l.find? _ = some x ↔ _
      rw [ih h2]
      constructor
      · rintro ⟨hx, hxi⟩; exact ⟨by simp [hx], hxi⟩
      · rintro ⟨hx, hxi⟩
        rcases List.mem_cons.1 hx with rfl | hx
        · exact absurd hxi e
        · exact ⟨hx, hxi⟩
theorem get_none {l : List Jb} {id : Int} : getJ l id = none ↔ ∀ x ∈ l, x.id ≠ id := by
  unfold getJ
  rw [List.find?_eq_none]
  simp
theorem get_ext {l r : List Jb} (hl : l.Pairwise (fun x y => x.id ≠ y.id)) (hr : r.Pairwise (fun x y => x.id ≠ y.id)) {i j : Int} (h : ∀ x, (x ∈ l ∧ x.id = i) ↔ (x ∈ r ∧ x.id = j)) : getJ l i = getJ r j := by
  cases h1 : getJ l i with
  | some x => exact ((get_iff hr j x).2 ((h x).1 ((get_iff hl i x).1 h1))).symm
  | none =>
    cases h2 : getJ r j with
    | none => rfl
    | some x =>
      have := (get_iff hl i x).2 ((h x).2 ((get_iff hr j x).1 h2))
      rw [h1] at this; cases this
theorem find_thgs (l : List Jb) (id : Int) : (findT (thgs l) id).isSome = (getJ l id).isSome := by
  have e : findT (thgs l) id = none ↔ getJ l id = none := by
    rw [find_mem, get_none]
    unfold thgs
    simp only [List.mem_map, forall_exists_index, and_imp]
    constructor
    · intro h x hx; exact h _ x hx rfl
    · rintro h t x hx rfl; exact h x hx
  cases h1 : findT (thgs l) id <;> cases h2 : getJ l id
  · rfl
  · rw [e.1 h1] at h2; cases h2
  · rw [e.2 h2] at h1; cases h1
  · rfl
/-! ### The document's row is in order -/
theorem fold_sorted : ∀ (l acc : List Jb), (acc ++ l).Pairwise (fun x y => jobB y x = false) → l.foldl (fun acc x => ins jobB x acc) acc = acc ++ l
  | [], acc, _ => by simp
  | a :: l, acc, h => by
    have h1 : ∀ b ∈ acc, jobB a b = false := fun b hb => (List.pairwise_append.1 h).2.2 b hb a (by simp)
    have e : ins jobB a acc = acc ++ [a] := by
      have := ins_at (lt := jobB) a acc [] h1 (by simp)
      simpa using this
    rw [List.foldl_cons, e, fold_sorted l (acc ++ [a]) (by simpa using h)]
    simp
theorem stb_sorted {l : List Jb} (h : l.Pairwise (fun x y => jobB x y = true)) : stb jobB l = l := by
  have := fold_sorted l [] (by simpa using h.imp fun {a b} hab => jobB_asymm hab)
  simpa [stb] using this
theorem ins_split {l : List Jb} {x : Jb} (h : l.Pairwise (fun a b => jobB a b = true)) (hne : ∀ a ∈ l, a.id ≠ x.id) : ins jobB x l = l.takeWhile (fun t => jobB t x) ++ x :: l.dropWhile (fun t => jobB t x) := by
  have e := List.takeWhile_append_dropWhile (p := fun t => jobB t x) (l := l)
  have h1 : ∀ a ∈ l.takeWhile (fun t => jobB t x), jobB x a = false := fun a ha => jobB_asymm (List.all_eq_true.1 (List.all_takeWhile (p := fun t => jobB t x) (l := l)) a ha)
  have h2 : ∀ b ∈ l.dropWhile (fun t => jobB t x), jobB x b = true := by
    intro b hb
    have hsub : ∀ t ∈ l.dropWhile (fun t => jobB t x), t ∈ l := fun t ht => (List.dropWhile_sublist _).subset ht
    have hs : (l.dropWhile (fun t => jobB t x)).Pairwise (fun a b => jobB a b = true) := h.sublist (List.dropWhile_sublist _)
    cases hd : l.dropWhile (fun t => jobB t x) with
    | nil => rw [hd] at hb; cases hb
    | cons y r =>
      have hy : jobB y x = false := by
        have := List.head?_dropWhile_not (fun t => jobB t x) l
        rw [hd] at this
        simpa using this
      have hxy : jobB x y = true := by
        rw [jobB_other x y (fun e => hne y (hsub y (by rw [hd]; simp)) e.symm), hy]; rfl
      rw [hd] at hb hs
      rcases List.mem_cons.1 hb with rfl | hb
      · exact hxy
      · exact jobB_trans hxy ((List.pairwise_cons.1 hs).1 b hb)
  have := ins_at (lt := jobB) x _ _ h1 h2
  rwa [e] at this
theorem dropJ_sorted {l : List Jb} (h : SortedJ l) (id : Int) : SortedJ (dropJ l id) :=
  ⟨h.1.filter _, fun t ht => h.2.1 t (List.mem_filter.1 ht).1, h.2.2.filter _⟩
theorem dropJ_ne {l : List Jb} {id : Int} : ∀ a ∈ dropJ l id, a.id ≠ id := fun a ha => by
  have := (List.mem_filter.1 ha).2
  simpa using this
theorem putJ_eq {l : List Jb} {x : Jb} (h : SortedJ l) (hx : 0 ≤ x.prio) : putJ l x = (dropJ l x.id).takeWhile (fun t => jobB t x) ++ x :: (dropJ l x.id).dropWhile (fun t => jobB t x) := by
  have hd := dropJ_sorted h x.id
  unfold putJ
  rw [if_neg (by omega), stb_append, stb_sorted hd.1, ins_split hd.1 dropJ_ne]
theorem put_thgs {l : List Jb} {x : Jb} (h : SortedJ l) (hx : 0 ≤ x.prio) : putT (thgs l) (thgJ x) = thgs (putJ l x) := by
  have hd := dropJ_sorted h x.id
  rw [putJ_eq h hx]
  unfold putT
  show (dropT (thgs l) x.id).takeWhile _ ++ _ :: (dropT (thgs l) x.id).dropWhile _ = _
  rw [drop_thgs]
  have hc : ∀ (r : List Jb), (∀ t ∈ r, 0 ≤ t.prio) → (thgs r).takeWhile (fun t => aheadT t (thgJ x)) = thgs (r.takeWhile (fun t => jobB t x)) ∧ (thgs r).dropWhile (fun t => aheadT t (thgJ x)) = thgs (r.dropWhile (fun t => jobB t x)) := by
    intro r
    induction r with
    | nil => intro _; exact ⟨rfl, rfl⟩
    | cons a r ih =>
      intro hr
      obtain ⟨i1, i2⟩ := ih fun t ht => hr t (by simp [ht])
      have ha := ahead_thg (hr a (by simp)) hx
      unfold thgs at *
      rw [List.map_cons, List.takeWhile_cons, List.dropWhile_cons, ha, List.takeWhile_cons, List.dropWhile_cons]
      cases jobB a x
      · exact ⟨rfl, rfl⟩
      · exact ⟨by simp [i1], by simp [i2]⟩
  obtain ⟨c1, c2⟩ := hc _ fun t ht => (hd.2.1 t ht).2
  rw [c1, c2]
  simp [thgs]
theorem putJ_perm {l : List Jb} {x : Jb} (h : SortedJ l) (hx : 0 ≤ x.prio) : (putJ l x).Perm (x :: dropJ l x.id) := by
  rw [putJ_eq h hx]
  refine List.perm_middle.trans ?_
  rw [List.takeWhile_append_dropWhile]
theorem putJ_sorted {l : List Jb} {x : Jb} (h : SortedJ l) (hx : x.ok) : SortedJ (putJ l x) := by
  by_cases hp : x.prio < 0
  · unfold putJ; rw [if_pos hp]; exact h
  · have hp : 0 ≤ x.prio := by omega
    have hs := sorted_put (thgs_sorted h) (thgJ_ok hx)
    rw [put_thgs h hp] at hs
    have hm : ∀ t ∈ putJ l x, t.ok ∧ 0 ≤ t.prio := fun t ht => by
      rcases List.mem_cons.1 ((putJ_perm h hp).mem_iff.1 ht) with rfl | ht
      · exact ⟨hx, hp⟩
      · exact (dropJ_sorted h x.id).2.1 t ht
    obtain ⟨s1, _, s3⟩ := hs
    unfold thgs at s3
    unfold thgs at s1
    rw [List.pairwise_map] at s1 s3
    exact ⟨List.Pairwise.imp_of_mem (fun {a b} ha hb hab => by rw [← ahead_thg (hm a ha).2 (hm b hb).2]; exact hab) s1, hm, s3⟩
theorem tail_sorted {t : Jb} {r : List Jb} (h : SortedJ (t :: r)) : SortedJ r :=
  ⟨(List.pairwise_cons.1 h.1).2, fun x hx => h.2.1 x (by simp [hx]), (List.pairwise_cons.1 h.2.2).2⟩
theorem tail_dropJ {t : Jb} {r : List Jb} (h : SortedJ (t :: r)) : dropJ (t :: r) t.id = r := by
  unfold dropJ
  rw [List.filter_cons]
  simp only [bne_self_eq_false, Bool.false_eq_true, if_false]
  rw [List.filter_eq_self]
  intro a ha
  have := (List.pairwise_cons.1 h.2.2).1 a ha
  simpa using fun e : a.id = t.id => this e.symm
theorem head_get {t : Jb} {r : List Jb} : getJ (t :: r) t.id = some t := by
  unfold getJ; simp
theorem get_put {l : List Jb} {x : Jb} (h : SortedJ l) (hx : x.ok) (hp : 0 ≤ x.prio) (i : Int) : getJ (putJ l x) i = if i = x.id then some x else getJ l i := by
  have hs := putJ_sorted h hx
  have hm := fun t => (putJ_perm h hp).mem_iff (a := t)
  split
  · rename_i e
    subst e
    exact (get_iff hs.2.2 _ _).2 ⟨(hm x).2 (by simp), rfl⟩
  · rename_i e
    refine get_ext hs.2.2 h.2.2 fun t => ?_
    rw [hm t, List.mem_cons]
    constructor
    · rintro ⟨rfl | ht, hi⟩
      · exact absurd hi.symm e
      · exact ⟨(List.mem_filter.1 ht).1, hi⟩
    · rintro ⟨ht, hi⟩
      exact ⟨.inr (List.mem_filter.2 ⟨ht, by simpa using fun q : t.id = x.id => e (hi.symm.trans q)⟩), hi⟩
theorem get_drop (l : List Jb) (id i : Int) : getJ (dropJ l id) i = if i = id then none else getJ l i := by
  unfold getJ dropJ
  rw [List.find?_filter]
  split
  · rename_i e
    subst e
    rw [List.find?_eq_none]
    intro x hx
    simp
  · rename_i e
    congr 1
    funext t
    by_cases ht : t.id = i
    · simp [ht, e]
    · simp [ht]
theorem putJ_len {l : List Jb} {x : Jb} (h : SortedJ l) (hx : 0 ≤ x.prio) : (putJ l x).length = l.length + if (getJ l x.id).isNone = true then 1 else 0 := by
  have h1 := (putJ_perm h hx).length_eq
  rw [List.length_cons] at h1
  have h2 := drop_len (thgs l) x.id (thgs_sorted h).2.2
  rw [drop_thgs, thgs_len, find_thgs, thgs_len] at h2
  rw [h1]
  cases hg : getJ l x.id <;> rw [hg] at h2 <;> simp at h2 ⊢ <;> omega
theorem dropJ_len {l : List Jb} {id : Int} (h : SortedJ l) : (dropJ l id).length = l.length - if (getJ l id).isSome = true then 1 else 0 := by
  have h2 := drop_len (thgs l) id (thgs_sorted h).2.2
  rw [drop_thgs, thgs_len, find_thgs, thgs_len] at h2
  cases hg : getJ l id <;> rw [hg] at h2 <;> simp at h2 ⊢ <;> omega
end Go.Proofs.Ytalpocgajecjbaa
