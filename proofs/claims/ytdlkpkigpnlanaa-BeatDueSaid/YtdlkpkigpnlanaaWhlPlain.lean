/- A wheel's slots, plain: which timers are in which slot, behind each call; the least tick; no program. Conditions: as stated. -/
import Derived.Test.YtdlkpkigpnlanaaTimPlain
namespace Go.Proofs.Ytdlkpkigpnlanaa
set_option linter.unusedVariables false

def slotOf (x : Tm) (i : Nat) : Bool := x.tick % 16 == (i : Int)
def slotL (l : List Tm) (i : Nat) : List Tm := l.filter fun x => slotOf x i
theorem slotL_len (l : List Tm) (i : Nat) : (slotL l i).length ≤ l.length := List.length_filter_le _ _
theorem mem_slotL {l : List Tm} {i : Nat} {x : Tm} : x ∈ slotL l i ↔ x ∈ l ∧ x.tick % 16 = (i : Int) := by unfold slotL slotOf; rw [List.mem_filter]; simp
def IdsW (l : List Tm) : Prop := l.Pairwise fun x y => x.id ≠ y.id
theorem tickW_some {l : List Tm} (h : IdsW l) {id t : Int} : tickW l id = some t ↔ ∃ x ∈ l, x.id = id ∧ x.tick = t := by
  unfold tickW
  induction l with
  | nil => simp
  | cons a r ih =>
    unfold IdsW at h
    rw [List.pairwise_cons] at h
    rw [List.find?_cons]
    by_cases ha : a.id = id
    · simp only [beq_iff_eq.2 ha, Option.map_some, Option.some.injEq]
      constructor
      · intro e; exact ⟨a, by simp, ha, e⟩
      · rintro ⟨x, hx, hi, ht⟩
        rw [List.mem_cons] at hx
        rcases hx with rfl | hx
        · exact ht
        · exact absurd (ha.trans hi.symm) (h.1 x hx)
    · have hb : (a.id == id) = false := by simpa using ha
      simp only [hb]
      rw [ih h.2]
      constructor
      · rintro ⟨x, hx, hh⟩; exact ⟨x, by simp [hx], hh⟩
      · rintro ⟨x, hx, hi, ht⟩
        rw [List.mem_cons] at hx
        rcases hx with rfl | hx
        · exact absurd hi ha
        · exact ⟨x, hx, hi, ht⟩
theorem tickW_none {l : List Tm} {id : Int} : tickW l id = none ↔ ∀ x ∈ l, x.id ≠ id := by
  unfold tickW
  rw [Option.map_eq_none_iff, List.find?_eq_none]
  simp
theorem tickW_isSome {l : List Tm} {id : Int} : (tickW l id).isSome = true ↔ ∃ x ∈ l, x.id = id := by
  cases h : tickW l id with
  | none =>
    rw [tickW_none] at h
    simp only [Option.isSome_none, Bool.false_eq_true, false_iff]
    rintro ⟨x, hx, hh⟩
    exact h x hx hh
  | some t =>
    simp only [Option.isSome_some, true_iff]
    unfold tickW at h
    rw [Option.map_eq_some_iff] at h
    obtain ⟨x, hx, _⟩ := h
    exact ⟨x, List.mem_of_find?_eq_some hx, by simpa using List.find?_some hx⟩
theorem idsW_filter {l : List Tm} (h : IdsW l) (p : Tm → Bool) : IdsW (l.filter p) := List.Pairwise.filter _ h
theorem tickW_ext {l r : List Tm} (hl : IdsW l) (hr : IdsW r) (h : ∀ x, x ∈ l ↔ x ∈ r) (id : Int) : tickW l id = tickW r id := by
  cases h1 : tickW r id with
  | none => rw [tickW_none] at h1 ⊢; exact fun x hx => h1 x ((h x).1 hx)
  | some t =>
    rw [tickW_some hr] at h1; rw [tickW_some hl]
    obtain ⟨x, hx, hh⟩ := h1
    exact ⟨x, (h x).2 hx, hh⟩
theorem tickW_perm {l r : List Tm} (hl : IdsW l) (h : l.Perm r) (id : Int) : tickW l id = tickW r id := tickW_ext hl ((h.pairwise_iff (fun {_ _} hne => Ne.symm hne)).1 hl) (fun x => h.mem_iff) id
/-- What a slot says of a number. -/
theorem tickW_slot {l : List Tm} (h : IdsW l) (id : Int) (i : Nat) : tickW (slotL l i) id = if tickW l id = none then none else if (tickW l id).getD 0 % 16 = (i : Int) then tickW l id else none := by
  cases h1 : tickW l id with
  | none =>
    rw [if_pos rfl, tickW_none]
    rw [tickW_none] at h1
    exact fun x hx => h1 x (mem_slotL.1 hx).1
  | some t =>
    rw [if_neg (by simp)]
    have h2 := h1
    rw [tickW_some h] at h2
    obtain ⟨x, hx, hi, ht⟩ := h2
    simp only [Option.getD_some]
    split
    · rename_i hc
      rw [tickW_some (l := slotL l i) (idsW_filter h _)]
      exact ⟨x, mem_slotL.2 ⟨hx, by rw [ht]; exact hc⟩, hi, ht⟩
    · rename_i hc
      rw [tickW_none]
      intro y hy he
      have h3 : tickW l id = some y.tick := (tickW_some h).2 ⟨y, (mem_slotL.1 hy).1, he, rfl⟩
      rw [h1] at h3
      cases h3
      exact hc (mem_slotL.1 hy).2
theorem dropW_slot (l : List Tm) (id : Int) (i : Nat) : slotL (dropW l id) i = dropW (slotL l i) id := by
  unfold slotL dropW
  rw [List.filter_filter, List.filter_filter]
  congr 1
  funext x
  rw [Bool.and_comm]
theorem tickW_dropW (l : List Tm) (id j : Int) : tickW (dropW l id) j = if j = id then none else tickW l j := by
  split
  · rename_i e
    subst e
    rw [tickW_none]
    exact fun x hx => ((mem_dropW l j x).1 hx).2
  · rename_i e
    unfold tickW dropW
    congr 1
    rw [List.find?_filter]
    congr 1
    funext x
    by_cases hx : x.id = j
    · subst hx; simp [e]
    · simp [hx]
theorem dropW_none {l : List Tm} {id : Int} (h : tickW l id = none) : dropW l id = l := by
  unfold dropW
  rw [List.filter_eq_self]
  intro x hx
  rw [tickW_none] at h
  simpa using h x hx
theorem dropW_len_eq {l : List Tm} (h : IdsW l) (id : Int) : (dropW l id).length = l.length - if (tickW l id).isSome = true then 1 else 0 := by
  induction l with
  | nil => simp [dropW, tickW]
  | cons a r ih =>
    unfold IdsW at h
    rw [List.pairwise_cons] at h
    by_cases ha : a.id = id
    · have hr : tickW r id = none := tickW_none.2 fun x hx => fun e => h.1 x hx (ha.trans e.symm)
      have h1 : dropW (a :: r) id = r := by
        have := dropW_none hr
        unfold dropW at this ⊢
        rw [List.filter_cons, this, if_neg (by simpa using ha)]
      rw [h1, if_pos (tickW_isSome.2 ⟨a, by simp, ha⟩)]
      simp
    · have h1 : dropW (a :: r) id = a :: dropW r id := by
        unfold dropW
        rw [List.filter_cons, if_pos (by simpa using ha)]
      have h2 : tickW (a :: r) id = tickW r id := by
        unfold tickW
        rw [List.find?_cons]
        have hb : (a.id == id) = false := by simpa using ha
        rw [hb]
      rw [h1, h2, List.length_cons, ih h.2, List.length_cons]
      cases hs : (tickW r id).isSome with
      | false => simp
      | true =>
        obtain ⟨x, hx, _⟩ := tickW_isSome.1 hs
        have := List.length_pos_of_mem hx
        simp only [if_true]
        omega
theorem insW_perm (l : List Tm) (x : Tm) : (insW l x).Perm (x :: l) := by
  unfold insW
  exact List.perm_middle.trans (by rw [List.take_append_drop])
theorem slotL_insW (l : List Tm) (x : Tm) (i : Nat) : (slotL (insW l x) i).Perm (if slotOf x i = true then x :: slotL l i else slotL l i) := by
  have h := (insW_perm l x).filter fun y => slotOf y i
  unfold slotL
  rw [List.filter_cons] at h
  exact h
/-- Those that are due, and those that are left. -/
theorem leftW_filter {l : List Tm} (h : l.Pairwise fun x y => tmB x y = true) (now : Int) : l.take (dueN l now) = l.filter (fun x => decide (x.tick ≤ now)) ∧ leftW l now = l.filter (fun x => !decide (x.tick ≤ now)) := by
  unfold leftW dueN
  induction l with
  | nil => simp
  | cons a r ih =>
    rw [List.pairwise_cons] at h
    rw [List.takeWhile_cons, List.filter_cons, List.filter_cons]
    by_cases ha : a.tick ≤ now
    · simp only [decide_eq_true ha, if_true, List.length_cons, List.take_succ_cons, List.drop_succ_cons, Bool.not_true, Bool.false_eq_true, if_false]
      exact ⟨by rw [(ih h.2).1], (ih h.2).2⟩
    · have hr : ∀ x ∈ r, ¬ x.tick ≤ now := fun x hx => by
        have := h.1 x hx
        unfold tmB at this
        simp only [Bool.or_eq_true, Bool.and_eq_true, decide_eq_true_eq, beq_iff_eq] at this
        omega
      simp only [decide_eq_false ha, Bool.false_eq_true, if_false, Bool.not_false, if_true, List.length_nil, List.take_zero, List.drop_zero]
      refine ⟨?_, ?_⟩
      · symm
        rw [List.filter_eq_nil_iff]
        exact fun x hx => by simpa using hr x hx
      · congr 1
        symm
        rw [List.filter_eq_self]
        exact fun x hx => by simpa using hr x hx
def dueOf (l : List Tm) (now : Int) : List Tm := l.filter fun x => decide (x.tick ≤ now)
def restOf (l : List Tm) (now : Int) : List Tm := l.filter fun x => !decide (x.tick ≤ now)
theorem slotL_restOf (l : List Tm) (now : Int) (i : Nat) : slotL (restOf l now) i = restOf (slotL l i) now := by
  unfold slotL restOf
  rw [List.filter_filter, List.filter_filter]
  congr 1
  funext x
  rw [Bool.and_comm]
theorem slotL_dueOf (l : List Tm) (now : Int) (i : Nat) : slotL (dueOf l now) i = dueOf (slotL l i) now := by
  unfold slotL dueOf
  rw [List.filter_filter, List.filter_filter]
  congr 1
  funext x
  rw [Bool.and_comm]
/-- The slots ahead of slot k, one behind the other. -/
def flatW (l : List Tm) : Nat → List Tm
  | 0 => []
  | k + 1 => flatW l k ++ slotL l k
def aheadL (l : List Tm) (k : Nat) : List Tm := l.filter fun x => decide (x.tick % 16 < (k : Int))
theorem flatW_perm (l : List Tm) (k : Nat) : (flatW l k).Perm (l.filter fun x => decide (0 ≤ x.tick % 16) && decide (x.tick % 16 < (k : Int))) := by
  induction k with
  | zero =>
    have : (l.filter fun x => decide (0 ≤ x.tick % 16) && decide (x.tick % 16 < ((0 : Nat) : Int))) = [] := by
      rw [List.filter_eq_nil_iff]
      intro x hx
      simp only [Bool.and_eq_true, decide_eq_true_eq]
      omega
    rw [this]
    exact List.Perm.refl _
  | succ k ih =>
    unfold flatW
    refine (ih.append_right _).trans ?_
    clear ih
    unfold slotL
    induction l with
    | nil => simp
    | cons a r ih =>
      rw [List.filter_cons, List.filter_cons, List.filter_cons]
      by_cases h1 : a.tick % 16 = (k : Int)
      · have e1 : (decide (0 ≤ a.tick % 16) && decide (a.tick % 16 < (k : Int))) = false := by simp; omega
        have e2 : slotOf a k = true := by simpa [slotOf] using h1
        have e3 : (decide (0 ≤ a.tick % 16) && decide (a.tick % 16 < ((k + 1 : Nat) : Int))) = true := by simp; omega
        rw [if_neg (by rw [e1]; simp), if_pos e2, if_pos e3]
        exact List.perm_middle.trans (ih.cons a)
      · have e2 : slotOf a k = false := by simpa [slotOf] using h1
        by_cases h2 : 0 ≤ a.tick % 16 ∧ a.tick % 16 < (k : Int)
        · have e1 : (decide (0 ≤ a.tick % 16) && decide (a.tick % 16 < (k : Int))) = true := by simp; omega
          have e3 : (decide (0 ≤ a.tick % 16) && decide (a.tick % 16 < ((k + 1 : Nat) : Int))) = true := by simp; omega
          rw [if_pos e1, if_neg (by rw [e2]; simp), if_pos e3, List.cons_append]
          exact ih.cons a
        · have e1 : (decide (0 ≤ a.tick % 16) && decide (a.tick % 16 < (k : Int))) = false := by
            rw [Bool.and_eq_false_iff, decide_eq_false_iff_not, decide_eq_false_iff_not]; omega
          have e3 : (decide (0 ≤ a.tick % 16) && decide (a.tick % 16 < ((k + 1 : Nat) : Int))) = false := by
            rw [Bool.and_eq_false_iff, decide_eq_false_iff_not, decide_eq_false_iff_not]; omega
          rw [if_neg (by rw [e1]; simp), if_neg (by rw [e2]; simp), if_neg (by rw [e3]; simp)]
          exact ih
theorem flatW_all (l : List Tm) : (flatW l 16).Perm l := by
  refine (flatW_perm l 16).trans ?_
  have : (l.filter fun x => decide (0 ≤ x.tick % 16) && decide (x.tick % 16 < ((16 : Nat) : Int))) = l := by
    rw [List.filter_eq_self]
    intro x hx
    simp
    omega
  rw [this]
theorem mem_flatW (l : List Tm) (k : Nat) (x : Tm) : x ∈ flatW l k ↔ ∃ i, i < k ∧ x ∈ slotL l i := by
  induction k with
  | zero => simp [flatW]
  | succ k ih =>
    unfold flatW
    rw [List.mem_append, ih]
    constructor
    · rintro (⟨i, h1, h2⟩ | h)
      · exact ⟨i, by omega, h2⟩
      · exact ⟨k, by omega, h⟩
    · rintro ⟨i, h1, h2⟩
      by_cases e : i = k
      · subst e; exact .inr h2
      · exact .inl ⟨i, by omega, h2⟩
/-- The least tick of those seen. -/
def MinW (S : List Tm) (first : Int) (found : Bool) : Prop := (found = false ∧ first = 0 ∧ S = []) ∨ (found = true ∧ (∃ x ∈ S, x.tick = first) ∧ ∀ x ∈ S, first ≤ x.tick)
theorem MinW.step {S : List Tm} {first : Int} {found : Bool} (h : MinW S first found) (x : Tm) : (found = false → MinW (S ++ [x]) x.tick true) ∧ (found = true → x.tick < first → MinW (S ++ [x]) x.tick true) ∧ (found = true → ¬ x.tick < first → MinW (S ++ [x]) first true) := by
  rcases h with ⟨h1, h2, h3⟩ | ⟨h1, ⟨y, hy, hy2⟩, h3⟩
  · subst h3
    refine ⟨fun _ => .inr ⟨rfl, ⟨x, by simp, rfl⟩, by simp⟩, ?_, ?_⟩ <;> intro h4 <;> rw [h1] at h4 <;> cases h4
  · refine ⟨?_, ?_, ?_⟩
    · intro h4; rw [h1] at h4; cases h4
    · intro _ hlt
      refine .inr ⟨rfl, ⟨x, by simp, rfl⟩, fun z hz => ?_⟩
      rw [List.mem_append] at hz
      rcases hz with hz | hz
      · have := h3 z hz; omega
      · have : z = x := by simpa using hz
        rw [this]; exact Int.le_refl _
    · intro _ hlt
      refine .inr ⟨rfl, ⟨y, by simp [hy], hy2⟩, fun z hz => ?_⟩
      rw [List.mem_append] at hz
      rcases hz with hz | hz
      · exact h3 z hz
      · have : z = x := by simpa using hz
        rw [this]; omega
theorem MinW.perm {S T : List Tm} {first : Int} {found : Bool} (h : MinW S first found) (hp : S.Perm T) : MinW T first found := by
  rcases h with ⟨h1, h2, h3⟩ | ⟨h1, ⟨y, hy, hy2⟩, h3⟩
  · subst h3; exact .inl ⟨h1, h2, List.nil_perm.1 hp⟩
  · exact .inr ⟨h1, ⟨y, hp.mem_iff.1 hy, hy2⟩, fun x hx => h3 x (hp.mem_iff.2 hx)⟩
def nextW (l : List Tm) : Int := (l.head?.map Tm.tick).getD 0
theorem MinW.next {l : List Tm} {first : Int} {found : Bool} (h : MinW l first found) (hs : l.Pairwise fun x y => tmB x y = true) : first = nextW l ∧ found = !l.isEmpty := by
  rcases h with ⟨h1, h2, h3⟩ | ⟨h1, ⟨y, hy, hy2⟩, h3⟩
  · subst h3; exact ⟨h2, h1⟩
  · cases l with
    | nil => cases hy
    | cons a r =>
      refine ⟨?_, h1⟩
      show first = a.tick
      have ha := h3 a (by simp)
      rw [List.mem_cons] at hy
      rcases hy with rfl | hy
      · exact hy2.symm
      · rw [List.pairwise_cons] at hs
        have := hs.1 y hy
        unfold tmB at this
        simp only [Bool.or_eq_true, Bool.and_eq_true, decide_eq_true_eq, beq_iff_eq] at this
        omega
/-- Two orders of the same, both rising, are one. -/
theorem rise_perm {l r : List Tm} (hl : l.Pairwise fun x y => tmB x y = true) (hr : r.Pairwise fun x y => tmB x y = true) (h : l.Perm r) : l = r := by
  refine h.eq_of_pairwise (le := fun x y => tmB x y = true) ?_ hl hr
  intro a b _ _ h1 h2
  exfalso
  unfold tmB at h1 h2
  simp only [Bool.or_eq_true, Bool.and_eq_true, decide_eq_true_eq, beq_iff_eq] at h1 h2
  omega
theorem idsW_of_perm {l r : List Tm} (h : IdsW l) (hp : l.Perm r) : IdsW r := (hp.pairwise_iff (fun {_ _} hne => Ne.symm hne)).1 h
theorem idsW_nodup {l : List Tm} (h : IdsW l) : l.Nodup := List.Pairwise.imp (fun {a b} hab e => hab (by rw [e])) h
theorem dropW_perm {l : List Tm} (h : IdsW l) {y : Tm} (hy : y ∈ l) : l.Perm (y :: dropW l y.id) := by
  induction l with
  | nil => cases hy
  | cons a r ih =>
    unfold IdsW at h
    rw [List.pairwise_cons] at h
    rw [List.mem_cons] at hy
    rcases hy with rfl | hy
    · have : dropW (y :: r) y.id = r := by
        have h2 : dropW r y.id = r := dropW_none (tickW_none.2 fun x hx e => h.1 x hx e.symm)
        unfold dropW at h2 ⊢
        rw [List.filter_cons, if_neg (by simp)]
        exact h2
      rw [this]
    · have hne : a.id ≠ y.id := h.1 y hy
      have : dropW (a :: r) y.id = a :: dropW r y.id := by
        unfold dropW
        rw [List.filter_cons, if_pos (by simpa using hne)]
      rw [this]
      exact ((ih h.2 hy).cons a).trans (List.Perm.swap _ _ _)
/-- One more has come. -/
theorem done_step {d r L : List Tm} (hp : (d ++ r).Perm L) (hL : IdsW L) {id c : Int} (hc : tickW L id = some c) (hr : (tickW r id).isSome = true) :
    (d ++ [(⟨id, c⟩ : Tm)] ++ dropW r id).Perm L ∧ (∀ i, (tickW (dropW r id) i).isSome = ((tickW r i).isSome && !(i == id))) := by
  have hdr : IdsW (d ++ r) := idsW_of_perm hL hp.symm
  have hrr : IdsW r := (List.pairwise_append.1 hdr).2.1
  obtain ⟨y, hy, hid⟩ := tickW_isSome.1 hr
  have h1 : tickW L id = some y.tick := (tickW_some hL).2 ⟨y, hp.mem_iff.1 (List.mem_append_right _ hy), hid, rfl⟩
  rw [hc] at h1
  have hyc : y = ⟨id, c⟩ := by cases y; simp at h1 hid; simp [h1, hid]
  have h2 := dropW_perm hrr hy
  rw [hid, hyc] at h2
  refine ⟨?_, fun i => ?_⟩
  · rw [List.append_assoc]
    exact (List.Perm.append_left d h2.symm).trans hp
  · rw [tickW_dropW]
    by_cases e : i = id
    · rw [if_pos e, beq_iff_eq.2 e]; simp
    · rw [if_neg e, show (i == id) = false by simpa using e]; simp
theorem done_end {d r L : List Tm} (hp : (d ++ r).Perm L) (h : ∀ x ∈ L, (tickW r x.id).isSome = false) : r = [] ∧ d.Perm L := by
  have hr : r = [] := by
    cases r with
    | nil => rfl
    | cons a q =>
      have := h a (hp.mem_iff.1 (by simp))
      rw [tickW_isSome.2 ⟨a, by simp, rfl⟩] at this
      cases this
  subst hr
  exact ⟨rfl, by simpa using hp⟩
end Go.Proofs.Ytdlkpkigpnlanaa
