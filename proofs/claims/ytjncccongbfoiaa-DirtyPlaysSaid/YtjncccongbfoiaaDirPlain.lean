/- Rising rows of numbers: a number more, a number less; plain, no program. Conditions: as stated. -/
import Derived.Test.YtjncccongbfoiaaPlains
namespace Go.Proofs.Ytjncccongbfoiaa
set_option linter.unusedVariables false

/-- Rising. -/
def Rise (l : List Int) : Prop := l.Pairwise (· < ·)
def hasI (l : List Int) (n : Int) : Bool := decide (n ∈ l)
/-- How many numbers at the row's beginning are less. -/
def lessI (l : List Int) (n : Int) : Nat := (l.takeWhile (fun x => decide (x < n))).length
def putI (l : List Int) (n : Int) : List Int := if n ∈ l then l else l.take (lessI l n) ++ n :: l.drop (lessI l n)
def dropI (l : List Int) (n : Int) : List Int := l.filter (fun x => x != n)
def putsI (l ns : List Int) : List Int := ns.foldl putI l
/-- What a map of the marks says. -/
def inF (l : List Int) : Int → Option Bool := fun i => if i ∈ l then some true else none
theorem inF_some (l : List Int) (i : Int) : (inF l i).isSome = hasI l i := by
  unfold inF hasI; split <;> simp [*]
theorem inF_get (l : List Int) (i : Int) : (inF l i).getD false = hasI l i := by
  unfold inF hasI; split <;> simp [*]
theorem mem_putI (l : List Int) (n x : Int) : x ∈ putI l n ↔ x = n ∨ x ∈ l := by
  unfold putI
  split
  · rename_i h
    constructor
    · exact .inr
    · rintro (rfl | h2)
      · exact h
      · exact h2
  · rw [List.mem_append, List.mem_cons]
    have := List.take_append_drop (lessI l n) l
    constructor
    · rintro (h | rfl | h)
      · exact .inr (List.mem_of_mem_take h)
      · exact .inl rfl
      · exact .inr (List.mem_of_mem_drop h)
    · rintro (rfl | h)
      · exact .inr (.inl rfl)
      · rw [← this, List.mem_append] at h
        rcases h with h | h
        · exact .inl h
        · exact .inr (.inr h)
theorem mem_dropI (l : List Int) (n x : Int) : x ∈ dropI l n ↔ x ≠ n ∧ x ∈ l := by
  unfold dropI
  rw [List.mem_filter]
  simp [and_comm]
theorem mem_putsI (ns : List Int) : ∀ (l : List Int) (x : Int), x ∈ putsI l ns ↔ x ∈ ns ∨ x ∈ l := by
  induction ns with
  | nil => intro l x; simp [putsI]
  | cons a r ih =>
    intro l x
    show x ∈ putsI (putI l a) r ↔ _
    rw [ih, mem_putI, List.mem_cons]
    constructor
    · rintro (h | h | h)
      · exact .inl (.inr h)
      · exact .inl (.inl h)
      · exact .inr h
    · rintro ((h | h) | h)
      · exact .inr (.inl h)
      · exact .inl h
      · exact .inr (.inr h)
theorem Rise.nil : Rise [] := List.Pairwise.nil
theorem Rise.nodup {l : List Int} (h : Rise l) : l.Nodup := h.imp fun hlt => Int.ne_of_lt hlt
theorem less_take (l : List Int) (n x : Int) (h : x ∈ l.take (lessI l n)) : x < n := by
  unfold lessI at h
  rw [← List.prefix_iff_eq_take.1 (List.takeWhile_prefix _)] at h
  have := List.all_takeWhile (p := fun x : Int => decide (x < n)) (l := l)
  rw [List.all_eq_true] at this
  simpa using this x h
theorem less_eq (l : List Int) (n : Int) : l.take (lessI l n) = l.takeWhile (fun x => decide (x < n)) ∧ l.drop (lessI l n) = l.dropWhile (fun x => decide (x < n)) := by
  have h1 : l.take (lessI l n) = l.takeWhile (fun x => decide (x < n)) := (List.prefix_iff_eq_take.1 (List.takeWhile_prefix _)).symm
  refine ⟨h1, ?_⟩
  have h2 := List.take_append_drop (lessI l n) l
  have h3 := List.takeWhile_append_dropWhile (p := fun x => decide (x < n)) (l := l)
  rw [h1] at h2
  exact List.append_cancel_left (h2.trans h3.symm)
theorem less_drop {l : List Int} (hr : Rise l) (n x : Int) (hn : n ∉ l) (h : x ∈ l.drop (lessI l n)) : n < x := by
  rw [(less_eq l n).2] at h
  induction l with
  | nil => simp at h
  | cons a r ih =>
    rw [List.dropWhile_cons] at h
    unfold Rise at hr
    rw [List.pairwise_cons] at hr
    rw [List.mem_cons, not_or] at hn
    split at h
    · exact ih hr.2 hn.2 h
    · rename_i hc
      have hc : ¬ a < n := by simpa using hc
      have h1 : n < a := by have := hn.1; omega
      rw [List.mem_cons] at h
      rcases h with h | h
      · rw [h]; exact h1
      · have := hr.1 x h; omega
theorem rise_putI {l : List Int} (hr : Rise l) (n : Int) : Rise (putI l n) := by
  unfold putI
  split
  · exact hr
  · rename_i hn
    unfold Rise at *
    rw [List.pairwise_append, List.pairwise_cons]
    refine ⟨hr.sublist (List.take_sublist _ _), ⟨fun x hx => less_drop hr n x hn hx, hr.sublist (List.drop_sublist _ _)⟩, ?_⟩
    intro x hx y hy
    rw [List.mem_cons] at hy
    rcases hy with rfl | hy
    · exact less_take l y x hx
    · have := less_take l n x hx
      have := less_drop hr n y hn hy
      omega
theorem rise_putsI (ns : List Int) : ∀ {l : List Int}, Rise l → Rise (putsI l ns) := by
  induction ns with
  | nil => intro l h; exact h
  | cons a r ih => intro l h; exact ih (rise_putI h a)
theorem rise_dropI {l : List Int} (hr : Rise l) (n : Int) : Rise (dropI l n) := List.Pairwise.filter _ hr
theorem putI_len (l : List Int) (n : Int) : (putI l n).length = l.length + if hasI l n = true then 0 else 1 := by
  unfold putI hasI
  split
  · simp [*]
  · rename_i h
    have := congrArg List.length (List.take_append_drop (lessI l n) l)
    rw [List.length_append] at this ⊢
    simp [h]
    omega
theorem putI_len_le (l : List Int) (n : Int) : l.length ≤ (putI l n).length ∧ (putI l n).length ≤ l.length + 1 := by
  rw [putI_len]; split <;> omega
theorem putsI_len_le (ns : List Int) : ∀ (l : List Int), l.length ≤ (putsI l ns).length ∧ (putsI l ns).length ≤ l.length + ns.length := by
  induction ns with
  | nil => intro l; exact ⟨Nat.le_refl _, Nat.le_refl _⟩
  | cons a r ih =>
    intro l
    have h1 := ih (putI l a)
    have h2 := putI_len_le l a
    show l.length ≤ (putsI (putI l a) r).length ∧ (putsI (putI l a) r).length ≤ l.length + (r.length + 1)
    omega
theorem putsI_snoc (l ns : List Int) (k : Nat) (hk : k < ns.length) : putsI l (ns.take (k + 1)) = putI (putsI l (ns.take k)) ns[k] := by
  unfold putsI
  rw [List.take_add_one, List.getElem?_eq_getElem hk, List.foldl_append]
  rfl
theorem dropI_not (l : List Int) (n : Int) (h : hasI l n = false) : dropI l n = l := by
  unfold dropI
  rw [List.filter_eq_self]
  intro x hx
  have : n ∉ l := by simpa [hasI] using h
  simp only [bne_iff_ne, ne_eq]
  rintro rfl
  exact this hx
theorem dropI_len {l : List Int} (hr : Rise l) (n : Int) : (dropI l n).length = l.length - if hasI l n = true then 1 else 0 := by
  cases hh : hasI l n with
  | false => rw [dropI_not l n hh]; simp
  | true =>
    have hm : n ∈ l := by simpa [hasI] using hh
    have h1 := List.Nodup.erase_eq_filter hr.nodup n
    have h2 : dropI l n = l.erase n := by
      rw [h1]; rfl
    rw [h2, List.length_erase_of_mem hm]; simp
theorem dropI_le (l : List Int) (n : Int) : (dropI l n).length ≤ l.length := List.length_filter_le _ _
theorem rise_ext {a b : List Int} (ha : Rise a) (hb : Rise b) (h : ∀ x, x ∈ a ↔ x ∈ b) : a = b := by
  have hp : a.Perm b := (List.perm_ext_iff_of_nodup ha.nodup hb.nodup).2 h
  refine List.Perm.eq_of_pairwise (le := (· < ·)) (fun x y _ _ h1 h2 => ?_) ha hb hp
  omega
theorem rise_perm {a b : List Int} (ha : Rise a) (h : b.Perm a) : b.mergeSort (fun x y => decide (x ≤ y)) = a := by
  have tr : ∀ a b c : Int, decide (a ≤ b) = true → decide (b ≤ c) = true → decide (a ≤ c) = true := fun a b c h1 h2 => by simp only [decide_eq_true_eq] at *; exact Int.le_trans h1 h2
  have to : ∀ a b : Int, (decide (a ≤ b) || decide (b ≤ a)) = true := fun a b => by simp only [Bool.or_eq_true, decide_eq_true_eq]; exact Int.le_total a b
  refine List.Perm.eq_of_pairwise (le := fun a b : Int => decide (a ≤ b) = true) (fun x y _ _ h1 h2 => ?_) (List.pairwise_mergeSort tr to b) (ha.imp fun hlt => by simp; omega) ((List.mergeSort_perm b _).trans h)
  simp only [decide_eq_true_eq] at h1 h2
  omega
theorem inF_put (l : List Int) (n : Int) (i : Int) : (if i = n then some true else inF l i) = inF (putI l n) i := by
  unfold inF
  by_cases e : i = n
  · simp [e, mem_putI]
  · simp [e, mem_putI]
theorem inF_drop (l : List Int) (n : Int) (i : Int) : (if i = n then none else inF l i) = inF (dropI l n) i := by
  unfold inF
  by_cases e : i = n
  · simp [e, mem_dropI]
  · simp [e, mem_dropI]
end Go.Proofs.Ytjncccongbfoiaa
