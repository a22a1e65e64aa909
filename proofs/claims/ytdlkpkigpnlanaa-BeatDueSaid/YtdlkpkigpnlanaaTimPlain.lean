/- Timers: which is ahead, one more, one less, those that are due; plain, no program. Conditions: as stated. -/
import Derived.Test.YtdlkpkigpnlanaaPlains
namespace Go.Proofs.Ytdlkpkigpnlanaa
set_option linter.unusedVariables false

structure Tm where
  id : Int
  tick : Int
def Tm.row (x : Tm) : List Value := [.int .i64 x.id, .int .i64 x.tick]
/-- x is ahead of y. -/
def tmB (x y : Tm) : Bool := decide (x.tick < y.tick) || (x.tick == y.tick && decide (x.id < y.id))
def mayW (n : Int) : Bool := decide (0 ≤ n) && decide (n ≤ 1099511627776)
def Tm.ok (x : Tm) : Prop := inI x.id ∧ mayW x.tick = true
def dropW (l : List Tm) (id : Int) : List Tm := l.filter fun x => x.id != id
/-- How many at the row's beginning are ahead. -/
def lessW (l : List Tm) (x : Tm) : Nat := (l.takeWhile fun y => tmB y x).length
def insW (l : List Tm) (x : Tm) : List Tm := l.take (lessW l x) ++ x :: l.drop (lessW l x)
def setW (l : List Tm) (x : Tm) : List Tm := if mayW x.tick = true then insW (dropW l x.id) x else l
def findW (l : List Tm) (id : Int) : Option Nat := l.findIdx? fun x => x.id == id
def tickW (l : List Tm) (id : Int) : Option Int := (l.find? fun x => x.id == id).map Tm.tick
/-- How many are due. -/
def dueN (l : List Tm) (now : Int) : Nat := (l.takeWhile fun x => decide (x.tick ≤ now)).length
def dueW (l : List Tm) (now : Int) : List Int := (l.take (dueN l now)).map Tm.id
def leftW (l : List Tm) (now : Int) : List Tm := l.drop (dueN l now)
structure SortedW (l : List Tm) : Prop where
  ord : l.Pairwise fun x y => tmB x y = true
  ids : l.Pairwise fun x y => x.id ≠ y.id
  ok : ∀ x ∈ l, x.ok
theorem SortedW.nil : SortedW [] := ⟨List.Pairwise.nil, List.Pairwise.nil, by simp⟩
theorem dropW_len (l : List Tm) (id : Int) : (dropW l id).length ≤ l.length := List.length_filter_le _ _
theorem insW_len (l : List Tm) (x : Tm) : (insW l x).length = l.length + 1 := by
  unfold insW
  have := congrArg List.length (List.take_append_drop (lessW l x) l)
  rw [List.length_append] at this ⊢
  simp only [List.length_cons]
  omega
theorem setW_len (l : List Tm) (x : Tm) : (setW l x).length ≤ l.length + 1 := by
  unfold setW
  split
  · rw [insW_len]; have := dropW_len l x.id; omega
  · omega
theorem leftW_len (l : List Tm) (now : Int) : (leftW l now).length ≤ l.length := by
  unfold leftW
  rw [List.length_drop]; omega
theorem dueN_le (l : List Tm) (now : Int) : dueN l now ≤ l.length := (List.takeWhile_sublist _).length_le
theorem dueW_len (l : List Tm) (now : Int) : (dueW l now).length = dueN l now := by
  unfold dueW
  rw [List.length_map, List.length_take]
  have := dueN_le l now; omega
theorem tmB_trans {x y z : Tm} (h : tmB x y = true) (k : tmB y z = true) : tmB x z = true := by
  unfold tmB at *
  simp only [Bool.or_eq_true, Bool.and_eq_true, decide_eq_true_eq, beq_iff_eq] at *
  omega
theorem tmB_not {x y : Tm} (h : ¬ tmB x y = true) (hne : x.id ≠ y.id) : tmB y x = true := by
  unfold tmB at *
  simp only [Bool.or_eq_true, Bool.and_eq_true, decide_eq_true_eq, beq_iff_eq] at *
  omega
theorem sorted_dropW {l : List Tm} (h : SortedW l) (id : Int) : SortedW (dropW l id) :=
  ⟨List.Pairwise.filter _ h.ord, List.Pairwise.filter _ h.ids, fun x hx => h.ok x (List.mem_filter.1 hx).1⟩
theorem less_takeW (l : List Tm) (x y : Tm) (h : y ∈ l.take (lessW l x)) : tmB y x = true := by
  unfold lessW at h
  rw [← List.prefix_iff_eq_take.1 (List.takeWhile_prefix _)] at h
  have := List.all_takeWhile (p := fun y : Tm => tmB y x) (l := l)
  rw [List.all_eq_true] at this
  exact this y h
theorem lessW_eq (l : List Tm) (x : Tm) : l.drop (lessW l x) = l.dropWhile fun y => tmB y x := by
  have h1 : l.take (lessW l x) = l.takeWhile (fun y => tmB y x) := (List.prefix_iff_eq_take.1 (List.takeWhile_prefix _)).symm
  have h2 := List.take_append_drop (lessW l x) l
  have h3 := List.takeWhile_append_dropWhile (p := fun y => tmB y x) (l := l)
  rw [h1] at h2
  exact List.append_cancel_left (h2.trans h3.symm)
theorem less_dropW {l : List Tm} (hr : l.Pairwise fun x y => tmB x y = true) (x y : Tm) (hn : ∀ z ∈ l, z.id ≠ x.id) (h : y ∈ l.drop (lessW l x)) : tmB x y = true := by
  rw [lessW_eq] at h
  induction l with
  | nil => simp at h
  | cons a r ih =>
    rw [List.dropWhile_cons] at h
    rw [List.pairwise_cons] at hr
    split at h
    · exact ih hr.2 (fun z hz => hn z (by simp [hz])) h
    · rename_i hc
      have h1 : tmB x a = true := tmB_not hc (hn a (by simp))
      rw [List.mem_cons] at h
      rcases h with rfl | h
      · exact h1
      · exact tmB_trans h1 (hr.1 y h)
theorem sorted_insW {l : List Tm} (h : SortedW l) (x : Tm) (hx : x.ok) (hn : ∀ z ∈ l, z.id ≠ x.id) : SortedW (insW l x) := by
  unfold insW
  refine ⟨?_, ?_, ?_⟩
  · rw [List.pairwise_append, List.pairwise_cons]
    refine ⟨h.ord.sublist (List.take_sublist _ _), ⟨fun y hy => less_dropW h.ord x y hn hy, h.ord.sublist (List.drop_sublist _ _)⟩, ?_⟩
    intro y hy z hz
    rw [List.mem_cons] at hz
    rcases hz with rfl | hz
    · exact less_takeW l _ y hy
    · exact tmB_trans (less_takeW l x y hy) (less_dropW h.ord x z hn hz)
  · have hp := h.ids
    rw [← List.take_append_drop (lessW l x) l, List.pairwise_append] at hp
    rw [List.pairwise_append, List.pairwise_cons]
    refine ⟨hp.1, ⟨fun y hy => (hn y (List.mem_of_mem_drop hy)).symm, hp.2.1⟩, ?_⟩
    intro y hy z hz
    rw [List.mem_cons] at hz
    rcases hz with rfl | hz
    · exact hn y (List.mem_of_mem_take hy)
    · exact hp.2.2 y hy z hz
  · intro y hy
    rw [List.mem_append, List.mem_cons] at hy
    rcases hy with hy | rfl | hy
    · exact h.ok y (List.mem_of_mem_take hy)
    · exact hx
    · exact h.ok y (List.mem_of_mem_drop hy)
theorem mem_dropW (l : List Tm) (id : Int) (x : Tm) : x ∈ dropW l id ↔ x ∈ l ∧ x.id ≠ id := by
  unfold dropW; rw [List.mem_filter]; simp
theorem sorted_setW {l : List Tm} (h : SortedW l) (x : Tm) (hx : inI x.id) : SortedW (setW l x) := by
  unfold setW
  split
  · rename_i hm
    exact sorted_insW (sorted_dropW h x.id) x ⟨hx, hm⟩ fun z hz => ((mem_dropW l x.id z).1 hz).2
  · exact h
theorem sorted_leftW {l : List Tm} (h : SortedW l) (now : Int) : SortedW (leftW l now) :=
  ⟨h.ord.sublist (List.drop_sublist _ _), h.ids.sublist (List.drop_sublist _ _), fun x hx => h.ok x (List.mem_of_mem_drop hx)⟩
theorem dropW_take (l : List Tm) (id : Int) (k : Nat) (h : k < l.length) : dropW (l.take (k + 1)) id = dropW (l.take k) id ++ if l[k].id = id then [] else [l[k]] := by
  rw [List.take_succ_eq_append_getElem h]
  unfold dropW
  rw [List.filter_append]
  by_cases hid : l[k].id = id
  · simp [hid]
  · simp [hid]
theorem lessW_step (l : List Tm) (x : Tm) (k : Nat) (h : k < l.length) (hI : lessW l x = k + lessW (l.drop k) x) : (tmB l[k] x = true → lessW l x = k + 1 + lessW (l.drop (k + 1)) x) ∧ (¬ tmB l[k] x = true → lessW l x = k) := by
  rw [List.drop_eq_getElem_cons h] at hI
  unfold lessW at hI ⊢
  rw [List.takeWhile_cons] at hI
  constructor
  · intro hl
    rw [if_pos hl, List.length_cons] at hI
    omega
  · intro hl
    rw [if_neg hl] at hI
    simpa using hI
theorem dueN_step (l : List Tm) (now : Int) (k : Nat) (h : k < l.length) (hI : dueN l now = k + dueN (l.drop k) now) : (l[k].tick ≤ now → dueN l now = k + 1 + dueN (l.drop (k + 1)) now) ∧ (¬ l[k].tick ≤ now → dueN l now = k) := by
  rw [List.drop_eq_getElem_cons h] at hI
  unfold dueN at hI ⊢
  rw [List.takeWhile_cons] at hI
  constructor
  · intro hl
    rw [decide_eq_true hl, if_pos rfl, List.length_cons] at hI
    omega
  · intro hl
    rw [decide_eq_false hl, if_neg (by simp)] at hI
    simpa using hI
theorem findW_step (l : List Tm) (id : Int) (k : Nat) (h : k < l.length) (hI : findW l id = (findW (l.drop k) id).map (· + k)) : (l[k].id = id → findW l id = some k) ∧ (¬ l[k].id = id → findW l id = (findW (l.drop (k + 1)) id).map (· + (k + 1))) := by
  rw [List.drop_eq_getElem_cons h] at hI
  unfold findW at hI ⊢
  rw [List.findIdx?_cons] at hI
  constructor
  · intro hl
    rw [if_pos (by simpa using hl)] at hI
    simpa using hI
  · intro hl
    rw [if_neg (by simpa using hl)] at hI
    rw [hI, Option.map_map]
    congr 1
    funext x
    simp only [Function.comp]
    omega
/-- Where it stands, and when it is due. -/
theorem findW_tick (l : List Tm) (id : Int) : (findW l id = none ∧ tickW l id = none) ∨ ∃ k, ∃ h : k < l.length, findW l id = some k ∧ l[k].id = id ∧ tickW l id = some l[k].tick := by
  unfold findW tickW
  induction l with
  | nil => exact .inl ⟨rfl, rfl⟩
  | cons a r ih =>
    rw [List.findIdx?_cons, List.find?_cons]
    by_cases ha : a.id = id
    · refine .inr ⟨0, by simp, ?_, ha, ?_⟩
      · rw [if_pos (by simpa using ha)]
      · simp [ha]
    · have hb : (a.id == id) = false := by simpa using ha
      rw [hb, if_neg (by simp)]
      rcases ih with ⟨h1, h2⟩ | ⟨k, hk, h1, h2, h3⟩
      · exact .inl ⟨by rw [h1]; rfl, h2⟩
      · exact .inr ⟨k + 1, by simpa using hk, by rw [h1]; rfl, by simpa using h2, by simpa using h3⟩
end Go.Proofs.Ytdlkpkigpnlanaa
