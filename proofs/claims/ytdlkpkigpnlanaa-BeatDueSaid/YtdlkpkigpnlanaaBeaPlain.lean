/- Beats: found, one less, one more, seen, due; plain, no program. Conditions: as stated. -/
import Derived.Test.YtdlkpkigpnlanaaNumB
import Derived.Test.YtdlkpkigpnlanaaPlains
import Derived.Test.YtdlkpkigpnlanaaWhlPlain
namespace Go.Proofs.Ytdlkpkigpnlanaa
set_option linter.unusedVariables false

/-- A beat: its node, its incarnation, until when it counts. -/
structure Bt where
  n : Int
  i : Int
  u : Int
def Bt.row (x : Bt) : List Value := [.int .i64 x.n, .int .i64 x.i, .int .i64 x.u]
def rowsB (l : List Bt) : List (List Value) := l.map Bt.row
theorem rowsB_len (l : List Bt) : (rowsB l).length = l.length := by simp [rowsB]
theorem rowsB_get (l : List Bt) (k : Nat) (h : k < l.length) : (rowsB l)[k]? = some l[k].row := by simp [rowsB, h]
theorem rowsB_three (l : List Bt) : ∀ r ∈ rowsB l, r.length = 3 := by
  intro r hr; unfold rowsB at hr; obtain ⟨x, _, rfl⟩ := List.mem_map.1 hr; rfl
theorem rowsB_one (l : List Bt) : ∀ u ∈ (rowsB l).flatten, u.oneCell' = true := by
  intro u hu
  obtain ⟨r, hr, hu⟩ := List.mem_flatten.1 hu
  unfold rowsB at hr; obtain ⟨x, _, rfl⟩ := List.mem_map.1 hr
  unfold Bt.row at hu
  simp only [List.mem_cons, List.not_mem_nil, or_false] at hu
  rcases hu with rfl | rfl | rfl <;> rfl
theorem rowsB_append (a b : List Bt) : (rowsB (a ++ b)).flatten = (rowsB a).flatten ++ (rowsB b).flatten := by unfold rowsB; rw [List.map_append, List.flatten_append]
def findB (l : List Bt) (n : Int) : Option Nat := l.findIdx? fun x => x.n == n
def beatB (l : List Bt) (n : Int) : Option Bt := l.find? fun x => x.n == n
def wobB (l : List Bt) (n : Int) : List Bt := l.filter fun x => x.n != n
/-- How many at the row's beginning are of lesser nodes. -/
def aheadB (l : List Bt) (n : Int) : Nat := (l.takeWhile fun x => decide (x.n < n)).length
def insB (l : List Bt) (x : Bt) : List Bt := l.take (aheadB l x.n) ++ x :: l.drop (aheadB l x.n)
def putB (l : List Bt) (x : Bt) : List Bt := insB (wobB l x.n) x
def mayB (n i now : Int) : Bool := decide (0 ≤ n) && decide (n ≤ 15) && decide (1 ≤ i) && decide (i ≤ 2147483647) && decide (0 ≤ now) && decide (now ≤ 1099511627776)
def seenB (s : Int) (l : List Bt) (n i now : Int) : List Bt × Int :=
  if s = 0 then (l, 7) else if mayB n i now = false then (l, 1) else match beatB l n with
  | none => (putB l ⟨n, i, laterV now s⟩, 0)
  | some x => if i < x.i then (l, 11) else (putB l ⟨n, i, if x.i = i then max (laterV now s) x.u else laterV now s⟩, 0)
def dropB (l : List Bt) (n i : Int) : List Bt × Bool := match beatB l n with
  | none => (l, false)
  | some x => if x.i = i then (wobB l n, true) else (l, false)
/-- The first of those that count no more, among the first k. -/
def bestB (l : List Bt) (now : Int) : Nat → Option Nat
  | 0 => none
  | k + 1 => match l[k]? with
    | none => bestB l now k
    | some x => if x.u ≤ now ∧ (∀ y, (bestB l now k).bind (fun j => l[j]?) = some y → x.u < y.u) then some k else bestB l now k
def dueB : Nat → List Bt → Int → List Bt × List Bt
  | 0, l, _ => ([], l)
  | f + 1, l, now => match bestB l now l.length with
    | none => ([], l)
    | some j => match l[j]? with
      | none => ([], l)
      | some x => (x :: (dueB f (wobB l x.n) now).1, (dueB f (wobB l x.n) now).2)
theorem wobB_len (l : List Bt) (n : Int) : (wobB l n).length ≤ l.length := List.length_filter_le _ _
theorem insB_len (l : List Bt) (x : Bt) : (insB l x).length = l.length + 1 := by
  unfold insB
  have := congrArg List.length (List.take_append_drop (aheadB l x.n) l)
  rw [List.length_append] at this ⊢
  simp only [List.length_cons]
  omega
theorem putB_len (l : List Bt) (x : Bt) : (putB l x).length ≤ l.length + 1 := by
  unfold putB; rw [insB_len]; have := wobB_len l x.n; omega
theorem seenB_len (s : Int) (l : List Bt) (n i now : Int) : (seenB s l n i now).1.length ≤ l.length + 1 := by
  unfold seenB
  split
  · simp
  · split
    · simp
    · split
      · exact putB_len l _
      · split
        · simp
        · exact putB_len l _
theorem dropB_len (l : List Bt) (n i : Int) : (dropB l n i).1.length ≤ l.length := by
  unfold dropB
  split
  · exact Nat.le_refl _
  · split
    · exact wobB_len l n
    · exact Nat.le_refl _
theorem dueB_len (f : Nat) : ∀ (l : List Bt) (now : Int), (dueB f l now).1.length ≤ f ∧ (dueB f l now).2.length ≤ l.length := by
  induction f with
  | zero => intro l now; exact ⟨Nat.le_refl _, Nat.le_refl _⟩
  | succ f ih =>
    intro l now
    unfold dueB
    split
    · exact ⟨Nat.zero_le _, Nat.le_refl _⟩
    · split
      · exact ⟨Nat.zero_le _, Nat.le_refl _⟩
      · rename_i x _
        have h := ih (wobB l x.n) now
        have := wobB_len l x.n
        refine ⟨?_, ?_⟩
        · show (x :: (dueB f (wobB l x.n) now).1).length ≤ f + 1
          simp only [List.length_cons]; omega
        · show (dueB f (wobB l x.n) now).2.length ≤ l.length
          omega
theorem wobB_take (l : List Bt) (n : Int) (k : Nat) (h : k < l.length) : wobB (l.take (k + 1)) n = wobB (l.take k) n ++ if l[k].n = n then [] else [l[k]] := by
  rw [List.take_succ_eq_append_getElem h]
  unfold wobB
  rw [List.filter_append]
  by_cases hid : l[k].n = n
  · simp [hid]
  · simp [hid]
theorem aheadB_step (l : List Bt) (n : Int) (k : Nat) (h : k < l.length) (hI : aheadB l n = k + aheadB (l.drop k) n) : (l[k].n < n → aheadB l n = k + 1 + aheadB (l.drop (k + 1)) n) ∧ (¬ l[k].n < n → aheadB l n = k) := by
  rw [List.drop_eq_getElem_cons h] at hI
  unfold aheadB at hI ⊢
  rw [List.takeWhile_cons] at hI
  constructor
  · intro hl
    rw [decide_eq_true hl, if_pos rfl, List.length_cons] at hI
    omega
  · intro hl
    rw [decide_eq_false hl, if_neg (by simp)] at hI
    simpa using hI
theorem findB_step (l : List Bt) (n : Int) (k : Nat) (h : k < l.length) (hI : findB l n = (findB (l.drop k) n).map (· + k)) : (l[k].n = n → findB l n = some k) ∧ (¬ l[k].n = n → findB l n = (findB (l.drop (k + 1)) n).map (· + (k + 1))) := by
  rw [List.drop_eq_getElem_cons h] at hI
  unfold findB at hI ⊢
  rw [List.findIdx?_cons] at hI
  constructor
  · intro hl
    rw [if_pos (by simpa using hl)] at hI
    simpa using hI
  · intro hl
    rw [if_neg (by simpa using hl)] at hI
    rw [hI, Option.map_map]
    congr 1
    funext x
    simp only [Function.comp]
    omega
theorem findB_beat (l : List Bt) (n : Int) : (findB l n = none ∧ beatB l n = none) ∨ ∃ k, ∃ h : k < l.length, findB l n = some k ∧ l[k].n = n ∧ beatB l n = some l[k] := by
  unfold findB beatB
  induction l with
  | nil => exact .inl ⟨rfl, rfl⟩
  | cons a r ih =>
    rw [List.findIdx?_cons, List.find?_cons]
    by_cases ha : a.n = n
    · refine .inr ⟨0, by simp, ?_, ha, ?_⟩
      · rw [if_pos (by simpa using ha)]
      · rw [show (a.n == n) = true by simpa using ha]; rfl
    · rw [if_neg (by simpa using ha), show (a.n == n) = false by simpa using ha]
      rcases ih with ⟨h1, h2⟩ | ⟨k, hk, h1, h2, h3⟩
      · exact .inl ⟨by rw [h1]; rfl, h2⟩
      · exact .inr ⟨k + 1, by simp; omega, by rw [h1]; rfl, by simpa using h2, by simpa using h3⟩
theorem bestB_lt (l : List Bt) (now : Int) : ∀ k, k ≤ l.length → ∀ j, bestB l now k = some j → j < k
  | 0, _, j, h => by cases h
  | k + 1, hk, j, h => by
    unfold bestB at h
    rw [List.getElem?_eq_getElem (by omega)] at h
    simp only at h
    split at h
    · cases h; omega
    · have := bestB_lt l now k (by omega) j h; omega
theorem bestB_step (l : List Bt) (now : Int) (k : Nat) (hk : k < l.length) :
    bestB l now (k + 1) = if l[k].u ≤ now ∧ (∀ j (hj : j < l.length), bestB l now k = some j → l[k].u < l[j].u) then some k else bestB l now k := by
  conv => lhs; unfold bestB
  rw [List.getElem?_eq_getElem hk]
  simp only
  have e : (∀ y, (bestB l now k).bind (fun j => l[j]?) = some y → l[k].u < y.u) ↔ (∀ j (hj : j < l.length), bestB l now k = some j → l[k].u < l[j].u) := by
    constructor
    · intro h j hj hb
      exact h l[j] (by rw [hb]; simp [hj])
    · intro h y hy
      cases hb : bestB l now k with
      | none => rw [hb] at hy; cases hy
      | some j =>
        rw [hb] at hy
        have hj := bestB_lt l now k (by omega) j hb
        simp only [Option.bind_some] at hy
        rw [List.getElem?_eq_getElem (by omega)] at hy
        cases hy
        exact h j (by omega) hb
  by_cases h1 : l[k].u ≤ now ∧ (∀ j (hj : j < l.length), bestB l now k = some j → l[k].u < l[j].u)
  · rw [if_pos h1, if_pos ⟨h1.1, e.2 h1.2⟩]
  · rw [if_neg h1, if_neg (fun h => h1 ⟨h.1, e.1 h.2⟩)]
end Go.Proofs.Ytdlkpkigpnlanaa
/- What is due, what is left, plain: of a row of beats in the order of their nodes. Conditions: as stated. -/
namespace Go.Proofs.Ytdlkpkigpnlanaa
set_option linter.unusedVariables false

def uniqB (l : List Bt) : Prop := l.Pairwise (fun a b => a.n ≠ b.n)
theorem ubt_mem {l : List Bt} (h : uniqB l) {a b : Bt} (ha : a ∈ l) (hb : b ∈ l) (hn : a.n = b.n) : a = b := by
  induction l with
  | nil => cases ha
  | cons c r ih =>
    have hp := List.pairwise_cons.1 h
    rcases List.mem_cons.1 ha with rfl | ha'
    · rcases List.mem_cons.1 hb with rfl | hb'
      · rfl
      · exact absurd hn (hp.1 b hb')
    · rcases List.mem_cons.1 hb with rfl | hb'
      · exact absurd hn.symm (hp.1 a ha')
      · exact ih hp.2 ha' hb'
theorem beat_some {l : List Bt} {n : Int} {b : Bt} (h : beatB l n = some b) : b ∈ l ∧ b.n = n := by
  unfold beatB at h
  exact ⟨List.mem_of_find?_eq_some h, by simpa using List.find?_some h⟩
theorem beat_none {l : List Bt} {n : Int} (h : beatB l n = none) : ∀ b ∈ l, b.n ≠ n := by
  unfold beatB at h
  intro b hb
  simpa using List.find?_eq_none.1 h b hb
theorem beat_mem {l : List Bt} (hu : uniqB l) {b : Bt} (hb : b ∈ l) : beatB l b.n = some b := by
  cases h : beatB l b.n with
  | none => exact absurd rfl (beat_none h b hb)
  | some c =>
    obtain ⟨h1, h2⟩ := beat_some h
    rw [ubt_mem hu h1 hb h2]
theorem wob_mem {l : List Bt} {n : Int} {b : Bt} : b ∈ wobB l n ↔ b ∈ l ∧ b.n ≠ n := by simp [wobB]
theorem wob_uniq {l : List Bt} (h : uniqB l) (n : Int) : uniqB (wobB l n) := List.Pairwise.filter _ h
theorem put_mem {l : List Bt} {x b : Bt} : b ∈ putB l x ↔ b = x ∨ (b ∈ l ∧ b.n ≠ x.n) := by
  unfold putB insB
  have h : ∀ m : List Bt, ∀ k, (b ∈ m.take k ++ x :: m.drop k) ↔ (b = x ∨ b ∈ m) := fun m k => by
    have h2 : b ∈ m ↔ b ∈ m.take k ++ m.drop k := by rw [List.take_append_drop]
    rw [h2]
    simp only [List.mem_append, List.mem_cons]
    constructor
    · rintro (h | h | h)
      · exact .inr (.inl h)
      · exact .inl h
      · exact .inr (.inr h)
    · rintro (h | h | h)
      · exact .inr (.inl h)
      · exact .inl h
      · exact .inr (.inr h)
  rw [h, wob_mem]
theorem best_none {l : List Bt} {now : Int} : ∀ k, k ≤ l.length → bestB l now k = none → ∀ j (hj : j < k) (hl : j < l.length), now < l[j].u
  | 0, _, _, j, hj, _ => by omega
  | k + 1, hk, h, j, hj, hl => by
    rw [bestB_step l now k (by omega)] at h
    have hb : bestB l now k = none := by
      cases hq : bestB l now k with
      | none => rfl
      | some q => rw [hq] at h; split at h <;> cases h
    have hn : now < l[k].u := by
      rcases Int.lt_or_le now l[k].u with q | q
      · exact q
      · rw [if_pos ⟨q, fun j hj hc => by rw [hb] at hc; cases hc⟩] at h; cases h
    rcases Nat.lt_or_ge j k with q | q
    · exact best_none k (by omega) hb j q hl
    · obtain rfl : j = k := by omega
      exact hn
theorem best_due {l : List Bt} {now : Int} : ∀ k, k ≤ l.length → ∀ j, bestB l now k = some j → ∃ h : j < l.length, l[j].u ≤ now
  | 0, _, _, h => by cases h
  | k + 1, hk, j, h => by
    rw [bestB_step l now k (by omega)] at h
    split at h
    · rename_i q
      cases h
      exact ⟨by omega, q.1⟩
    · exact best_due k (by omega) j h
theorem wob_less {l : List Bt} {x : Bt} (hx : x ∈ l) : (wobB l x.n).length < l.length := by
  unfold wobB
  exact List.length_filter_lt_length_iff_exists.2 ⟨x, hx, by simp⟩
theorem due_facts (now : Int) : ∀ (f : Nat) (l : List Bt), uniqB l → l.length ≤ f →
    (dueB f l now).2 = l.filter (fun b => decide (now < b.u)) ∧ (∀ b ∈ (dueB f l now).1, b ∈ l ∧ b.u ≤ now) ∧ (∀ b ∈ l, b.u ≤ now → b ∈ (dueB f l now).1) ∧ uniqB (dueB f l now).1
  | 0, l, hu, hl => by
    have : l = [] := List.eq_nil_of_length_eq_zero (by omega)
    subst this
    exact ⟨rfl, (fun b (h : b ∈ ([] : List Bt)) => by cases h), (fun b (h : b ∈ ([] : List Bt)) => by cases h), List.Pairwise.nil⟩
  | f + 1, l, hu, hl => by
    unfold dueB
    cases hb : bestB l now l.length with
    | none =>
      have hn := best_none l.length (Nat.le_refl _) hb
      have hall : ∀ b ∈ l, now < b.u := fun b h => by
        obtain ⟨j, hj, rfl⟩ := List.getElem_of_mem h
        exact hn j hj hj
      refine ⟨?_, (fun b (h : b ∈ ([] : List Bt)) => by cases h), fun b h q => by have := hall b h; omega, List.Pairwise.nil⟩
      exact (List.filter_eq_self.2 fun b h => decide_eq_true (hall b h)).symm
    | some j =>
      obtain ⟨hj, hd⟩ := best_due l.length (Nat.le_refl _) j hb
      simp only [List.getElem?_eq_getElem hj]
      have hx : l[j] ∈ l := List.getElem_mem hj
      have hle := wob_less hx
      obtain ⟨i1, i2, i3, i4⟩ := due_facts now f (wobB l l[j].n) (wob_uniq hu _) (by omega)
      refine ⟨?_, ?_, ?_, ?_⟩
      · rw [i1]
        unfold wobB
        rw [List.filter_filter]
        refine List.filter_congr fun b h => ?_
        by_cases q : now < b.u
        · have : b.n ≠ l[j].n := fun e => by have := ubt_mem hu h hx e; subst this; omega
          simp [q, this]
        · simp [q]
      · intro b h
        rcases List.mem_cons.1 h with rfl | h
        · exact ⟨hx, hd⟩
        · exact ⟨(wob_mem.1 (i2 b h).1).1, (i2 b h).2⟩
      · intro b h q
        by_cases e : b.n = l[j].n
        · rw [ubt_mem hu h hx e]; exact List.mem_cons_self
        · exact List.mem_cons_of_mem _ (i3 b (wob_mem.2 ⟨h, e⟩) q)
      · refine List.pairwise_cons.2 ⟨fun b h e => ?_, i4⟩
        exact (wob_mem.1 (i2 b h).1).2 e.symm
theorem rise_len (l : List Bt) (h : l.Pairwise (fun a b => a.n < b.n)) (hi : ∀ b ∈ l, b.n ≤ 15) : ∀ a : Int, (∀ b ∈ l, a ≤ b.n) → (l.length : Int) ≤ 16 - a ∨ l = [] := by
  induction l with
  | nil => intro a _; exact .inr rfl
  | cons c r ih =>
    intro a ha
    have hp := List.pairwise_cons.1 h
    have hc := ha c List.mem_cons_self
    have hc2 := hi c List.mem_cons_self
    rcases ih hp.2 (fun b hb => hi b (List.mem_cons_of_mem _ hb)) (c.n + 1) (fun b hb => by have := hp.1 b hb; omega) with q | q
    · left; simp only [List.length_cons]; omega
    · left; rw [q]; simp; omega
/-- What a table has, told node by node. -/
structure RelB (l : List Bt) (inc last : Int → Int) (top : Int) : Prop where
  at_ : ∀ j, 0 ≤ j → j ≤ 15 → (beatB l j = none ∧ inc j = 0) ∨ ∃ b, beatB l j = some b ∧ b.i = inc j ∧ b.u = last j ∧ 0 < inc j
  top : ∀ b ∈ l, b.u ≤ top
theorem RelB.more {l : List Bt} {inc last : Int → Int} {top t2 : Int} (h : RelB l inc last top) (ht : top ≤ t2) : RelB l inc last t2 := ⟨h.at_, fun b hb => by have := h.top b hb; omega⟩
theorem RelB.has {l : List Bt} {inc last : Int → Int} {top j : Int} (h : RelB l inc last top) (h0 : 0 ≤ j) (h1 : j ≤ 15) : (beatB l j).isSome = decide (0 < inc j) := by
  rcases h.at_ j h0 h1 with ⟨e1, e2⟩ | ⟨b, e1, _, _, e2⟩
  · rw [e1, e2]; rfl
  · rw [e1]; exact (decide_eq_true e2).symm
theorem RelB.start (last : Int → Int) (top : Int) : RelB [] (fun _ => 0) last top := ⟨fun j _ _ => .inl ⟨rfl, rfl⟩, fun b hb => by cases hb⟩
/-- One value in another's place. -/
def setZ (f : Int → Int) (j y : Int) : Int → Int := fun i => if i = j then y else f i
/-- A node is seen: what is told, what stands. -/
theorem RelB.seen {l : List Bt} {inc last : Int → Int} {now s k n : Int} (h : RelB l inc last (now + s)) (hs : 1 ≤ s) (hs2 : s ≤ 64) (hk0 : 0 ≤ k) (hk1 : k ≤ 15) (hn0 : 1 ≤ n) (hn1 : n ≤ 4) (h0 : 0 ≤ now) (h1 : now ≤ 100000) (hu : uniqB l) (hu2 : uniqB (seenB s l k n now).1) :
    (inc k ≤ n → (seenB s l k n now).2 = 0 ∧ RelB (seenB s l k n now).1 (setZ inc k n) (setZ last k (now + s)) (now + s)) ∧ (¬ inc k ≤ n → (seenB s l k n now).2 = 11 ∧ (seenB s l k n now).1 = l) := by
  have hm : mayB k n now = true := by
    unfold mayB
    simp only [Bool.and_eq_true, decide_eq_true_eq]
    omega
  have hlt : laterV now s = now + s := by
    unfold laterV spanV
    repeat' split
    all_goals omega
  have put : ∀ y : Bt, y.n = k → y.i = n → y.u = now + s → uniqB (putB l y) → RelB (putB l y) (setZ inc k n) (setZ last k (now + s)) (now + s) := fun y e1 e2 e3 hq => by
    refine ⟨fun j j0 j1 => ?_, fun b hb => ?_⟩
    · by_cases hj : j = k
      · subst hj
        have : beatB (putB l y) j = some y := by rw [← e1]; exact beat_mem hq (put_mem.2 (.inl rfl))
        exact .inr ⟨y, this, by simp [setZ, e2], by simp [setZ, e3], by simp [setZ]; omega⟩
      · simp only [setZ, if_neg hj]
        rcases h.at_ j j0 j1 with ⟨q1, q2⟩ | ⟨b, q1, q2, q3, q4⟩
        · refine .inl ⟨?_, q2⟩
          cases hc : beatB (putB l y) j with
          | none => rfl
          | some c =>
            obtain ⟨c1, c2⟩ := beat_some hc
            rcases put_mem.1 c1 with rfl | ⟨c3, _⟩
            · omega
            · exact absurd c2 (beat_none q1 c c3)
        · obtain ⟨c1, c2⟩ := beat_some q1
          have := beat_mem hq (put_mem.2 (.inr ⟨c1, by omega⟩) : b ∈ putB l y)
          rw [c2] at this
          exact .inr ⟨b, this, q2, q3, q4⟩
    · rcases put_mem.1 hb with rfl | ⟨c, _⟩
      · omega
      · exact h.top b c
  unfold seenB at hu2 ⊢
  rw [if_neg (show ¬ s = 0 by omega), if_neg (by rw [hm]; simp)] at hu2 ⊢
  rcases h.at_ k hk0 hk1 with ⟨e1, e2⟩ | ⟨b, e1, e2, e3, e4⟩
  · rw [e1] at hu2 ⊢
    refine ⟨fun _ => ⟨rfl, put _ rfl rfl hlt hu2⟩, fun q => absurd (by omega) q⟩
  · rw [e1] at hu2 ⊢
    simp only at hu2 ⊢
    by_cases hi : n < b.i
    · rw [if_pos hi] at hu2 ⊢
      exact ⟨fun q => absurd q (by omega), fun _ => ⟨rfl, rfl⟩⟩
    · rw [if_neg hi] at hu2 ⊢
      refine ⟨fun _ => ⟨rfl, put _ rfl rfl ?_ hu2⟩, fun q => absurd (by omega) q⟩
      have := h.top b (beat_some e1).1
      show (if b.i = n then max (laterV now s) b.u else laterV now s) = now + s
      rw [hlt]
      split <;> omega
/-- The nodes that are struck out. -/
def zerZ (f : Int → Int) (ns : List Int) : Int → Int := fun i => if i ∈ ns then 0 else f i
theorem zerZ_nil (f : Int → Int) : zerZ f [] = f := by funext i; simp [zerZ]
theorem zerZ_step (f : Int → Int) (ds : List Bt) (k : Nat) (hk : k < ds.length) : setZ (zerZ f ((ds.take k).map Bt.n)) ds[k].n 0 = zerZ f ((ds.take (k + 1)).map Bt.n) := by
  funext i
  rw [List.take_succ_eq_append_getElem hk, List.map_append]
  simp only [setZ, zerZ, List.mem_append, List.map_cons, List.map_nil, List.mem_singleton]
  by_cases h : i = ds[k].n
  · simp [h]
  · simp [h]
theorem due_at {l : List Bt} {inc last : Int → Int} {top now : Int} (h : RelB l inc last top) (hu : uniqB l) (hl : l.length ≤ 16) (hok : ∀ b ∈ l, 0 ≤ b.n ∧ b.n ≤ 15) (k : Nat) (hk : k < (dueB 16 l now).1.length) :
    0 ≤ ((dueB 16 l now).1[k]).n ∧ ((dueB 16 l now).1[k]).n ≤ 15 ∧ zerZ inc (((dueB 16 l now).1.take k).map Bt.n) ((dueB 16 l now).1[k]).n = ((dueB 16 l now).1[k]).i ∧ last ((dueB 16 l now).1[k]).n ≤ now := by
  obtain ⟨f1, f2, f3, f4⟩ := due_facts now 16 l hu hl
  generalize (dueB 16 l now).1 = ds at *
  obtain ⟨m1, m2⟩ := f2 ds[k] (List.getElem_mem hk)
  obtain ⟨n0, n1⟩ := hok _ m1
  have hb := beat_mem hu m1
  rcases h.at_ ds[k].n n0 n1 with ⟨e1, e2⟩ | ⟨b, e1, e2, e3, e4⟩
  · rw [e1] at hb; cases hb
  · rw [e1] at hb; cases hb
    refine ⟨n0, n1, ?_, by omega⟩
    have : ¬ ds[k].n ∈ (ds.take k).map Bt.n := fun q => by
      obtain ⟨c, c1, c2⟩ := List.mem_map.1 q
      obtain ⟨j, hj, hc⟩ := List.getElem_of_mem c1
      have hjk : j < k := by have := hj; rw [List.length_take] at this; omega
      rw [List.getElem_take] at hc
      have := List.pairwise_iff_getElem.1 f4 j k (by omega) hk hjk
      rw [hc] at this
      exact this c2
    simp only [zerZ, if_neg this]
    exact e2.symm
theorem due_end {l : List Bt} {inc last : Int → Int} {top now : Int} (h : RelB l inc last top) (hu : uniqB l) (hl : l.length ≤ 16) :
    RelB (dueB 16 l now).2 (zerZ inc ((dueB 16 l now).1.map Bt.n)) last top ∧ ∀ b ∈ (dueB 16 l now).2, now < b.u := by
  obtain ⟨f1, f2, f3, f4⟩ := due_facts now 16 l hu hl
  have hm : ∀ b, b ∈ (dueB 16 l now).2 ↔ b ∈ l ∧ now < b.u := fun b => by rw [f1]; simp
  have hu2 : uniqB (dueB 16 l now).2 := by rw [f1]; exact List.Pairwise.filter _ hu
  generalize (dueB 16 l now).2 = lf at *
  generalize (dueB 16 l now).1 = ds at *
  refine ⟨⟨fun j j0 j1 => ?_, fun b hb => h.top b ((hm b).1 hb).1⟩, fun b hb => ((hm b).1 hb).2⟩
  have gone : (∀ b ∈ l, b.n = j → b.u ≤ now) → beatB lf j = none := fun q => by
    cases hc : beatB lf j with
    | none => rfl
    | some c =>
      obtain ⟨c1, c2⟩ := beat_some hc
      have := q c ((hm c).1 c1).1 c2
      have := ((hm c).1 c1).2
      omega
  rcases h.at_ j j0 j1 with ⟨e1, e2⟩ | ⟨b, e1, e2, e3, e4⟩
  · refine .inl ⟨gone fun b hb q => absurd q (beat_none e1 b hb), ?_⟩
    unfold zerZ
    split
    · rfl
    · exact e2
  · obtain ⟨b1, b2⟩ := beat_some e1
    by_cases hq : b.u ≤ now
    · refine .inl ⟨gone fun c hc q => ?_, ?_⟩
      · rw [ubt_mem hu hc b1 (by omega)]; exact hq
      · unfold zerZ
        rw [if_pos (List.mem_map.2 ⟨b, f3 b b1 hq, b2⟩)]
    · have hb := beat_mem hu2 ((hm b).2 ⟨b1, by omega⟩)
      rw [b2] at hb
      have : ¬ j ∈ ds.map Bt.n := fun q => by
        obtain ⟨c, c1, c2⟩ := List.mem_map.1 q
        obtain ⟨d1, d2⟩ := f2 c c1
        rw [ubt_mem hu d1 b1 (by omega)] at d2
        exact hq d2
      exact .inr ⟨b, hb, by simp only [zerZ, if_neg this]; exact e2, e3, by simp only [zerZ, if_neg this]; exact e4⟩
end Go.Proofs.Ytdlkpkigpnlanaa
/- What is told of one node changes nothing of others: seen, dropped, due; plain. Conditions: rows in the order of their nodes. -/
namespace Go.Proofs.Ytdlkpkigpnlanaa
set_option linter.unusedVariables false

theorem list_ext {α : Type} {R : α → α → Prop} (hR : ∀ a b, R a b → R b a → False) : ∀ {a b : List α}, a.Pairwise R → b.Pairwise R → (∀ x, x ∈ a ↔ x ∈ b) → a = b
  | [], [], _, _, _ => rfl
  | [], y :: b, _, _, h => by have := (h y).2 List.mem_cons_self; cases this
  | x :: a, [], _, _, h => by have := (h x).1 List.mem_cons_self; cases this
  | x :: a, y :: b, ha, hb, h => by
    have pa := List.pairwise_cons.1 ha
    have pb := List.pairwise_cons.1 hb
    have e : x = y := by
      rcases List.mem_cons.1 ((h x).1 List.mem_cons_self) with e | e
      · exact e
      · rcases List.mem_cons.1 ((h y).2 List.mem_cons_self) with q | q
        · exact q.symm
        · exact (hR x y (pa.1 y q) (pb.1 x e)).elim
    subst e
    refine congrArg _ (list_ext hR pa.2 pb.2 fun z => ?_)
    constructor
    · intro hz
      rcases List.mem_cons.1 ((h z).1 (List.mem_cons_of_mem _ hz)) with rfl | q
      · exact (hR z z (pa.1 z hz) (pa.1 z hz)).elim
      · exact q
    · intro hz
      rcases List.mem_cons.1 ((h z).2 (List.mem_cons_of_mem _ hz)) with rfl | q
      · exact (hR z z (pb.1 z hz) (pb.1 z hz)).elim
      · exact q
def SrtB (l : List Bt) : Prop := l.Pairwise (fun a b => a.n < b.n)
theorem srt_ext {a b : List Bt} (ha : SrtB a) (hb : SrtB b) (h : ∀ x, x ∈ a ↔ x ∈ b) : a = b := list_ext (fun a b h1 h2 => by omega) ha hb h
theorem SrtB.wob {l : List Bt} (h : SrtB l) (n : Int) : SrtB (wobB l n) := List.Pairwise.filter _ h
theorem SrtB.uniq {l : List Bt} (h : SrtB l) : uniqB l := List.Pairwise.imp (fun hab => by omega) h
theorem wob_comm (l : List Bt) (n m : Int) : wobB (wobB l n) m = wobB (wobB l m) n := by
  unfold wobB
  rw [List.filter_filter, List.filter_filter]
  exact List.filter_congr fun b _ => Bool.and_comm _ _
theorem wob_twice (l : List Bt) (n : Int) : wobB (wobB l n) n = wobB l n := by
  unfold wobB
  rw [List.filter_filter]
  exact List.filter_congr fun b _ => Bool.and_self _
theorem beat_wob {l : List Bt} {n m : Int} (h : n ≠ m) : beatB (wobB l m) n = beatB l n := by
  unfold beatB wobB
  rw [List.find?_filter]
  congr 1
  funext b
  by_cases q : b.n = n
  · simp [q, h]
  · simp [q]
theorem put_wob {l : List Bt} {x : Bt} {m : Int} (h : x.n ≠ m) (h1 : SrtB (putB (wobB l m) x)) (h2 : SrtB (putB l x)) : putB (wobB l m) x = wobB (putB l x) m :=
  srt_ext h1 (h2.wob m) fun b => by
    rw [put_mem, wob_mem, wob_mem, put_mem]
    constructor
    · rintro (rfl | ⟨⟨q1, q2⟩, q3⟩)
      · exact ⟨.inl rfl, h⟩
      · exact ⟨.inr ⟨q1, q3⟩, q2⟩
    · rintro ⟨rfl | ⟨q1, q2⟩, q3⟩
      · exact .inl rfl
      · exact .inr ⟨⟨q1, q3⟩, q2⟩
theorem put_same {l : List Bt} {x : Bt} (h0 : SrtB l) (h2 : SrtB (putB l x)) : wobB (putB l x) x.n = wobB l x.n :=
  srt_ext (h2.wob _) (h0.wob _) fun b => by
    rw [wob_mem, wob_mem, put_mem]
    constructor
    · rintro ⟨rfl | ⟨q1, q2⟩, q3⟩
      · exact absurd rfl q3
      · exact ⟨q1, q3⟩
    · rintro ⟨q1, q2⟩
      exact ⟨.inr ⟨q1, q2⟩, q2⟩
theorem seen_apart {s : Int} {l : List Bt} {n i now m : Int} (hs : s ≠ 0) (h : n ≠ m) (h1 : SrtB (seenB s (wobB l m) n i now).1) (h2 : SrtB (seenB s l n i now).1) :
    seenB s (wobB l m) n i now = (wobB (seenB s l n i now).1 m, (seenB s l n i now).2) := by
  unfold seenB at h1 h2 ⊢
  rw [if_neg hs] at h1 h2 ⊢
  rw [if_neg hs] at ⊢
  cases hm : mayB n i now with
  | false => simp only [if_true]
  | true =>
    rw [hm, if_neg (by simp)] at h1 h2
    rw [if_neg (by simp), if_neg (by simp)]
    rw [beat_wob h] at h1 ⊢
    cases hb : beatB l n with
    | none =>
      rw [hb] at h1 h2
      simp only at h1 h2 ⊢
      rw [put_wob (x := ⟨n, i, laterV now s⟩) h h1 h2]
    | some x =>
      rw [hb] at h1 h2
      simp only at h1 h2 ⊢
      by_cases hi : i < x.i
      · rw [if_pos hi, if_pos hi]
      · rw [if_neg hi] at h1 h2
        rw [if_neg hi, if_neg hi]
        rw [put_wob (x := ⟨n, i, _⟩) h h1 h2]
theorem seen_mine {s : Int} {l : List Bt} {m i now : Int} (h0 : SrtB l) (h2 : SrtB (seenB s l m i now).1) : wobB (seenB s l m i now).1 m = wobB l m := by
  unfold seenB at h2 ⊢
  by_cases hs : s = 0
  · rw [if_pos hs]
  · rw [if_neg hs] at h2 ⊢
    cases hm : mayB m i now with
    | false => simp only [if_true]
    | true =>
      rw [hm, if_neg (by simp)] at h2
      rw [if_neg (by simp)]
      cases hb : beatB l m with
      | none =>
        rw [hb] at h2
        exact put_same (x := ⟨m, i, laterV now s⟩) h0 h2
      | some x =>
        rw [hb] at h2
        simp only at h2 ⊢
        by_cases hi : i < x.i
        · rw [if_pos hi]
        · rw [if_neg hi] at h2 ⊢
          exact put_same (x := ⟨m, i, _⟩) h0 h2
theorem drop_apart {l : List Bt} {n i m : Int} (h : n ≠ m) : dropB (wobB l m) n i = (wobB (dropB l n i).1 m, (dropB l n i).2) := by
  unfold dropB
  rw [beat_wob h]
  cases beatB l n with
  | none => rfl
  | some x =>
    simp only
    split
    · rw [wob_comm]
    · rfl
theorem drop_mine {l : List Bt} {m i : Int} : wobB (dropB l m i).1 m = wobB l m := by
  unfold dropB
  split
  · rfl
  · split
    · exact wob_twice l m
    · rfl
/-! ### What is due comes in order -/
def befB (a b : Bt) : Prop := a.u < b.u ∨ (a.u = b.u ∧ a.n < b.n)
theorem best_least {l : List Bt} {now : Int} : ∀ k, k ≤ l.length → ∀ j, bestB l now k = some j → ∀ i (hi : i < k) (hl : i < l.length) (hj : j < l.length), l[i].u ≤ now → l[j].u < l[i].u ∨ (l[j].u = l[i].u ∧ j ≤ i)
  | 0, _, _, h, _, _, _, _, _ => by cases h
  | k + 1, hk, j, h, i, hi, hl, hj, hd => by
    rw [bestB_step l now k (by omega)] at h
    split at h
    · rename_i q
      cases h
      rcases Nat.lt_or_ge i k with r | r
      · cases hb : bestB l now k with
        | none => have := best_none k (by omega) hb i r hl; omega
        | some j2 =>
          have hj2 := bestB_lt l now k (by omega) j2 hb
          have a1 := q.2 j2 (by omega) hb
          rcases best_least k (by omega) j2 hb i r hl (by omega) hd with a2 | a2
          · left; omega
          · left; omega
      · obtain rfl : i = k := by omega
        exact .inr ⟨rfl, Nat.le_refl _⟩
    · rename_i q
      rcases Nat.lt_or_ge i k with r | r
      · exact best_least k (by omega) j h i r hl hj hd
      · obtain rfl : i = k := by omega
        have a1 : ¬ (l[i].u < l[j].u) := fun c => q ⟨hd, fun j2 hj2 h2 => by rw [h] at h2; cases h2; exact c⟩
        have a2 := bestB_lt l now i (by omega) j h
        by_cases a3 : l[j].u = l[i].u
        · exact .inr ⟨a3, by omega⟩
        · left; omega
theorem due_order (now : Int) : ∀ (f : Nat) (l : List Bt), SrtB l → l.length ≤ f → (dueB f l now).1.Pairwise befB
  | 0, l, hu, hl => List.Pairwise.nil
  | f + 1, l, hu, hl => by
    unfold dueB
    cases hb : bestB l now l.length with
    | none => exact List.Pairwise.nil
    | some j =>
      obtain ⟨hj, hd⟩ := best_due l.length (Nat.le_refl _) j hb
      simp only [List.getElem?_eq_getElem hj]
      have hx : l[j] ∈ l := List.getElem_mem hj
      have hle := wob_less hx
      refine List.pairwise_cons.2 ⟨fun b hb2 => ?_, due_order now f (wobB l l[j].n) (hu.wob _) (by omega)⟩
      obtain ⟨_, i2, _, _⟩ := due_facts now f (wobB l l[j].n) (wob_uniq hu.uniq _) (by omega)
      obtain ⟨b1, b2⟩ := i2 b hb2
      obtain ⟨b3, b4⟩ := wob_mem.1 b1
      obtain ⟨i, hi, rfl⟩ := List.getElem_of_mem b3
      rcases best_least l.length (Nat.le_refl _) j hb i hi hi hj b2 with q | ⟨q1, q2⟩
      · exact .inl q
      · refine .inr ⟨q1, ?_⟩
        have : j < i := Nat.lt_of_le_of_ne q2 (fun e => by subst e; exact b4 rfl)
        exact List.pairwise_iff_getElem.1 hu j i hj hi this
theorem due_apart {l : List Bt} {now m : Int} (h : SrtB l) (hl : l.length ≤ 16) : dueB 16 (wobB l m) now = (wobB (dueB 16 l now).1 m, wobB (dueB 16 l now).2 m) := by
  have hw : (wobB l m).length ≤ 16 := Nat.le_trans (wobB_len l m) hl
  obtain ⟨f1, f2, f3, f4⟩ := due_facts now 16 l h.uniq hl
  obtain ⟨g1, g2, g3, g4⟩ := due_facts now 16 (wobB l m) (h.wob m).uniq hw
  have o1 := due_order now 16 l h hl
  have o2 := due_order now 16 (wobB l m) (h.wob m) hw
  refine Prod.ext ?_ ?_
  · show (dueB 16 (wobB l m) now).1 = wobB (dueB 16 l now).1 m
    refine list_ext (R := befB) (fun a b h1 h2 => by unfold befB at h1 h2; omega) o2 (List.Pairwise.filter _ o1) fun b => ?_
    constructor
    · intro hb
      obtain ⟨q1, q2⟩ := g2 b hb
      obtain ⟨q3, q4⟩ := wob_mem.1 q1
      exact wob_mem.2 ⟨f3 b q3 q2, q4⟩
    · intro hb
      obtain ⟨q1, q2⟩ := wob_mem.1 hb
      obtain ⟨q3, q4⟩ := f2 b q1
      exact g3 b (wob_mem.2 ⟨q3, q2⟩) q4
  · show (dueB 16 (wobB l m) now).2 = wobB (dueB 16 l now).2 m
    rw [f1, g1]
    unfold wobB
    rw [List.filter_filter, List.filter_filter]
    exact List.filter_congr fun b _ => Bool.and_comm _ _
end Go.Proofs.Ytdlkpkigpnlanaa
/- Beats and the timers of a wheel: what a wheel with the nodes' ticks says of a table's beats; plain. Conditions: rows in their order. -/
namespace Go.Proofs.Ytdlkpkigpnlanaa
set_option linter.unusedVariables false

def tmOf (b : Bt) : Tm := ⟨b.n, b.u⟩
/-- The wheel's timers are the beats' nodes and ticks; the incarnations stand apart. -/
structure RelT (tl : List Tm) (l : List Bt) (inc : Int → Int) : Prop where
  mem : ∀ x, x ∈ tl ↔ ∃ b ∈ l, tmOf b = x
  inc : ∀ b ∈ l, inc b.n = b.i
theorem RelT.nil (inc : Int → Int) : RelT [] [] inc := ⟨fun x => by simp, fun b hb => by cases hb⟩
theorem RelT.tick {tl : List Tm} {l : List Bt} {inc : Int → Int} (h : RelT tl l inc) (hs : SortedW tl) (hl : SrtB l) (n : Int) : tickW tl n = (beatB l n).map Bt.u := by
  cases hb : beatB l n with
  | none =>
    refine tickW_none.2 fun x hx e => ?_
    obtain ⟨b, b1, rfl⟩ := (h.mem x).1 hx
    exact beat_none hb b b1 e
  | some b =>
    obtain ⟨b1, b2⟩ := beat_some hb
    exact (tickW_some hs.ids).2 ⟨tmOf b, (h.mem _).2 ⟨b, b1, rfl⟩, b2, rfl⟩
theorem RelT.beat {tl : List Tm} {l : List Bt} {inc : Int → Int} (h : RelT tl l inc) (hs : SortedW tl) (hl : SrtB l) (n : Int) : (tickW tl n = none ∧ beatB l n = none) ∨ ∃ b, tickW tl n = some b.u ∧ beatB l n = some b ∧ b.n = n ∧ b.i = inc n ∧ b ∈ l := by
  have := h.tick hs hl n
  cases hb : beatB l n with
  | none => rw [hb] at this; exact .inl ⟨this, rfl⟩
  | some b =>
    rw [hb] at this
    obtain ⟨b1, b2⟩ := beat_some hb
    exact .inr ⟨b, this, rfl, b2, by rw [← b2]; exact (h.inc b b1).symm, b1⟩
theorem mem_setW {l : List Tm} {x y : Tm} (hm : mayW x.tick = true) : y ∈ setW l x ↔ y = x ∨ (y ∈ l ∧ y.id ≠ x.id) := by
  unfold setW
  rw [if_pos hm, (insW_perm _ _).mem_iff, List.mem_cons, mem_dropW]
theorem RelT.set {tl : List Tm} {l : List Bt} {inc : Int → Int} (h : RelT tl l inc) (x : Bt) (hm : mayW x.u = true) : RelT (setW tl (tmOf x)) (putB l x) (setZ inc x.n x.i) := by
  refine ⟨fun y => ?_, fun b hb => ?_⟩
  · rw [mem_setW (x := tmOf x) hm, h.mem y]
    constructor
    · rintro (rfl | ⟨⟨b, b1, rfl⟩, b2⟩)
      · exact ⟨x, put_mem.2 (.inl rfl), rfl⟩
      · exact ⟨b, put_mem.2 (.inr ⟨b1, b2⟩), rfl⟩
    · rintro ⟨b, b1, rfl⟩
      rcases put_mem.1 b1 with rfl | ⟨b2, b3⟩
      · exact .inl rfl
      · exact .inr ⟨⟨b, b2, rfl⟩, b3⟩
  · rcases put_mem.1 hb with rfl | ⟨b2, b3⟩
    · simp [setZ]
    · simp only [setZ, if_neg b3]; exact h.inc b b2
theorem RelT.drop {tl : List Tm} {l : List Bt} {inc : Int → Int} (h : RelT tl l inc) (n : Int) : RelT (dropW tl n) (wobB l n) inc := by
  refine ⟨fun y => ?_, fun b hb => h.inc b (wob_mem.1 hb).1⟩
  rw [mem_dropW, h.mem y]
  constructor
  · rintro ⟨⟨b, b1, rfl⟩, b2⟩
    exact ⟨b, wob_mem.2 ⟨b1, b2⟩, rfl⟩
  · rintro ⟨b, b1, rfl⟩
    obtain ⟨b2, b3⟩ := wob_mem.1 b1
    exact ⟨⟨b, b2, rfl⟩, b3⟩
/-- What is due, what is left. -/
theorem RelT.due {tl : List Tm} {l : List Bt} {inc : Int → Int} (h : RelT tl l inc) (hs : SortedW tl) (hl : SrtB l) (h16 : l.length ≤ 16) (now : Int) :
    dueW tl now = (dueB 16 l now).1.map Bt.n ∧ RelT (leftW tl now) (dueB 16 l now).2 inc ∧ ∀ b ∈ (dueB 16 l now).1, b ∈ l ∧ beatB l b.n = some b ∧ tickW tl b.n = some b.u := by
  obtain ⟨f1, f2, f3, f4⟩ := due_facts now 16 l hl.uniq h16
  have o := due_order now 16 l hl h16
  obtain ⟨g1, g2⟩ := leftW_filter hs.ord now
  refine ⟨?_, ⟨fun x => ?_, fun b hb => h.inc b ?_⟩, fun b hb => ?_⟩
  · have e : tl.take (dueN tl now) = (dueB 16 l now).1.map tmOf := by
      refine list_ext (R := fun x y => tmB x y = true) (fun a b h1 h2 => ?_) (hs.ord.sublist (List.take_sublist _ _)) ?_ fun x => ?_
      · unfold tmB at h1 h2; simp at h1 h2; omega
      · refine List.pairwise_map.2 (List.Pairwise.imp (fun {a b} hab => ?_) o)
        unfold befB at hab
        unfold tmB tmOf
        simp
        omega
      · rw [g1, List.mem_filter, List.mem_map, h.mem x]
        constructor
        · rintro ⟨⟨b, b1, rfl⟩, b2⟩
          exact ⟨b, f3 b b1 (of_decide_eq_true b2), rfl⟩
        · rintro ⟨b, b1, rfl⟩
          exact ⟨⟨b, (f2 b b1).1, rfl⟩, decide_eq_true (f2 b b1).2⟩
    unfold dueW
    rw [e, List.map_map]
    rfl
  · rw [g2, f1, List.mem_filter, h.mem x]
    constructor
    · rintro ⟨⟨b, b1, rfl⟩, b2⟩
      have b3 : ¬ b.u ≤ now := fun q => by rw [show (tmOf b).tick = b.u from rfl, decide_eq_true q] at b2; cases b2
      exact ⟨b, List.mem_filter.2 ⟨b1, decide_eq_true (by omega)⟩, rfl⟩
    · rintro ⟨b, b1, rfl⟩
      obtain ⟨b2, b3⟩ := List.mem_filter.1 b1
      have b4 := of_decide_eq_true b3
      exact ⟨⟨b, b2, rfl⟩, by rw [show (tmOf b).tick = b.u from rfl, decide_eq_false (by omega)]; rfl⟩
  · rw [f1] at hb
    exact (List.mem_filter.1 hb).1
  · have hm := (f2 b hb).1
    have hb2 := beat_mem hl.uniq hm
    exact ⟨hm, hb2, by rw [h.tick hs hl, hb2]; rfl⟩
end Go.Proofs.Ytdlkpkigpnlanaa
/- Beats put in their order; what is due in two steps, first all of the first tick; plain. Conditions: rows in their order. -/
namespace Go.Proofs.Ytdlkpkigpnlanaa
set_option linter.unusedVariables false

theorem ins_cons_lt {a x : Bt} {r : List Bt} (h : a.n < x.n) : insB (a :: r) x = a :: insB r x := by
  unfold insB aheadB
  rw [List.takeWhile_cons, decide_eq_true h]
  simp
theorem ins_cons_ge {a x : Bt} {r : List Bt} (h : ¬ a.n < x.n) : insB (a :: r) x = x :: a :: r := by
  unfold insB aheadB
  rw [List.takeWhile_cons, decide_eq_false h]
  simp
theorem insB_mem {l : List Bt} {x b : Bt} : b ∈ insB l x ↔ b = x ∨ b ∈ l := by
  induction l with
  | nil => simp [insB, aheadB]
  | cons a r ih =>
    by_cases h : a.n < x.n
    · rw [ins_cons_lt h, List.mem_cons, ih, List.mem_cons]
      constructor
      · rintro (h | h | h)
        · exact .inr (.inl h)
        · exact .inl h
        · exact .inr (.inr h)
      · rintro (h | h | h)
        · exact .inr (.inl h)
        · exact .inl h
        · exact .inr (.inr h)
    · rw [ins_cons_ge h, List.mem_cons]
theorem ins_srt {x : Bt} : ∀ {l : List Bt}, SrtB l → (∀ b ∈ l, b.n ≠ x.n) → SrtB (insB l x)
  | [], _, _ => by simp [insB, aheadB, SrtB]
  | a :: r, h, hx => by
    have hp := List.pairwise_cons.1 h
    by_cases ha : a.n < x.n
    · rw [ins_cons_lt ha]
      refine List.pairwise_cons.2 ⟨fun b hb => ?_, ins_srt hp.2 fun b hb => hx b (List.mem_cons_of_mem _ hb)⟩
      rcases insB_mem.1 hb with rfl | hb
      · exact ha
      · exact hp.1 b hb
    · rw [ins_cons_ge ha]
      have hax := hx a List.mem_cons_self
      refine List.pairwise_cons.2 ⟨fun b hb => ?_, h⟩
      rcases List.mem_cons.1 hb with rfl | hb
      · omega
      · have := hp.1 b hb; omega
theorem put_srt {l : List Bt} (h : SrtB l) (x : Bt) : SrtB (putB l x) := ins_srt (h.wob _) fun b hb => (wob_mem.1 hb).2
theorem srt_16 {l : List Bt} (h : SrtB l) (h0 : ∀ b ∈ l, 0 ≤ b.n ∧ b.n ≤ 15) : l.length ≤ 16 := by
  rcases rise_len l h (fun b hb => (h0 b hb).2) 0 (fun b hb => (h0 b hb).1) with q | q
  · omega
  · rw [q]; simp
theorem due_none {l : List Bt} (h : SrtB l) (h16 : l.length ≤ 16) {now : Int} (hn : ∀ b ∈ l, now < b.u) : (dueB 16 l now).1 = [] ∧ (dueB 16 l now).2 = l := by
  obtain ⟨f1, f2, f3, f4⟩ := due_facts now 16 l h.uniq h16
  refine ⟨?_, ?_⟩
  · cases hd : (dueB 16 l now).1 with
    | nil => rfl
    | cons b r =>
      obtain ⟨q1, q2⟩ := f2 b (by rw [hd]; exact List.mem_cons_self)
      have := hn b q1
      omega
  · rw [f1]
    exact List.filter_eq_self.2 fun b hb => decide_eq_true (hn b hb)
theorem due_srt {l : List Bt} (h : SrtB l) (h16 : l.length ≤ 16) (now : Int) : SrtB (dueB 16 l now).2 ∧ (dueB 16 l now).2.length ≤ 16 ∧ ∀ b ∈ (dueB 16 l now).2, b ∈ l := by
  obtain ⟨f1, f2, f3, f4⟩ := due_facts now 16 l h.uniq h16
  rw [f1]
  exact ⟨List.Pairwise.filter _ h, Nat.le_trans (List.length_filter_le _ _) h16, fun b hb => (List.mem_filter.1 hb).1⟩
theorem due_split {l : List Bt} (h : SrtB l) (h16 : l.length ≤ 16) {a now : Int} (ha : a ≤ now) :
    (dueB 16 l now).1 = (dueB 16 l a).1 ++ (dueB 16 (dueB 16 l a).2 now).1 ∧ (dueB 16 l now).2 = (dueB 16 (dueB 16 l a).2 now).2 := by
  obtain ⟨s1, s2, s3⟩ := due_srt h h16 a
  obtain ⟨f1, f2, f3, f4⟩ := due_facts now 16 l h.uniq h16
  obtain ⟨g1, g2, g3, g4⟩ := due_facts a 16 l h.uniq h16
  obtain ⟨k1, k2, k3, k4⟩ := due_facts now 16 (dueB 16 l a).2 s1.uniq s2
  refine ⟨?_, ?_⟩
  · refine list_ext (R := befB) (fun x y h1 h2 => by unfold befB at h1 h2; omega) (due_order now 16 l h h16) ?_ fun b => ?_
    · refine List.pairwise_append.2 ⟨due_order a 16 l h h16, due_order now 16 _ s1 s2, fun x hx y hy => .inl ?_⟩
      have h1 := (g2 x hx).2
      have h2 := (k2 y hy).1
      rw [g1] at h2
      have h3 := of_decide_eq_true (List.mem_filter.1 h2).2
      omega
    · rw [List.mem_append]
      constructor
      · intro hb
        obtain ⟨b1, b2⟩ := f2 b hb
        by_cases q : b.u ≤ a
        · exact .inl (g3 b b1 q)
        · exact .inr (k3 b (by rw [g1]; exact List.mem_filter.2 ⟨b1, decide_eq_true (by omega)⟩) b2)
      · rintro (hb | hb)
        · obtain ⟨b1, b2⟩ := g2 b hb
          exact f3 b b1 (by omega)
        · obtain ⟨b1, b2⟩ := k2 b hb
          exact f3 b (s3 b b1) b2
  · rw [k1, f1, g1, List.filter_filter]
    refine List.filter_congr fun b _ => ?_
    by_cases q : now < b.u
    · have q2 : a < b.u := by omega
      simp [q, q2]
    · simp [q]
theorem next_le {tl : List Tm} (h : SortedW tl) {x : Tm} (hx : x ∈ tl) : nextW tl ≤ x.tick := by
  cases tl with
  | nil => cases hx
  | cons a r =>
    show a.tick ≤ x.tick
    rcases List.mem_cons.1 hx with rfl | hx
    · exact Int.le_refl _
    · have := (List.pairwise_cons.1 h.ord).1 x hx
      unfold tmB at this
      simp at this
      omega
/-- A round of Due: all of the first tick. -/
structure DueR (tl : List Tm) (l : List Bt) (inc : Int → Int) (now : Int) : Prop where
  ids : dueW tl (nextW tl) = (dueB 16 l (nextW tl)).1.map Bt.n
  rel : RelT (leftW tl (nextW tl)) (dueB 16 l (nextW tl)).2 inc
  all : ∀ b ∈ (dueB 16 l (nextW tl)).1, b.u = nextW tl ∧ b.i = inc b.n ∧ b ∈ l
  srt : SrtB (dueB 16 l (nextW tl)).2
  len : (dueB 16 l (nextW tl)).2.length < l.length
  one : (dueB 16 l now).1 = (dueB 16 l (nextW tl)).1 ++ (dueB 16 (dueB 16 l (nextW tl)).2 now).1
  two : (dueB 16 l now).2 = (dueB 16 (dueB 16 l (nextW tl)).2 now).2
  sub : ∀ b ∈ (dueB 16 l (nextW tl)).2, b ∈ l
  pos : 0 < (dueB 16 l (nextW tl)).1.length
theorem due_round {tl : List Tm} {l : List Bt} {inc : Int → Int} (h : RelT tl l inc) (hs : SortedW tl) (hl : SrtB l) (h16 : l.length ≤ 16) (hne : tl ≠ []) {now : Int} (hn : nextW tl ≤ now) : DueR tl l inc now := by
  obtain ⟨r1, r2, r3⟩ := h.due hs hl h16 (nextW tl)
  obtain ⟨g1, g2, g3, g4⟩ := due_facts (nextW tl) 16 l hl.uniq h16
  obtain ⟨s1, s2, s3⟩ := due_srt hl h16 (nextW tl)
  obtain ⟨p1, p2⟩ := due_split hl h16 hn
  refine ⟨r1, r2, fun b hb => ⟨?_, (h.inc b (g2 b hb).1).symm, (g2 b hb).1⟩, s1, ?_, p1, p2, s3, ?_⟩
  · have h1 := (g2 b hb).2
    have h2 := next_le hs ((h.mem _).2 ⟨b, (g2 b hb).1, rfl⟩)
    have h3 : (tmOf b).tick = b.u := rfl
    omega
  · rw [g1]
    cases tl with
    | nil => exact absurd rfl hne
    | cons a r =>
      obtain ⟨b, b1, b2⟩ := (h.mem a).1 List.mem_cons_self
      refine List.length_filter_lt_length_iff_exists.2 ⟨b, b1, ?_⟩
      have : b.u = nextW (a :: r) := by show b.u = a.tick; rw [← b2]; rfl
      simp [this]
  · cases tl with
    | nil => exact absurd rfl hne
    | cons a r =>
      obtain ⟨b, b1, b2⟩ := (h.mem a).1 List.mem_cons_self
      have : b.u = nextW (a :: r) := by show b.u = a.tick; rw [← b2]; rfl
      exact List.length_pos_of_mem (g3 b b1 (by omega))
theorem due_stop {tl : List Tm} {l : List Bt} {inc : Int → Int} (h : RelT tl l inc) (hs : SortedW tl) (hl : SrtB l) (h16 : l.length ≤ 16) {now : Int} (hn : tl = [] ∨ now < nextW tl) : (dueB 16 l now).1 = [] ∧ (dueB 16 l now).2 = l := by
  refine due_none hl h16 fun b hb => ?_
  have h1 := (h.mem _).2 ⟨b, hb, rfl⟩
  rcases hn with rfl | hn
  · cases h1
  · have := next_le hs h1
    have h3 : (tmOf b).tick = b.u := rfl
    omega
theorem nextW_nil : nextW [] = 0 := rfl
theorem upto_step {l : List Bt} (h : SrtB l) (k : Int) : (beatB l k = none → l.filter (fun b => decide (b.n < k + 1)) = l.filter (fun b => decide (b.n < k))) ∧ (∀ b, beatB l k = some b → l.filter (fun b => decide (b.n < k + 1)) = l.filter (fun b => decide (b.n < k)) ++ [b]) := by
  refine ⟨fun hb => List.filter_congr fun b hm => ?_, fun b hb => ?_⟩
  · have := beat_none hb b hm
    by_cases q : b.n < k
    · rw [decide_eq_true q, decide_eq_true (by omega)]
    · rw [decide_eq_false q, decide_eq_false (by omega)]
  · obtain ⟨b1, b2⟩ := beat_some hb
    refine list_ext (R := fun a b : Bt => a.n < b.n) (fun x y h1 h2 => by omega) (List.Pairwise.filter _ h) ?_ fun x => ?_
    · refine List.pairwise_append.2 ⟨List.Pairwise.filter _ h, by simp, fun x hx y hy => ?_⟩
      rw [List.mem_singleton] at hy
      subst hy
      have := of_decide_eq_true (List.mem_filter.1 hx).2
      omega
    · rw [List.mem_append, List.mem_filter, List.mem_filter, List.mem_singleton]
      constructor
      · rintro ⟨x1, x2⟩
        have x3 := of_decide_eq_true x2
        by_cases q : x.n < k
        · exact .inl ⟨x1, decide_eq_true q⟩
        · exact .inr (ubt_mem h.uniq x1 b1 (by omega))
      · rintro (⟨x1, x2⟩ | rfl)
        · have x3 := of_decide_eq_true x2
          exact ⟨x1, decide_eq_true (by omega)⟩
        · exact ⟨b1, decide_eq_true (by omega)⟩
end Go.Proofs.Ytdlkpkigpnlanaa
