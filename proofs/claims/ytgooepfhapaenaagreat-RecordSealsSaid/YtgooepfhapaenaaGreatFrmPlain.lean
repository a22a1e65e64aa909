/- Plain facts on frames: no Go in sight. Conditions: none. -/
import Derived.Test.YtgooepfhapaenaaGreatOctPlain
import Derived.Test.YtgooepfhapaenaaGreatCrcPlain
namespace Go.Proofs.YtgooepfhapaenaaGreat
open Go.RowKit
set_option linter.unusedVariables false
set_option linter.unusedSimpArgs false

/-- The length and the body. -/
def lenL (body : List UInt8) : List UInt8 := fixL body.length 2 ++ body
/-- The frame of a body. -/
def sealL (body : List UInt8) : List UInt8 := fixL 82 1 ++ (lenL body ++ fixL (more 0 (lenL body)) 4)
theorem lenL_length (b : List UInt8) : (lenL b).length = b.length + 2 := by simp [lenL, fixL_length]; omega
theorem sealL_length (b : List UInt8) : (sealL b).length = b.length + 7 := by simp [sealL, lenL_length, fixL_length]; omega
/-- The length that is told. -/
def told (s : List UInt8) : Nat := bigV ((s.drop 1).take 2) 0
/-- The error of what a frame is taken from. -/
def openE (s : List UInt8) : Nat :=
  if s.length < 1 then 3 else if bigV (s.take 1) 0 ≠ 82 then 2 else if s.length < 3 then 3 else if 200 < told s then 9 else if s.length < told s + 7 then 3
  else if (s.drop (told s + 3)).take 4 ≠ fixL (more 0 ((s.drop 1).take (told s + 2))) 4 then 4 else 0
def openB (s : List UInt8) : List UInt8 := if openE s = 0 then (s.drop 3).take (told s) else []
def openN (s : List UInt8) : Nat := if openE s = 0 then told s + 7 else 0
theorem openE_ok {s : List UInt8} (h : openE s = 0) : told s ≤ 200 ∧ told s + 7 ≤ s.length := by
  unfold openE at h
  repeat' split at h
  all_goals first | (simp at h; done) | omega
theorem openN_le {s : List UInt8} (h : openE s = 0) : 7 ≤ openN s ∧ openN s ≤ s.length := by
  have := openE_ok h
  unfold openN; rw [if_pos h]; omega
theorem openE_lt (s : List UInt8) : openE s ≤ 9 := by
  unfold openE; repeat' split
  all_goals omega
/-- The bodies of all frames, and how many bytes they have. -/
def bodies (s : List UInt8) : List (List UInt8) := if h : openE s = 0 then openB s :: bodies (s.drop (openN s)) else []
termination_by s.length
decreasing_by have := openN_le h; simp; omega
def used (s : List UInt8) : Nat := if h : openE s = 0 then openN s + used (s.drop (openN s)) else 0
termination_by s.length
decreasing_by have := openN_le h; simp; omega
theorem bodies_ok {s : List UInt8} (h : openE s = 0) : bodies s = openB s :: bodies (s.drop (openN s)) := by rw [bodies, dif_pos h]
theorem bodies_end {s : List UInt8} (h : openE s ≠ 0) : bodies s = [] := by rw [bodies, dif_neg h]
theorem used_ok {s : List UInt8} (h : openE s = 0) : used s = openN s + used (s.drop (openN s)) := by rw [used, dif_pos h]
theorem used_end {s : List UInt8} (h : openE s ≠ 0) : used s = 0 := by rw [used, dif_neg h]
theorem openE_nil : openE [] = 3 := rfl

/-- Numbers come back from their bytes. -/
theorem bigV_back (n k : Nat) (h : n < 256 ^ k) : bigV (fixL n k) 0 = n := by rw [bigV_fixL, Nat.mod_eq_of_lt h]; omega
theorem fixL_bigV (l : List UInt8) (a : Nat) : fixL (bigV l a) l.length = l := by
  induction l generalizing a with
  | nil => rfl
  | cons b l ih =>
    simp only [bigV, List.length_cons, fixL]
    rw [ih]
    congr 1
    have h : ∀ (l : List UInt8) (a : Nat), bigV l a / 256 ^ l.length = a := by
      intro l
      induction l with
      | nil => intro a; simp [bigV]
      | cons b l ih =>
        intro a
        simp only [bigV, List.length_cons, Nat.pow_succ]
        rw [← Nat.div_div_eq_div_mul, ih]
        have := b.toNat_lt
        omega
    rw [h, ← UInt8.toNat_inj]
    simp
theorem fixL_of {l : List UInt8} {n k : Nat} (hl : l.length = k) (h : bigV l 0 = n) : fixL n k = l := by subst h; subst hl; exact fixL_bigV l 0

/-- A frame, and whatever follows. -/
theorem told_seal (b r : List UInt8) (h : b.length ≤ 200) : told (sealL b ++ r) = b.length := by
  have e : ((sealL b ++ r).drop 1).take 2 = fixL b.length 2 := by
    simp [sealL, lenL, fixL]
  unfold told; rw [e, bigV_back _ _ (by omega)]
theorem open_seal (b r : List UInt8) (h : b.length ≤ 200) : openE (sealL b ++ r) = 0 := by
  have ht := told_seal b r h
  have hl : (sealL b ++ r).length = b.length + 7 + r.length := by rw [List.length_append, sealL_length]
  have h1 : (sealL b ++ r).take 1 = fixL 82 1 := by simp [sealL, fixL]
  have h2 : ((sealL b ++ r).drop 1).take (b.length + 2) = lenL b := by
    have : (sealL b ++ r).drop 1 = lenL b ++ (fixL (more 0 (lenL b)) 4 ++ r) := by simp [sealL, fixL]
    rw [this, ← lenL_length, List.take_left']
    rfl
  have h3 : ((sealL b ++ r).drop (b.length + 3)).take 4 = fixL (more 0 (lenL b)) 4 := by
    have : sealL b ++ r = (fixL 82 1 ++ lenL b) ++ (fixL (more 0 (lenL b)) 4 ++ r) := by simp [sealL]
    rw [this, List.drop_left' (by simp [lenL_length, fixL_length]; omega), List.take_left' (by simp [fixL_length])]
  unfold openE
  rw [ht, h1, h2, h3, hl, bigV_back _ _ (by decide)]
  rw [if_neg (by omega), if_neg (by simp), if_neg (by omega), if_neg (by omega), if_neg (by omega), if_neg (by simp)]
theorem openB_seal (b r : List UInt8) (h : b.length ≤ 200) : openB (sealL b ++ r) = b := by
  unfold openB
  rw [if_pos (open_seal b r h), told_seal b r h]
  have : sealL b ++ r = (fixL 82 1 ++ fixL b.length 2) ++ (b ++ (fixL (more 0 (lenL b)) 4 ++ r)) := by simp [sealL, lenL]
  rw [this, List.drop_left' (by simp [fixL_length]), List.take_left' rfl]
theorem openN_seal (b r : List UInt8) (h : b.length ≤ 200) : openN (sealL b ++ r) = (sealL b).length := by
  unfold openN
  rw [if_pos (open_seal b r h), told_seal b r h, sealL_length]
theorem bodies_seal (b r : List UInt8) (h : b.length ≤ 200) : bodies (sealL b ++ r) = b :: bodies r := by
  rw [bodies_ok (open_seal b r h), openB_seal b r h, openN_seal b r h, List.drop_left' rfl]
theorem used_seal (b r : List UInt8) (h : b.length ≤ 200) : used (sealL b ++ r) = (sealL b).length + used r := by
  rw [used_ok (open_seal b r h), openN_seal b r h, List.drop_left' rfl]
/-- The document's own way: the sum is right where sealing anew gives the same. -/
theorem seal_iff (s : List UInt8) (h1 : 1 ≤ s.length) (h2 : bigV (s.take 1) 0 = 82) (h3 : told s ≤ 200) (h4 : told s + 7 ≤ s.length) :
    sealL ((s.drop 3).take (told s)) = s.take (told s + 7) ↔ openE s = 0 := by
  have hb : ((s.drop 3).take (told s)).length = told s := by simp; omega
  have e1 : fixL 82 1 = s.take 1 := fixL_of (by simp; omega) h2
  have e2 : fixL (told s) 2 = (s.drop 1).take 2 := fixL_of (by simp; omega) rfl
  have e3 : lenL ((s.drop 3).take (told s)) = (s.drop 1).take (told s + 2) := by
    unfold lenL; rw [hb, e2, show told s + 2 = 2 + told s by omega, List.take_add, List.drop_drop]
  have e4 : s.take (told s + 7) = s.take 1 ++ ((s.drop 1).take (told s + 2) ++ (s.drop (told s + 3)).take 4) := by
    rw [show told s + 7 = 1 + ((told s + 2) + 4) by omega, List.take_add, List.take_add, List.drop_drop, show 1 + (told s + 2) = told s + 3 by omega]
  have e5 : openE s = if (s.drop (told s + 3)).take 4 ≠ fixL (more 0 ((s.drop 1).take (told s + 2))) 4 then 4 else 0 := by
    unfold openE
    rw [if_neg (by omega), if_neg (by simp [h2]), if_neg (by omega), if_neg (by omega), if_neg (by omega)]
  rw [e5, e4]
  unfold sealL
  rw [e1, e3, List.append_cancel_left_eq, List.append_cancel_left_eq]
  constructor
  · intro e; rw [if_neg (fun h => h e.symm)]
  · intro e
    by_cases hh : (s.drop (told s + 3)).take 4 = fixL (more 0 ((s.drop 1).take (told s + 2))) 4
    · exact hh.symm
    · rw [if_pos hh] at e; cases e

/-- So many bytes have the first so many frames. -/
def endN (bs : List (List UInt8)) (i : Nat) : Nat := (((bs.take i).map sealL).flatten).length
def allL (bs : List (List UInt8)) : List UInt8 := (bs.map sealL).flatten
theorem endN_zero (bs : List (List UInt8)) : endN bs 0 = 0 := rfl
theorem endN_cons (b : List UInt8) (bs : List (List UInt8)) (i : Nat) : endN (b :: bs) (i + 1) = (sealL b).length + endN bs i := by simp [endN]
theorem allL_cons (b : List UInt8) (bs : List (List UInt8)) : allL (b :: bs) = sealL b ++ allL bs := by simp [allL]
theorem endN_all (bs : List (List UInt8)) : endN bs bs.length = (allL bs).length := by simp [endN, allL]
theorem told_take (s : List UInt8) (c : Nat) (h : 3 ≤ c) : told (s.take c) = told s := by
  unfold told; rw [List.drop_take, List.take_take, Nat.min_eq_left (by omega)]
theorem open_cut (b r : List UInt8) (c : Nat) (hb : b.length ≤ 200) (h : c < (sealL b).length) : openE ((sealL b ++ r).take c) ≠ 0 := by
  intro e
  have h1 := openE_ok e
  have h2 : ((sealL b ++ r).take c).length ≤ c := by rw [List.length_take]; omega
  have h3 := told_take (sealL b ++ r) c (by omega)
  rw [h3, told_seal b r hb] at h1
  rw [sealL_length] at h
  omega
/-- Frames that are cut off. -/
theorem torn (bs : List (List UInt8)) : ∀ (c j : Nat), (∀ b ∈ bs, b.length ≤ 200) → j ≤ bs.length → endN bs j ≤ c → (j = bs.length ∨ c < endN bs (j + 1)) →
    bodies ((allL bs).take c) = bs.take j ∧ used ((allL bs).take c) = endN bs j := by
  induction bs with
  | nil =>
    intro c j _ hj _ _
    obtain rfl : j = 0 := by simpa using hj
    have e : (allL []).take c = [] := by simp [allL]
    rw [e]
    exact ⟨bodies_end (by rw [openE_nil]; omega), used_end (by rw [openE_nil]; omega)⟩
  | cons b bs ih =>
    intro c j hb hj h1 h2
    have hb0 := hb b (by simp)
    rw [allL_cons]
    cases j with
    | zero =>
      have hc : c < (sealL b).length := by
        rcases h2 with h2 | h2
        · simp at h2
        · rw [endN_cons, endN_zero] at h2; omega
      have := open_cut b (allL bs) c hb0 hc
      exact ⟨bodies_end this, used_end this⟩
    | succ j =>
      rw [endN_cons] at h1
      have e : (sealL b ++ allL bs).take c = sealL b ++ (allL bs).take (c - (sealL b).length) := by
        rw [List.take_append, List.take_of_length_le (by omega)]
      obtain ⟨i1, i2⟩ := ih (c - (sealL b).length) j (fun x hx => hb x (by simp [hx])) (by simpa using hj) (by omega) (by
        rcases h2 with h2 | h2
        · left; simpa using h2
        · right; rw [endN_cons] at h2; omega)
      rw [e, bodies_seal b _ hb0, used_seal b _ hb0, i1, i2, endN_cons]
      exact ⟨rfl, rfl⟩

/-- A byte that is turned turns the sum. -/
theorem xor_inj {a b c : Nat} (h : a ^^^ b = a ^^^ c) : b = c := by rw [← xor_self_cancel a b, h, xor_self_cancel]
theorem stp_inj {a b : Nat} (ha : a < 4294967296) (hb : b < 4294967296) (h : stp a = stp b) : a = b := by
  have e : stp (a ^^^ b) = 0 := by rw [stp_xor, h, Nat.xor_self]
  have z := stp_zero (Nat.xor_lt_two_pow (n := 32) (by omega) (by omega)) e
  exact xor_inj (a := a) (by rw [Nat.xor_self]; exact z.symm)
theorem reg_inj (l : List UInt8) : ∀ {r q : Nat}, r < 4294967296 → q < 4294967296 → reg r l = reg q l → r = q := by
  induction l with
  | nil => intro r q _ _ h; exact h
  | cons c l ih =>
    intro r q hr hq h
    rw [reg_cons, reg_cons] at h
    have := stp_inj (xor_byte_lt hr c) (xor_byte_lt hq c) (ih (stp_lt (xor_byte_lt hr c)) (stp_lt (xor_byte_lt hq c)) h)
    rw [Nat.xor_comm r, Nat.xor_comm q] at this
    exact xor_inj this
theorem more_byte (a c : List UInt8) (x y : UInt8) (h : more 0 (a ++ x :: c) = more 0 (a ++ y :: c)) : x = y := by
  have h := inv_inj h
  rw [reg_append, reg_append, reg_cons, reg_cons] at h
  have hR := reg_lt a (inv_lt (show 0 < 4294967296 by omega))
  have := stp_inj (xor_byte_lt hR x) (xor_byte_lt hR y) (reg_inj c (stp_lt (xor_byte_lt hR x)) (stp_lt (xor_byte_lt hR y)) h)
  rw [← UInt8.toNat_inj]
  exact xor_inj this
theorem set_parts (l : List UInt8) (k : Nat) (h : k < l.length) (y : UInt8) : l = l.take k ++ l[k] :: l.drop (k + 1) ∧ l.set k y = l.take k ++ y :: l.drop (k + 1) := by
  refine ⟨?_, by rw [List.set_eq_take_append_cons_drop, if_pos h]⟩
  have := List.take_append_drop k l
  rw [List.drop_eq_getElem_cons h] at this
  exact this.symm
theorem more_set (l : List UInt8) (k : Nat) (h : k < l.length) (y : UInt8) (hy : l[k] ≠ y) : more 0 (l.set k y) ≠ more 0 l := by
  intro e
  obtain ⟨h1, h2⟩ := set_parts l k h y
  rw [h2] at e
  conv at e => rhs; rw [h1]
  exact hy (more_byte _ _ _ _ e).symm
theorem fixL_inj {a b k : Nat} (ha : a < 256 ^ k) (hb : b < 256 ^ k) (h : fixL a k = fixL b k) : a = b := by
  rw [← bigV_back a k ha, h, bigV_back b k hb]
theorem set_ne {l : List UInt8} {k : Nat} (h : k < l.length) {y : UInt8} (hy : l[k] ≠ y) : l.set k y ≠ l := by
  intro e
  apply hy
  have : (l.set k y)[k]? = l[k]? := by rw [e]
  simp [h] at this
  exact this.symm
theorem open_turned (b r : List UInt8) (k : Nat) (hb : b.length ≤ 200) (hk : k < (sealL b).length) (h1 : k ≠ 1) (h2 : k ≠ 2) (y : UInt8) (hy : (sealL b)[k] ≠ y) :
    openE ((sealL b ++ r).set k y) ≠ 0 := by
  have hsl := sealL_length b
  have hset : (sealL b ++ r).set k y = (sealL b).set k y ++ r := by rw [List.set_append, if_pos hk]
  rw [hset]
  have hfl : ∀ n k, (fixL n k).length = k := fixL_length
  by_cases k0 : k = 0
  · subst k0
    have e0 : (sealL b)[0] = 82 := by simp [sealL, fixL]
    rw [e0] at hy
    have e : (((sealL b).set 0 y) ++ r).take 1 = [y] := by simp [sealL, fixL]
    have n : bigV [y] 0 ≠ 82 := by
      intro h; apply hy; rw [← UInt8.toNat_inj]; simp [bigV] at h; simpa using h.symm
    unfold openE
    rw [e]
    rw [if_neg (by rw [List.length_append, List.length_set]; omega), if_pos n]
    omega
  · have ht : told ((sealL b).set k y ++ r) = b.length := by
      rw [← told_seal b r hb]
      unfold told
      have q : (((sealL b).set k y ++ r).drop 1).take 2 = ((sealL b ++ r).drop 1).take 2 := by
        apply List.ext_getElem?
        intro i
        rw [List.getElem?_take, List.getElem?_take]
        split
        · rw [List.getElem?_drop, List.getElem?_drop, ← hset, List.getElem?_set_ne (by omega)]
        · rfl
      rw [q]
    intro e
    have hE : openE ((sealL b).set k y ++ r) = 0 := e
    unfold openE at e
    rw [ht] at e
    repeat' split at e
    all_goals first | (simp at e; done) | skip
    rename_i hsum
    have hsum := Classical.not_not.1 hsum
    have q1 : ((sealL b).set k y ++ r).drop 1 = (lenL b ++ fixL (more 0 (lenL b)) 4).set (k - 1) y ++ r := by
      have : sealL b = UInt8.ofNat (82 / 256 ^ 0) :: (lenL b ++ fixL (more 0 (lenL b)) 4) := rfl
      rw [this, show k = (k - 1) + 1 by omega, List.set_cons_succ]; rfl
    have q2 : ((sealL b).set k y ++ r).drop (b.length + 3) = ((lenL b ++ fixL (more 0 (lenL b)) 4).set (k - 1) y ++ r).drop (b.length + 2) := by
      rw [← q1, List.drop_drop]; congr 1; omega
    rw [q2, q1] at hsum
    have hm := more_lt (show 0 < 4294967296 by omega) (lenL b)
    by_cases k1 : k < b.length + 3
    · have q3 : (lenL b ++ fixL (more 0 (lenL b)) 4).set (k - 1) y = (lenL b).set (k - 1) y ++ fixL (more 0 (lenL b)) 4 := by
        rw [List.set_append, if_pos (by rw [lenL_length]; omega)]
      have q4 : ((lenL b).set (k - 1) y).length = b.length + 2 := by rw [List.length_set, lenL_length]
      rw [q3, List.append_assoc, List.drop_left' q4, List.take_left' q4, List.take_left' (fixL_length _ _)] at hsum
      have hm2 := more_lt (show 0 < 4294967296 by omega) ((lenL b).set (k - 1) y)
      have := fixL_inj (k := 4) (by omega) (by omega) hsum
      refine more_set (lenL b) (k - 1) (by rw [lenL_length]; omega) y ?_ this.symm
      intro h
      apply hy
      rw [← h]
      have : (sealL b)[k]? = (lenL b)[k - 1]? := by
        have : sealL b = UInt8.ofNat (82 / 256 ^ 0) :: (lenL b ++ fixL (more 0 (lenL b)) 4) := rfl
        rw [this]
        conv => lhs; rw [show k = (k - 1) + 1 by omega]
        rw [List.getElem?_cons_succ, List.getElem?_append_left (by rw [lenL_length]; omega)]
      rw [List.getElem?_eq_getElem hk, List.getElem?_eq_getElem (by rw [lenL_length]; omega)] at this
      exact Option.some.inj this
    · have q3 : (lenL b ++ fixL (more 0 (lenL b)) 4).set (k - 1) y = lenL b ++ (fixL (more 0 (lenL b)) 4).set (k - 3 - b.length) y := by
        rw [List.set_append, if_neg (by rw [lenL_length]; omega), lenL_length, show k - 1 - (b.length + 2) = k - 3 - b.length by omega]
      have q4 : ((fixL (more 0 (lenL b)) 4).set (k - 3 - b.length) y).length = 4 := by rw [List.length_set, fixL_length]
      rw [q3, List.append_assoc, List.drop_left' (lenL_length b), List.take_left' (lenL_length b), List.take_left' q4] at hsum
      refine set_ne (l := fixL (more 0 (lenL b)) 4) (by rw [fixL_length]; omega) ?_ hsum
      intro h
      apply hy
      rw [← h]
      have : (sealL b)[k]? = (fixL (more 0 (lenL b)) 4)[k - 3 - b.length]? := by
        have : sealL b = (fixL 82 1 ++ lenL b) ++ fixL (more 0 (lenL b)) 4 := by simp [sealL]
        rw [this, List.getElem?_append_right (by simp [lenL_length, fixL_length]; omega)]
        congr 1
        simp [lenL_length, fixL_length]; omega
      rw [List.getElem?_eq_getElem hk, List.getElem?_eq_getElem (by rw [fixL_length]; omega)] at this
      exact Option.some.inj this
/-- Frames that are spoilt in a byte that is none of a length. -/
theorem spoilt (bs : List (List UInt8)) : ∀ (k j : Nat), (∀ b ∈ bs, b.length ≤ 200) → j < bs.length → endN bs j ≤ k → k < endN bs (j + 1) → k - endN bs j ≠ 1 → k - endN bs j ≠ 2 → ∀ (hk : k < (allL bs).length) (y : UInt8), (allL bs)[k] ≠ y →
    bodies ((allL bs).set k y) = bs.take j := by
  induction bs with
  | nil => intro k j _ hj; simp at hj
  | cons b bs ih =>
    intro k j hb hj h1 h2 h3 h4 hk y hy
    have hb0 := hb b (by simp)
    have ea := allL_cons b bs
    cases j with
    | zero =>
      rw [endN_cons, endN_zero] at h2
      rw [endN_zero] at h3 h4
      have hk2 : k < (sealL b).length := by omega
      have : openE ((allL (b :: bs)).set k y) ≠ 0 := by
        rw [ea]
        refine open_turned b (allL bs) k hb0 hk2 (by omega) (by omega) y ?_
        intro h; apply hy
        rw [← h]
        have q : (allL (b :: bs))[k]? = (sealL b)[k]? := by rw [ea, List.getElem?_append_left hk2]
        rw [List.getElem?_eq_getElem hk, List.getElem?_eq_getElem hk2] at q
        exact Option.some.inj q
      exact bodies_end this
    | succ j =>
      rw [endN_cons] at h1 h2 h3 h4
      have hle : (sealL b).length ≤ k := by omega
      have hk2 : k - (sealL b).length < (allL bs).length := by rw [ea, List.length_append] at hk; omega
      have e : (allL (b :: bs)).set k y = sealL b ++ (allL bs).set (k - (sealL b).length) y := by rw [ea, List.set_append, if_neg (by omega)]
      rw [e, bodies_seal b _ hb0, ih (k - (sealL b).length) j (fun x hx => hb x (by simp [hx])) (by simpa using hj) (by omega) (by omega) (by omega) (by omega) hk2 y ?_]
      · rfl
      · intro h; apply hy
        rw [← h]
        have q : (allL (b :: bs))[k]? = (allL bs)[k - (sealL b).length]? := by rw [ea, List.getElem?_append_right hle]
        rw [List.getElem?_eq_getElem hk, List.getElem?_eq_getElem hk2] at q
        exact Option.some.inj q
end Go.Proofs.YtgooepfhapaenaaGreat
