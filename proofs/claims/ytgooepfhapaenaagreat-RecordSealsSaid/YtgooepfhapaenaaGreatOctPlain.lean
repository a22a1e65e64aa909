/- Plain facts on the bytes of numbers: no Go in sight. Conditions: none. -/
import Derived.Test.YtgooepfhapaenaaGreatKit
namespace Go.Proofs.YtgooepfhapaenaaGreat
open Go.RowKit

/-- So many lowest bytes of a number, the highest one first. -/
def fixL (n : Nat) : Nat → List UInt8
  | 0 => []
  | k + 1 => UInt8.ofNat (n / 256 ^ k) :: fixL n k
theorem fixL_length (n k : Nat) : (fixL n k).length = k := by
  induction k with
  | zero => rfl
  | succ k ih => simp [fixL, ih]
/-- Seven bits in each byte, the lowest group first. -/
def varL (n : Nat) : List UInt8 := if n < 128 then [UInt8.ofNat n] else UInt8.ofNat (n % 128 + 128) :: varL (n / 128)
theorem varL_lt {n : Nat} (h : n < 128) : varL n = [UInt8.ofNat n] := by rw [varL, if_pos h]
theorem varL_ge {n : Nat} (h : ¬ n < 128) : varL n = UInt8.ofNat (n % 128 + 128) :: varL (n / 128) := by rw [varL, if_neg h]

/-- The number of a text of groups. -/
def val : List UInt8 → Nat
  | [] => 0
  | b :: l => b.toNat % 128 + 128 * val l
/-- How many bytes with the bit 128 come first. -/
def leadN : List UInt8 → Nat
  | [] => 0
  | b :: l => if 128 ≤ b.toNat then leadN l + 1 else 0
theorem leadN_le (l : List UInt8) : leadN l ≤ l.length := by
  induction l with
  | nil => simp [leadN]
  | cons b l ih => simp only [leadN, List.length_cons]; split <;> omega
theorem leadN_ge (l : List UInt8) : ∀ k (h : k < l.length), k < leadN l → 128 ≤ (l[k]).toNat := by
  induction l with
  | nil => intro k h; simp at h
  | cons b l ih =>
    intro k h hk
    simp only [leadN] at hk
    split at hk
    · cases k with
      | zero => simpa using ‹128 ≤ b.toNat›
      | succ k => simpa using ih k (by simpa using h) (by omega)
    · omega
theorem leadN_at (l : List UInt8) (h : leadN l < l.length) : (l[leadN l]).toNat < 128 := by
  induction l with
  | nil => simp at h
  | cons b l ih =>
    by_cases hb : 128 ≤ b.toNat
    · have e : leadN (b :: l) = leadN l + 1 := by simp [leadN, hb]
      simp only [e] at h ⊢
      simpa using ih (by simpa using h)
    · have e : leadN (b :: l) = 0 := by simp [leadN, hb]
      simp only [e]
      simp; omega

/-- Groups of one number: just the last one is less than 128. -/
def form : List UInt8 → Prop
  | [] => False
  | [b] => b.toNat < 128
  | b :: c :: l => 128 ≤ b.toNat ∧ form (c :: l)
theorem form_varL (n : Nat) : form (varL n) := by
  induction n using Nat.strongRecOn with
  | ind n ih =>
    by_cases h : n < 128
    · rw [varL_lt h]; simp [form]; omega
    · rw [varL_ge h]
      have h2 := ih (n / 128) (by omega)
      generalize varL (n / 128) = l at h2
      cases l with
      | nil => exact absurd h2 (by simp [form])
      | cons c l => exact ⟨by simp; omega, h2⟩
theorem val_varL (n : Nat) : val (varL n) = n := by
  induction n using Nat.strongRecOn with
  | ind n ih =>
    by_cases h : n < 128
    · rw [varL_lt h]; simp [val]; omega
    · rw [varL_ge h]; simp [val, ih (n / 128) (by omega)]; omega
theorem varL_ne (n : Nat) : varL n ≠ [] := by
  by_cases h : n < 128
  · rw [varL_lt h]; simp
  · rw [varL_ge h]; simp
/-- The last group is 0 only where it is the only one. -/
def tight (l : List UInt8) : Prop := l.length = 1 ∨ l.getLast? ≠ some 0
theorem val_pos (l : List UInt8) (h : form l) (h2 : l.getLast? ≠ some 0) : 0 < val l := by
  induction l with
  | nil => exact absurd h (by simp [form])
  | cons b l ih =>
    cases l with
    | nil =>
      simp [form] at h
      simp at h2
      have : b.toNat ≠ 0 := fun e => h2 (by rw [← UInt8.toNat_inj]; simpa using e)
      simp [val]; omega
    | cons c l =>
      have := ih h.2 (by simpa using h2)
      simp [val] at this ⊢; omega
theorem tight_varL (n : Nat) : tight (varL n) := by
  induction n using Nat.strongRecOn with
  | ind n ih =>
    by_cases h : n < 128
    · rw [varL_lt h]; left; rfl
    · rw [varL_ge h]; right
      rw [List.getLast?_cons]
      have h2 := ih (n / 128) (by omega)
      have h3 := varL_ne (n / 128)
      by_cases h4 : n / 128 < 128
      · rw [varL_lt h4]; simp
        intro e
        have := congrArg UInt8.toNat e
        simp at this; omega
      · rcases h2 with h2 | h2
        · rw [varL_ge h4] at h2
          simp at h2; exact absurd h2 (varL_ne _)
        · intro e
          apply h2
          have hx := List.getLast?_eq_some_getLast h3
          rw [hx] at e ⊢; simpa using e
theorem varL_val (l : List UInt8) (h : form l) (t : tight l) : varL (val l) = l := by
  induction l with
  | nil => exact absurd h (by simp [form])
  | cons b l ih =>
    cases l with
    | nil =>
      simp [form] at h
      have e : val [b] = b.toNat := by simp [val]; omega
      rw [e, varL_lt h]; simp
    | cons c l =>
      have hl : (c :: l).getLast? ≠ some 0 := by
        rcases t with t | t
        · simp at t
        · simpa using t
      have hp := val_pos _ h.2 hl
      have e := ih h.2 (Or.inr hl)
      have hb : 128 ≤ b.toNat := h.1
      have hb2 := b.toNat_lt
      have e1 : val (b :: c :: l) = b.toNat % 128 + 128 * val (c :: l) := rfl
      rw [varL_ge (by omega), e1]
      have e2 : (b.toNat % 128 + 128 * val (c :: l)) / 128 = val (c :: l) := by omega
      have e3 : (b.toNat % 128 + 128 * val (c :: l)) % 128 + 128 = b.toNat := by omega
      rw [e2, e3, e]; simp
theorem form_take (l : List UInt8) (h : leadN l < l.length) : form (l.take (leadN l + 1)) := by
  induction l with
  | nil => simp at h
  | cons b l ih =>
    by_cases hb : 128 ≤ b.toNat
    · have e : leadN (b :: l) = leadN l + 1 := by simp [leadN, hb]
      rw [e] at h ⊢
      have h' : leadN l < l.length := by simpa using h
      have := ih h'
      rw [List.take_succ_cons]
      cases l with
      | nil => simp at h'
      | cons c l => rw [List.take_succ_cons] at this ⊢; exact ⟨hb, this⟩
    · have e : leadN (b :: l) = 0 := by simp [leadN, hb]
      rw [e]; simp [form]; omega
/-- What the bytes of a number are followed by plays no part. -/
theorem leadN_form (l r : List UInt8) (h : form l) : leadN (l ++ r) + 1 = l.length := by
  induction l with
  | nil => exact absurd h (by simp [form])
  | cons b l ih =>
    cases l with
    | nil => simp [form] at h; simp [leadN]; omega
    | cons c l =>
      have := ih h.2
      have hb : 128 ≤ b.toNat := h.1
      simp only [List.cons_append, leadN, if_pos hb, List.length_cons] at this ⊢
      omega
theorem varL_len (n k : Nat) (h : n < 128 ^ k) (hk : 0 < k) : (varL n).length ≤ k := by
  induction k generalizing n with
  | zero => omega
  | succ k ih =>
    by_cases h1 : n < 128
    · rw [varL_lt h1]; simp
    · rw [varL_ge h1]
      have hk : 0 < k := by
        rcases Nat.eq_zero_or_pos k with rfl | h2
        · simp at h; omega
        · exact h2
      have := ih (n / 128) (by rw [Nat.pow_succ] at h; omega) hk
      simp; omega
theorem val_lt (l : List UInt8) : val l < 128 ^ l.length := by
  induction l with
  | nil => simp [val]
  | cons b l ih => simp only [val, List.length_cons, Nat.pow_succ]; omega

/-- The error, the number, and how many bytes, of what a number is taken from. -/
def tvE (l : List UInt8) : Nat := if l.length ≤ leadN l then 3 else if 9 ≤ leadN l ∨ (0 < leadN l ∧ l[leadN l]? = some 0) then 2 else 0
def tvV (l : List UInt8) : Nat := if tvE l = 0 then val (l.take (leadN l + 1)) else 0
def tvM (l : List UInt8) : Nat := if tvE l = 0 then leadN l + 1 else 0
theorem tvE_short {l : List UInt8} (h : l.length ≤ leadN l) : tvE l = 3 := by rw [tvE, if_pos h]
theorem tvE_form {l : List UInt8} (h : leadN l < l.length) (h2 : 9 ≤ leadN l ∨ (0 < leadN l ∧ l[leadN l]? = some 0)) : tvE l = 2 := by rw [tvE, if_neg (by omega), if_pos h2]
theorem tvE_ok {l : List UInt8} (h : leadN l < l.length) (h2 : ¬ (9 ≤ leadN l ∨ (0 < leadN l ∧ l[leadN l]? = some 0))) : tvE l = 0 := by rw [tvE, if_neg (by omega), if_neg h2]
theorem tvM_le (l : List UInt8) : tvM l ≤ l.length := by
  unfold tvM; split
  · rename_i h
    rcases Nat.lt_or_ge (leadN l) l.length with h1 | h1
    · omega
    · rw [tvE_short h1] at h; simp at h
  · omega
theorem tvV_lt (l : List UInt8) : tvV l < 9223372036854775808 := by
  unfold tvV; split
  · rename_i h
    have h1 : leadN l < 9 := by
      rcases Nat.lt_or_ge (leadN l) 9 with h1 | h1
      · exact h1
      · exfalso
        rcases Nat.lt_or_ge (leadN l) l.length with h2 | h2
        · rw [tvE_form h2 (Or.inl h1)] at h; simp at h
        · rw [tvE_short h2] at h; simp at h
    have h2 := val_lt (l.take (leadN l + 1))
    have h3 : 128 ^ (l.take (leadN l + 1)).length ≤ 128 ^ 9 := Nat.pow_le_pow_right (by omega) (by simp; omega)
    have h4 : 128 ^ 9 = 9223372036854775808 := by decide
    omega
  · omega
/-- The document's own test of the form. -/
theorem varL_iff (l : List UInt8) (h : leadN l < l.length) (h9 : leadN l < 9) : varL (val (l.take (leadN l + 1))) = l.take (leadN l + 1) ↔ ¬ (0 < leadN l ∧ l[leadN l]? = some 0) := by
  have hlen : (l.take (leadN l + 1)).length = leadN l + 1 := by simp; omega
  have hlast : (l.take (leadN l + 1)).getLast? = l[leadN l]? := by
    rw [List.getLast?_eq_getElem?, hlen]; simp
  constructor
  · intro e h0
    have t := tight_varL (val (l.take (leadN l + 1)))
    rw [e] at t
    rcases t with t | t
    · omega
    · rw [hlast] at t; exact t h0.2
  · intro h0
    apply varL_val _ (form_take l h)
    by_cases hz : leadN l = 0
    · left; omega
    · right; rw [hlast]; intro e; exact h0 ⟨by omega, e⟩
theorem tvE_varL (n : Nat) (r : List UInt8) (hn : n < 9223372036854775808) : tvE (varL n ++ r) = 0 := by
  have h := leadN_form (varL n) r (form_varL n)
  have h9 := varL_len n 9 (by have : 128 ^ 9 = 9223372036854775808 := by decide
                              omega) (by omega)
  have hlt : leadN (varL n ++ r) < (varL n ++ r).length := by simp; omega
  have ht : (varL n ++ r).take (leadN (varL n ++ r) + 1) = varL n := by rw [h]; simp
  refine tvE_ok hlt ?_
  rintro (h1 | h1)
  · omega
  · exact (varL_iff _ hlt (by omega)).1 (by rw [ht, val_varL]) h1
theorem tvV_varL (n : Nat) (r : List UInt8) (hn : n < 9223372036854775808) : tvV (varL n ++ r) = n := by
  rw [tvV, if_pos (tvE_varL n r hn), leadN_form (varL n) r (form_varL n)]; simp [val_varL]
theorem tvM_varL (n : Nat) (r : List UInt8) (hn : n < 9223372036854775808) : tvM (varL n ++ r) = (varL n).length := by
  rw [tvM, if_pos (tvE_varL n r hn), leadN_form (varL n) r (form_varL n)]

/-- The number of so many bytes, the highest one first. -/
def bigV : List UInt8 → Nat → Nat
  | [], a => a
  | b :: l, a => bigV l (a * 256 + b.toNat)
theorem bigV_fixL (n k a : Nat) : bigV (fixL n k) a = a * 256 ^ k + n % 256 ^ k := by
  induction k generalizing a with
  | zero => simp [fixL, bigV, Nat.mod_one]
  | succ k ih =>
    simp only [fixL, bigV, ih]
    have h1 : (UInt8.ofNat (n / 256 ^ k)).toNat = n / 256 ^ k % 256 := by simp
    rw [h1, Nat.pow_succ, Nat.mod_mul]
    rw [Nat.add_mul, Nat.mul_assoc, Nat.mul_comm 256 (256 ^ k), Nat.mul_comm (n / 256 ^ k % 256)]
    omega
theorem bigV_append (l r : List UInt8) (a : Nat) : bigV (l ++ r) a = bigV r (bigV l a) := by
  induction l generalizing a with
  | nil => rfl
  | cons b l ih => simp [bigV, ih]
theorem bigV_lt (l : List UInt8) (a : Nat) : bigV l a < (a + 1) * 256 ^ l.length := by
  induction l generalizing a with
  | nil => simp [bigV]
  | cons b l ih =>
    simp only [bigV, List.length_cons, Nat.pow_succ]
    have h := ih (a * 256 + b.toNat)
    have hb := b.toNat_lt
    have h2 : (a * 256 + b.toNat + 1) * 256 ^ l.length ≤ ((a + 1) * 256) * 256 ^ l.length := Nat.mul_le_mul_right _ (by omega)
    rw [Nat.mul_assoc, Nat.mul_comm 256] at h2
    omega
end Go.Proofs.YtgooepfhapaenaaGreat
