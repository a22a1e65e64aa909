/- Plain facts on registers of 32 bits that are halved: no Go in sight. Conditions: numbers below 2^32. -/
import Derived.Test.YtgooepfhapaenaaGreatKit
import Derived.Laws.BitsAllLaws
namespace Go.Proofs.YtgooepfhapaenaaGreat
open Go.RowKit

/-- One halving. -/
def half (r : Nat) : Nat := if r % 2 = 1 then r / 2 ^^^ 3988292384 else r / 2
def halves : Nat → Nat → Nat
  | 0, r => r
  | k + 1, r => halves k (half r)
theorem half_lt {r : Nat} (h : r < 4294967296) : half r < 4294967296 := by
  unfold half
  split
  · exact Nat.xor_lt_two_pow (n := 32) (by omega) (by omega)
  · omega
theorem halves_lt (k : Nat) : ∀ {r : Nat}, r < 4294967296 → halves k r < 4294967296 := by
  induction k with
  | zero => intro r h; exact h
  | succ k ih => intro r h; exact ih (half_lt h)
theorem halves_succ (k : Nat) : ∀ r, halves (k + 1) r = half (halves k r) := by
  induction k with
  | zero => intro r; rfl
  | succ k ih => intro r; rw [halves, ih, halves]
theorem xor_left4 (a b c d : Nat) : (a ^^^ b) ^^^ (c ^^^ d) = (a ^^^ c) ^^^ (b ^^^ d) := by
  apply Nat.eq_of_testBit_eq; intro i; simp only [Nat.testBit_xor]
  cases a.testBit i <;> cases b.testBit i <;> cases c.testBit i <;> cases d.testBit i <;> rfl
theorem xor_div2 (a b : Nat) : (a ^^^ b) / 2 = a / 2 ^^^ b / 2 := by
  apply Nat.eq_of_testBit_eq; intro i; simp only [Nat.testBit_xor, Nat.testBit_div_two]
theorem xor_div (a b k : Nat) : (a ^^^ b) / 2 ^ k = a / 2 ^ k ^^^ b / 2 ^ k := by
  apply Nat.eq_of_testBit_eq; intro i; simp only [Nat.testBit_xor, Nat.testBit_div_two_pow]
theorem xor_mod (a b k : Nat) : (a ^^^ b) % 2 ^ k = a % 2 ^ k ^^^ b % 2 ^ k := by
  apply Nat.eq_of_testBit_eq; intro i; simp only [Nat.testBit_xor, Nat.testBit_mod_two_pow]
  cases decide (i < k) <;> simp
theorem half_xor (a b : Nat) : half (a ^^^ b) = half a ^^^ half b := by
  have hm : (a ^^^ b) % 2 = (a + b) % 2 := by
    have h := xor_mod a b 1
    simp only [Nat.pow_one] at h
    rw [h]
    rcases Nat.mod_two_eq_zero_or_one a with h1 | h1 <;> rcases Nat.mod_two_eq_zero_or_one b with h2 | h2 <;> rw [h1, h2] <;> simp <;> omega
  unfold half
  rw [xor_div2]
  by_cases ha : a % 2 = 1 <;> by_cases hb : b % 2 = 1
  · rw [if_neg (by omega), if_pos ha, if_pos hb, xor_left4, Nat.xor_self, Nat.xor_zero]
  · rw [if_pos (by omega), if_pos ha, if_neg hb, Nat.xor_assoc, Nat.xor_assoc, Nat.xor_comm (b / 2)]
  · rw [if_pos (by omega), if_neg ha, if_pos hb, Nat.xor_assoc]
  · rw [if_neg (by omega), if_neg ha, if_neg hb]
theorem halves_xor (k : Nat) : ∀ a b, halves k (a ^^^ b) = halves k a ^^^ halves k b := by
  induction k with
  | zero => intro a b; rfl
  | succ k ih => intro a b; rw [halves, half_xor, ih]; rfl
theorem half_zero {d : Nat} (h : d < 4294967296) (e : half d = 0) : d = 0 := by
  unfold half at e
  split at e
  · have h2 : d / 2 = 3988292384 := by
      have := congrArg (· ^^^ 3988292384) e
      simpa [Nat.xor_assoc] using this
    omega
  · omega
theorem halves_zero (k : Nat) : ∀ {d : Nat}, d < 4294967296 → halves k d = 0 → d = 0 := by
  induction k with
  | zero => intro d h e; exact e
  | succ k ih => intro d h e; exact half_zero h (ih (half_lt h) e)
theorem half_even (y : Nat) : half (2 * y) = y := by unfold half; rw [if_neg (by omega)]; omega
/-- Eight halvings. -/
def stp (r : Nat) : Nat := halves 8 r
theorem stp_lt {r : Nat} (h : r < 4294967296) : stp r < 4294967296 := halves_lt 8 h
theorem stp_xor (a b : Nat) : stp (a ^^^ b) = stp a ^^^ stp b := halves_xor 8 a b
theorem stp_zero {d : Nat} (h : d < 4294967296) (e : stp d = 0) : d = 0 := halves_zero 8 h e
theorem stp_up (y : Nat) : stp (256 * y) = y := by
  unfold stp
  rw [show 256 * y = 2 * (2 * (2 * (2 * (2 * (2 * (2 * (2 * y))))))) by omega]
  simp only [halves, half_even]
/-- A number is its upper and its lowest byte. -/
theorem up_low (v : Nat) : v ^^^ v % 256 = 256 * (v / 256) := by
  apply Nat.eq_of_testBit_eq; intro i
  have e : 256 * (v / 256) = 2 ^ 8 * (v / 2 ^ 8) := rfl
  rw [e, show v % 256 = v % 2 ^ 8 from rfl]
  simp only [Nat.testBit_xor, Nat.testBit_mod_two_pow, Nat.testBit_two_pow_mul, Nat.testBit_div_two_pow]
  by_cases h : i < 8
  · have h8 : ¬ 8 ≤ i := by omega
    simp [h, h8]
  · have h8 : 8 ≤ i := by omega
    simp [h, h8]
theorem xor_self_cancel (a b : Nat) : a ^^^ (a ^^^ b) = b := by rw [← Nat.xor_assoc, Nat.xor_self, Nat.zero_xor]
/-- By a table: the upper bytes move down, the lowest one is looked up. -/
theorem stp_table (r c : Nat) (hc : c < 256) : r / 256 ^^^ stp (r % 256 ^^^ c) = stp (r ^^^ c) := by
  have e1 : (r ^^^ c) % 256 = r % 256 ^^^ c := by
    have := xor_mod r c 8
    rw [show c % 2 ^ 8 = c from Nat.mod_eq_of_lt hc] at this
    exact this
  have e2 : (r ^^^ c) / 256 = r / 256 := by
    have := xor_div r c 8
    rw [show c / 2 ^ 8 = 0 from Nat.div_eq_of_lt hc, Nat.xor_zero] at this
    exact this
  have e3 : r ^^^ c = 256 * (r / 256) ^^^ (r % 256 ^^^ c) := by
    rw [← e1, ← e2, ← up_low, Nat.xor_assoc, Nat.xor_self, Nat.xor_zero]
  rw [e3, stp_xor (256 * (r / 256)), stp_up]
/-- The register behind a text. -/
def reg (r : Nat) : List UInt8 → Nat
  | [] => r
  | c :: l => reg (stp (r ^^^ c.toNat)) l
theorem reg_nil (r : Nat) : reg r [] = r := rfl
theorem reg_cons (r : Nat) (c : UInt8) (l : List UInt8) : reg r (c :: l) = reg (stp (r ^^^ c.toNat)) l := rfl
theorem xor_byte_lt {r : Nat} (h : r < 4294967296) (c : UInt8) : r ^^^ c.toNat < 4294967296 :=
  Nat.xor_lt_two_pow (n := 32) (by omega) (by have := c.toNat_lt; omega)
theorem reg_lt (l : List UInt8) : ∀ {r : Nat}, r < 4294967296 → reg r l < 4294967296 := by
  induction l with
  | nil => intro r h; exact h
  | cons c l ih => intro r h; exact ih (stp_lt (xor_byte_lt h c))
theorem reg_append (a b : List UInt8) : ∀ r, reg r (a ++ b) = reg (reg r a) b := by
  induction a with
  | nil => intro r; rfl
  | cons c a ih => intro r; exact ih _
theorem reg_take (l : List UInt8) (r k : Nat) (h : k < l.length) : reg r (l.take (k + 1)) = stp (reg r (l.take k) ^^^ (l[k]).toNat) := by
  rw [List.take_succ_eq_append_getElem h, reg_append]; rfl
/-- Two texts of one length: what their registers differ by is the register of what they differ by. -/
theorem reg_diff (l : List UInt8) : ∀ (d : List UInt8) (r e : Nat), d.length = l.length → reg (r ^^^ e) (l.zipWith (· ^^^ ·) d) = reg r l ^^^ reg e d := by
  induction l with
  | nil => intro d r e h; simp at h; subst h; rfl
  | cons c l ih =>
    intro d r e h
    cases d with
    | nil => simp at h
    | cons t d =>
      rw [List.zipWith_cons_cons, reg_cons, reg_cons, reg_cons, UInt8.toNat_xor, xor_left4, stp_xor]
      exact ih d _ _ (by simpa using h)
theorem reg_zeros (m : Nat) : ∀ d : Nat, d < 4294967296 → reg d (List.replicate m 0) = 0 → d = 0 := by
  induction m with
  | zero => intro d h e; exact e
  | succ m ih =>
    intro d h e
    rw [List.replicate_succ, reg_cons, UInt8.toNat_zero, Nat.xor_zero] at e
    exact stp_zero h (ih _ (stp_lt h) e)
theorem reg_nought (m : Nat) : reg 0 (List.replicate m 0) = 0 := by
  induction m with
  | zero => rfl
  | succ m ih => rw [List.replicate_succ, reg_cons]; exact ih
theorem turn_gen (f : Nat → Nat) (hx : ∀ a b, f (a ^^^ b) = f a ^^^ f b) (hu : ∀ y, f (256 * y) = y) (u : Nat) (h : u / 256 / 256 / 256 / 256 = 0) :
    f (f (f (f (0 ^^^ u % 256) ^^^ u / 256 % 256) ^^^ u / 256 / 256 % 256) ^^^ u / 256 / 256 / 256 % 256) = f (f (f (f u))) := by
  have t : ∀ s v, f ((s ^^^ v) ^^^ v % 256) = f s ^^^ v / 256 := fun s v => by rw [Nat.xor_assoc, up_low, hx, hu]
  have a1 : f (0 ^^^ u % 256) = f u ^^^ u / 256 := by
    have := t u u
    rwa [Nat.xor_self] at this
  rw [a1, t, t, t, h, Nat.xor_zero]
theorem stp_zero4 {u : Nat} (h : u < 4294967296) (e : stp (stp (stp (stp u))) = 0) : u = 0 :=
  stp_zero h (stp_zero (stp_lt h) (stp_zero (stp_lt (stp_lt h)) (stp_zero (stp_lt (stp_lt (stp_lt h))) e)))
theorem div4 {u : Nat} (h : u < 4294967296) : u / 256 / 256 / 256 / 256 = 0 := by omega
theorem reg_four (r : Nat) (a b c d : UInt8) : reg r [a, b, c, d] = stp (stp (stp (stp (r ^^^ a.toNat) ^^^ b.toNat) ^^^ c.toNat) ^^^ d.toNat) := rfl
theorem byte_of (n : Nat) : (UInt8.ofNat n).toNat = n % 256 := by simp [UInt8.toNat_ofNat']
/-- Four bytes that are turned. -/
theorem reg_turn (u : Nat) (h : u < 4294967296) (e : reg 0 [UInt8.ofNat u, UInt8.ofNat (u / 256), UInt8.ofNat (u / 256 / 256), UInt8.ofNat (u / 256 / 256 / 256)] = 0) : u = 0 := by
  rw [reg_four, byte_of, byte_of, byte_of, byte_of, turn_gen stp stp_xor stp_up u (div4 h)] at e
  exact stp_zero4 h e
/-- The sum behind a sum. -/
def flip (m n : Nat) : Nat := m ^^^ n
theorem flip_flip (m n : Nat) : flip m (flip m n) = n := xor_self_cancel m n
def inv (n : Nat) : Nat := flip 4294967295 n
theorem inv_lt {n : Nat} (h : n < 4294967296) : inv n < 4294967296 := Nat.xor_lt_two_pow (n := 32) (by omega) (by omega)
theorem inv_inv (n : Nat) : inv (inv n) = n := flip_flip 4294967295 n
theorem inv_inj {a b : Nat} (h : inv a = inv b) : a = b := by rw [← inv_inv a, h, inv_inv]
def more (s : Nat) (l : List UInt8) : Nat := inv (reg (inv s) l)
theorem more_lt {s : Nat} (h : s < 4294967296) (l : List UInt8) : more s l < 4294967296 := inv_lt (reg_lt l (inv_lt h))
theorem more_append (s : Nat) (a b : List UInt8) : more s (a ++ b) = more (more s a) b := by
  unfold more; rw [inv_inv, reg_append]
theorem more_nil (s : Nat) : more s [] = s := inv_inv s
/-- A text that is turned in four bytes. -/
def turned (l : List UInt8) (k u : Nat) : List UInt8 :=
  l.zipWith (· ^^^ ·) (List.replicate k 0 ++ ([UInt8.ofNat u, UInt8.ofNat (u / 256), UInt8.ofNat (u / 256 / 256), UInt8.ofNat (u / 256 / 256 / 256)] ++ List.replicate (l.length - 4 - k) 0))
theorem more_turned (l : List UInt8) (k u s : Nat) (hk : k + 4 ≤ l.length) (h : u < 4294967296) (e : more s (turned l k u) = more s l) : u = 0 := by
  have e := inv_inj e
  have hd := reg_diff l (List.replicate k 0 ++ ([UInt8.ofNat u, UInt8.ofNat (u / 256), UInt8.ofNat (u / 256 / 256), UInt8.ofNat (u / 256 / 256 / 256)] ++ List.replicate (l.length - 4 - k) 0)) (inv s) 0 (by simp; omega)
  rw [Nat.xor_zero] at hd
  unfold turned at e
  rw [hd] at e
  have z : reg 0 (List.replicate k 0 ++ ([UInt8.ofNat u, UInt8.ofNat (u / 256), UInt8.ofNat (u / 256 / 256), UInt8.ofNat (u / 256 / 256 / 256)] ++ List.replicate (l.length - 4 - k) 0)) = 0 := by
    have := congrArg (reg (inv s) l ^^^ ·) e
    simpa [← Nat.xor_assoc] using this
  rw [reg_append, reg_nought, reg_append] at z
  exact reg_turn u h (reg_zeros _ _ (reg_lt _ (by omega)) z)
/-- The walk's spellings. -/
theorem inv_bits (n : Nat) (h : n < 4294967296) : bits .xor .u32 (4294967295 : Int) (n : Int) = (inv n : Nat) := u32_xor_nat 4294967295 n (by omega) h
theorem more_check : more 0 [49, 50, 51, 52, 53, 54, 55, 56, 57] = 3421780262 := by decide +kernel
theorem more_1234 : more (more 0 [49, 50, 51, 52]) [53, 54, 55, 56, 57] = 3421780262 := by decide +kernel
end Go.Proofs.YtgooepfhapaenaaGreat
