/- Plain facts, no Go in sight: numbers and texts, vectors, words, things with keys, heaps in a row, a stable sort, jobs and nodes. Conditions: as stated. -/
import Derived.Test.YtgooepfhapaenaaGreatKit
import Derived.Sort.Grow
import Derived.Sort.WalkA
/- Plain facts on numbers as texts: no Go in sight. Conditions: none. -/
namespace Go.Proofs.YtgooepfhapaenaaGreat
open Go.RowKit
set_option linter.unusedVariables false
set_option linter.unusedSimpArgs false

def digC (d : Nat) : UInt8 := UInt8.ofNat (48 + d)
theorem digC_toNat {d : Nat} (h : d < 10) : (digC d).toNat = 48 + d := by simp [digC]; omega
/-- A number's digits. -/
def decL (n : Nat) : List UInt8 := if n < 10 then [digC n] else decL (n / 10) ++ [digC (n % 10)]
theorem decL_lt {n : Nat} (h : n < 10) : decL n = [digC n] := by rw [decL, if_pos h]
theorem decL_ge {n : Nat} (h : ¬ n < 10) : decL n = decL (n / 10) ++ [digC (n % 10)] := by rw [decL, if_neg h]
/-- A number's text. -/
def textL (n : Int) : List UInt8 := if n < 0 then 45 :: decL n.natAbs else decL n.natAbs
def isDig (c : UInt8) : Prop := 48 ≤ c.toNat ∧ c.toNat ≤ 57
theorem digC_dig {d : Nat} (h : d < 10) : isDig (digC d) := by unfold isDig; rw [digC_toNat h]; omega
theorem decL_dig (n : Nat) : ∀ c ∈ decL n, isDig c := by
  induction n using Nat.strongRecOn with
  | ind n ih =>
    intro c hc
    by_cases h : n < 10
    · rw [decL_lt h] at hc
      obtain rfl : c = digC n := by simpa using hc
      exact digC_dig h
    · rw [decL_ge h] at hc
      rcases List.mem_append.1 hc with hc | hc
      · exact ih (n / 10) (by omega) c hc
      · obtain rfl : c = digC (n % 10) := by simpa using hc
        exact digC_dig (by omega)
theorem decL_ne (n : Nat) : decL n ≠ [] := by
  by_cases h : n < 10
  · rw [decL_lt h]; simp
  · rw [decL_ge h]; simp
/-- The number of digits that go on from a number. -/
def digV : Nat → List UInt8 → Nat
  | a, [] => a
  | a, c :: l => digV (a * 10 + (c.toNat - 48)) l
theorem digV_append (l r : List UInt8) : ∀ a, digV a (l ++ r) = digV (digV a l) r := by
  induction l with
  | nil => intro a; rfl
  | cons c l ih => intro a; exact ih _
theorem digV_decL (n : Nat) : digV 0 (decL n) = n := by
  induction n using Nat.strongRecOn with
  | ind n ih =>
    by_cases h : n < 10
    · rw [decL_lt h]
      show 0 * 10 + ((digC n).toNat - 48) = n
      rw [digC_toNat h]; omega
    · rw [decL_ge h, digV_append, ih (n / 10) (by omega)]
      show n / 10 * 10 + ((digC (n % 10)).toNat - 48) = n
      rw [digC_toNat (show n % 10 < 10 by omega)]; omega
theorem decL_len (n k : Nat) (h : n < 10 ^ k) (hk : 0 < k) : (decL n).length ≤ k := by
  induction k generalizing n with
  | zero => omega
  | succ k ih =>
    by_cases h1 : n < 10
    · rw [decL_lt h1]; simp
    · rw [decL_ge h1]
      have hk : 0 < k := by
        rcases Nat.eq_zero_or_pos k with rfl | h2
        · simp at h; omega
        · exact h2
      have := ih (n / 10) (by rw [Nat.pow_succ] at h; omega) hk
      simp; omega
/-- The number that a text may be. -/
def valD (l : List UInt8) : Int := if l.head? = some 45 then -((digV 0 l.tail : Nat) : Int) else ((digV 0 l : Nat) : Int)
theorem decL_head (n : Nat) : (decL n).head? ≠ some 45 := by
  intro h
  have := decL_dig n 45 (List.mem_of_head? h)
  simp [isDig] at this
theorem valD_textL (n : Int) : valD (textL n) = n := by
  unfold textL valD
  by_cases h : n < 0
  · rw [if_pos h, if_pos (show (45 :: decL n.natAbs).head? = some 45 from rfl)]
    show -((digV 0 (decL n.natAbs) : Nat) : Int) = n
    rw [digV_decL]; omega
  · rw [if_neg h, if_neg (decL_head _), digV_decL]; omega
theorem textL_inj {a b : Int} (h : textL a = textL b) : a = b := by rw [← valD_textL a, h, valD_textL]
theorem textL_ne (n : Int) : textL n ≠ [] := by
  unfold textL; split
  · simp
  · exact decL_ne _
def inI (n : Int) : Prop := -9223372036854775808 ≤ n ∧ n ≤ 9223372036854775807
instance (n : Int) : Decidable (inI n) := by unfold inI; infer_instance
theorem textL_len (n : Int) (h : inI n) : (textL n).length ≤ 20 := by
  have := decL_len n.natAbs 19 (by have : 10 ^ 19 = 10000000000000000000 := by decide
                                   unfold inI at h; omega) (by omega)
  unfold textL; split <;> simp <;> omega
/-- The error, and the number, of a text. -/
def parE (l : List UInt8) : Nat := if textL (valD l) = l ∧ inI (valD l) then 0 else 2
def parV (l : List UInt8) : Int := if parE l = 0 then valD l else 0
theorem par_text (n : Int) (h : inI n) : parE (textL n) = 0 ∧ parV (textL n) = n := by
  have e : parE (textL n) = 0 := by unfold parE; rw [valD_textL, if_pos ⟨rfl, h⟩]
  exact ⟨e, by unfold parV; rw [if_pos e, valD_textL]⟩
theorem parE_cases (l : List UInt8) : parE l = 0 ∨ parE l = 2 := by unfold parE; split <;> omega
theorem par_ok {l : List UInt8} (h : parE l = 0) : textL (parV l) = l ∧ inI (parV l) := by
  have e : parV l = valD l := by unfold parV; rw [if_pos h]
  rw [e]
  unfold parE at h
  split at h
  · assumption
  · cases h
theorem parV_in (l : List UInt8) : inI (parV l) := by
  unfold parV; split
  · rename_i h
    have := (par_ok h).2
    unfold parV at this; rw [if_pos h] at this; exact this
  · unfold inI; omega
theorem par_bad {l : List UInt8} (h : ¬ parE l = 0) : parE l = 2 ∧ parV l = 0 := by
  refine ⟨by rcases parE_cases l with h2 | h2 <;> omega, ?_⟩
  unfold parV; rw [if_neg h]
/-- A text that is a number's is read as that number, no other one is read. -/
theorem parE_iff (l : List UInt8) (n : Int) (hn : inI n) (h : textL n = l) : parE l = 0 ∧ parV l = n := by subst h; exact par_text n hn
theorem textL_chars (n : Int) (c : UInt8) (h : c ∈ textL n) : isDig c ∨ c = 45 := by
  unfold textL at h
  split at h
  · rcases List.mem_cons.1 h with h | h
    · exact Or.inr h
    · exact Or.inl (decL_dig _ c h)
  · exact Or.inl (decL_dig _ c h)

theorem valD_snoc (p : List UInt8) (c : UInt8) (h : p = [] → c ≠ 45) : valD (p ++ [c]) = if p.head? = some 45 then valD p * 10 - ((c.toNat - 48 : Nat) : Int) else valD p * 10 + ((c.toNat - 48 : Nat) : Int) := by
  cases p with
  | nil =>
    have h1 : ¬ c = 45 := h rfl
    have e : valD ([] ++ [c]) = ((digV 0 [c] : Nat) : Int) := by
      show valD [c] = _
      unfold valD; rw [if_neg (by simp [h1])]
    rw [e, if_neg (by simp)]
    show ((0 * 10 + (c.toNat - 48) : Nat) : Int) = valD [] * 10 + _
    have : valD [] = 0 := rfl
    rw [this]; omega
  | cons a p =>
    by_cases ha : a = 45
    · subst ha
      have e1 : valD (45 :: p ++ [c]) = -((digV 0 (p ++ [c]) : Nat) : Int) := rfl
      have e2 : valD (45 :: p) = -((digV 0 p : Nat) : Int) := rfl
      rw [e1, e2, if_pos (show (45 :: p).head? = some 45 from rfl), digV_append]
      show -(((digV 0 p * 10 + (c.toNat - 48) : Nat)) : Int) = _
      omega
    · have hh : ¬ (a :: p).head? = some 45 := by simp [ha]
      have e1 : valD (a :: p ++ [c]) = ((digV 0 (a :: p ++ [c]) : Nat) : Int) := by unfold valD; rw [if_neg (by simp [ha])]
      have e2 : valD (a :: p) = ((digV 0 (a :: p) : Nat) : Int) := by unfold valD; rw [if_neg hh]
      rw [e1, e2, if_neg hh, digV_append]
      show (((digV 0 (a :: p) * 10 + (c.toNat - 48) : Nat)) : Int) = _
      omega
theorem textL_get (n : Int) (k : Nat) (h : k < (textL n).length) (hk : k ≠ 0 ∨ (textL n)[0]'(by omega) ≠ 45) : isDig (textL n)[k] := by
  rcases textL_chars n _ (List.getElem_mem h) with h1 | h1
  · exact h1
  · by_cases hn : n < 0
    · have e : textL n = 45 :: decL n.natAbs := by unfold textL; rw [if_pos hn]
      rcases hk with hk | hk
      · obtain ⟨j, rfl⟩ : ∃ j, k = j + 1 := ⟨k - 1, by omega⟩
        simp only [e] at h ⊢
        rw [List.getElem_cons_succ]
        exact decL_dig _ _ (List.getElem_mem _)
      · exact absurd (by simp only [e]; rfl) hk
    · have e : textL n = decL n.natAbs := by unfold textL; rw [if_neg hn]
      simp only [e] at h ⊢
      exact decL_dig _ _ (List.getElem_mem h)
theorem parE_char (l : List UInt8) (k : Nat) (h : k < l.length) (hk : k ≠ 0 ∨ l[0]'(by omega) ≠ 45) (hb : ¬ isDig l[k]) : parE l = 2 ∧ parV l = 0 := by
  refine par_bad fun e => hb ?_
  have ht := (par_ok e).1
  have := textL_get (parV l) k (by rw [ht]; exact h) (by simpa only [ht] using hk)
  simpa only [ht] using this
theorem parE_long (l : List UInt8) (h : 20 < l.length) : parE l = 2 ∧ parV l = 0 := by
  refine par_bad fun e => ?_
  obtain ⟨h1, h2⟩ := par_ok e
  have := textL_len _ h2
  rw [h1] at this; omega
theorem parE_nil : parE [] = 2 ∧ parV [] = 0 := by
  refine par_bad fun e => ?_
  exact textL_ne _ (par_ok e).1
/-- Parts with a sign between. -/
def joinS (sep : UInt8) : List (List UInt8) → List UInt8
  | [] => []
  | [x] => x
  | x :: y :: r => x ++ sep :: joinS sep (y :: r)
theorem joinS_snoc (sep : UInt8) (l : List (List UInt8)) (x : List UInt8) : joinS sep (l ++ [x]) = if l = [] then x else joinS sep l ++ sep :: x := by
  induction l with
  | nil => rfl
  | cons a l ih =>
    cases l with
    | nil => simp [joinS]
    | cons b l =>
      rw [if_neg (by simp)] at ih ⊢
      show a ++ sep :: joinS sep ((b :: l) ++ [x]) = _
      rw [ih]; simp [joinS]
/-- The parts between a sign. -/
def splitS (sep : UInt8) : List UInt8 → List (List UInt8)
  | [] => [[]]
  | c :: r => if c = sep then [] :: splitS sep r else match splitS sep r with
    | [] => [[c]]
    | h :: t => (c :: h) :: t
theorem splitS_ne (sep : UInt8) (l : List UInt8) : splitS sep l ≠ [] := by
  cases l with
  | nil => simp [splitS]
  | cons c l => simp only [splitS]; split
                · simp
                · split <;> simp
theorem splitS_end (sep : UInt8) (p : List UInt8) (h : sep ∉ p) : splitS sep p = [p] := by
  induction p with
  | nil => rfl
  | cons c p ih =>
    have h1 : ¬ c = sep := fun e => h (by simp [e])
    simp only [splitS, if_neg h1]
    rw [ih (fun e => h (by simp [e]))]
theorem splitS_at (sep : UInt8) (p r : List UInt8) (h : sep ∉ p) : splitS sep (p ++ sep :: r) = p :: splitS sep r := by
  induction p with
  | nil => simp [splitS]
  | cons c p ih =>
    have h1 : ¬ c = sep := fun e => h (by simp [e])
    simp only [List.cons_append, splitS, if_neg h1]
    rw [ih (fun e => h (by simp [e]))]
theorem split_join (sep : UInt8) (l : List (List UInt8)) (hl : l ≠ []) (h : ∀ p ∈ l, sep ∉ p) : splitS sep (joinS sep l) = l := by
  induction l with
  | nil => exact absurd rfl hl
  | cons a l ih =>
    cases l with
    | nil => exact splitS_end sep a (h a (by simp))
    | cons b l =>
      show splitS sep (a ++ sep :: joinS sep (b :: l)) = _
      rw [splitS_at sep a _ (h a (by simp)), ih (by simp) (fun p hp => h p (by simp [hp]))]
theorem splitS_len (sep : UInt8) (l : List UInt8) : (splitS sep l).length ≤ l.length + 1 := by
  induction l with
  | nil => simp [splitS]
  | cons c l ih =>
    simp only [splitS]; split
    · simp; omega
    · split
      · simp
      · rename_i h; rw [h] at ih; simp at ih ⊢; omega
/-- Numbers' text, and a text's numbers. -/
def listL (ns : List Int) : List UInt8 := joinS 44 (ns.map textL)
theorem textL_comma (n : Int) : (44 : UInt8) ∉ textL n := by
  intro h
  rcases textL_chars n 44 h with h | h
  · simp [isDig] at h
  · exact absurd h (by decide)
theorem list_back (ns : List Int) (h : ns ≠ []) : splitS 44 (listL ns) = ns.map textL :=
  split_join 44 _ (by simpa using h) (fun p hp => by
    obtain ⟨n, _, rfl⟩ := List.mem_map.1 hp
    exact textL_comma n)
def plE (l : List UInt8) (many : Int) : Nat := if (∀ p ∈ splitS 44 l, parE p = 0) ∧ ((splitS 44 l).length : Int) = many then 0 else 2
def plV (l : List UInt8) (many : Int) : List Int := if plE l many = 0 then (splitS 44 l).map parV else []
theorem pl_back (ns : List Int) (h : ns ≠ []) (hi : ∀ n ∈ ns, inI n) : plE (listL ns) ns.length = 0 ∧ plV (listL ns) ns.length = ns := by
  have e : plE (listL ns) ns.length = 0 := by
    unfold plE
    rw [list_back ns h, if_pos]
    refine ⟨fun p hp => ?_, by simp⟩
    obtain ⟨n, hn, rfl⟩ := List.mem_map.1 hp
    exact (par_text n (hi n hn)).1
  refine ⟨e, ?_⟩
  unfold plV
  rw [if_pos e, list_back ns h, List.map_map]
  conv => rhs; rw [← List.map_id ns]
  exact List.map_congr_left fun n hn => (par_text n (hi n hn)).2

/-- Hexadecimal signs. -/
def signC (k : Nat) : UInt8 := if k < 10 then UInt8.ofNat (48 + k) else UInt8.ofNat (87 + k)
def signV (c : UInt8) : Nat := if 48 ≤ c.toNat ∧ c.toNat ≤ 57 then c.toNat - 48 else if 97 ≤ c.toNat ∧ c.toNat ≤ 102 then c.toNat - 87 else 16
theorem signV_signC {k : Nat} (h : k < 16) : signV (signC k) = k := by
  unfold signV signC
  by_cases h1 : k < 10
  · rw [if_pos h1]
    have : (UInt8.ofNat (48 + k)).toNat = 48 + k := by simp; omega
    rw [this, if_pos (by omega)]; omega
  · rw [if_neg h1]
    have : (UInt8.ofNat (87 + k)).toNat = 87 + k := by simp; omega
    rw [this, if_neg (by omega), if_pos (by omega)]; omega
theorem signC_signV {c : UInt8} (h : signV c < 16) : signC (signV c) = c := by
  have hc := c.toNat_lt
  unfold signV at h ⊢
  rw [← UInt8.toNat_inj]
  by_cases h1 : 48 ≤ c.toNat ∧ c.toNat ≤ 57
  · rw [if_pos h1]; unfold signC; rw [if_pos (by omega)]; simp; omega
  · rw [if_neg h1] at h ⊢
    by_cases h2 : 97 ≤ c.toNat ∧ c.toNat ≤ 102
    · rw [if_pos h2]; unfold signC; rw [if_neg (by omega)]; simp; omega
    · rw [if_neg h2] at h; omega
theorem signV_le (c : UInt8) : signV c ≤ 16 := by
  unfold signV; split
  · omega
  · split <;> omega
def hexL (l : List UInt8) : List UInt8 := l.flatMap fun c => [signC (c.toNat / 16), signC (c.toNat % 16)]
theorem hexL_cons (c : UInt8) (l : List UInt8) : hexL (c :: l) = signC (c.toNat / 16) :: signC (c.toNat % 16) :: hexL l := rfl
theorem hexL_append (a b : List UInt8) : hexL (a ++ b) = hexL a ++ hexL b := by simp [hexL]
theorem hexL_len (l : List UInt8) : (hexL l).length = 2 * l.length := by
  induction l with
  | nil => rfl
  | cons c l ih => rw [hexL_cons, List.length_cons, List.length_cons, ih, List.length_cons]; omega
def unhex : List UInt8 → Option (List UInt8)
  | [] => some []
  | [_] => none
  | x :: y :: r => if signV x < 16 ∧ signV y < 16 then (unhex r).map (UInt8.ofNat (signV x * 16 + signV y) :: ·) else none
theorem unhex_hex (l : List UInt8) : unhex (hexL l) = some l := by
  induction l with
  | nil => rfl
  | cons c l ih =>
    have hc := c.toNat_lt
    rw [hexL_cons]
    simp only [unhex]
    rw [signV_signC (show c.toNat / 16 < 16 by omega), signV_signC (show c.toNat % 16 < 16 by omega), if_pos (by omega), ih]
    have : UInt8.ofNat (c.toNat / 16 * 16 + c.toNat % 16) = c := by rw [← UInt8.toNat_inj]; simp; omega
    simp [this]
theorem hex_unhex : ∀ (l r : List UInt8), unhex l = some r → hexL r = l
  | [], r, h => by simp [unhex] at h; subst h; rfl
  | [_], r, h => by simp [unhex] at h
  | x :: y :: l, r, h => by
    simp only [unhex] at h
    split at h
    · rename_i hs
      obtain ⟨r', hr, rfl⟩ := Option.map_eq_some_iff.1 h
      have := hex_unhex l r' hr
      rw [hexL_cons, this]
      have e : (UInt8.ofNat (signV x * 16 + signV y)).toNat = signV x * 16 + signV y := by simp; omega
      rw [e, show (signV x * 16 + signV y) / 16 = signV x by omega, show (signV x * 16 + signV y) % 16 = signV y by omega, signC_signV hs.1, signC_signV hs.2]
    · cases h
def uhE (l : List UInt8) : Nat := if (unhex l).isSome then 0 else 2
def uhV (l : List UInt8) : List UInt8 := (unhex l).getD []
theorem uh_back (l : List UInt8) : uhE (hexL l) = 0 ∧ uhV (hexL l) = l := by
  unfold uhE uhV; rw [unhex_hex]; exact ⟨rfl, rfl⟩
theorem uh_ok {l : List UInt8} (h : uhE l = 0) : hexL (uhV l) = l := by
  unfold uhE at h
  unfold uhV
  cases hu : unhex l with
  | none => rw [hu] at h; cases h
  | some r => exact hex_unhex l r hu
end Go.Proofs.YtgooepfhapaenaaGreat
/- Plain facts on vectors of three numbers: no Go in sight. Conditions: none. -/
namespace Go.Proofs.YtgooepfhapaenaaGreat
open Go.RowKit
set_option linter.unusedVariables false
set_option linter.unusedSimpArgs false

/-- Three numbers. -/
structure V3 where
  a : Int
  b : Int
  c : Int
def V3.ok (v : V3) : Prop := inI v.a ∧ inI v.b ∧ inI v.c
def V3.val (v : V3) : Value := .agg #[.int .i64 v.a, .int .i64 v.b, .int .i64 v.c]
def V3.cells (v : V3) : Array Value := #[.int .i64 v.a, .int .i64 v.b, .int .i64 v.c]
def V3.list (v : V3) : List Int := [v.a, v.b, v.c]
def zero3 : V3 := ⟨0, 0, 0⟩
def unitB (n : Int) : Bool := decide (0 ≤ n) && decide (n ≤ 1048576)
def rightB (v : V3) : Bool := unitB v.a && unitB v.b && unitB v.c
def fitsB (v u : V3) : Bool := decide (v.a ≤ u.a) && decide (v.b ≤ u.b) && decide (v.c ≤ u.c)
def sumV (v u : V3) : V3 := ⟨v.a + u.a, v.b + u.b, v.c + u.c⟩
def subV (v u : V3) : V3 := ⟨v.a - u.a, v.b - u.b, v.c - u.c⟩
def addB (v u : V3) : Bool := rightB v && rightB u && rightB (sumV v u)
def addV (v u : V3) : V3 := if addB v u = true then sumV v u else zero3
def takeB (v u : V3) : Bool := rightB v && rightB u && fitsB u v
def takeV (v u : V3) : V3 := if takeB v u = true then subV v u else zero3
def lessB (v u : V3) : Bool := if v.a ≠ u.a then decide (v.a < u.a) else if v.b ≠ u.b then decide (v.b < u.b) else decide (v.c < u.c)
def mostV (v u : V3) : V3 := ⟨max v.a u.a, max v.b u.b, max v.c u.c⟩
theorem unitB_iff (n : Int) : unitB n = true ↔ 0 ≤ n ∧ n ≤ 1048576 := by simp [unitB]
theorem rightB_iff (v : V3) : rightB v = true ↔ (0 ≤ v.a ∧ v.a ≤ 1048576) ∧ (0 ≤ v.b ∧ v.b ≤ 1048576) ∧ (0 ≤ v.c ∧ v.c ≤ 1048576) := by
  simp [rightB, unitB, and_assoc]
theorem fitsB_iff (v u : V3) : fitsB v u = true ↔ v.a ≤ u.a ∧ v.b ≤ u.b ∧ v.c ≤ u.c := by simp [fitsB, and_assoc]
theorem takeB_iff (v u : V3) : takeB v u = true ↔ rightB v = true ∧ rightB u = true ∧ fitsB u v = true := by simp [takeB, and_assoc]
theorem addB_iff (v u : V3) : addB v u = true ↔ rightB v = true ∧ rightB u = true ∧ rightB (sumV v u) = true := by simp [addB, and_assoc]
/-- A vector's text, and a text's vector. -/
def text3 (v : V3) : List UInt8 := listL v.list
def parse3E (l : List UInt8) : Nat := plE l 3
def parse3V (l : List UInt8) : V3 := match plV l 3 with
  | [a, b, c] => ⟨a, b, c⟩
  | _ => zero3
theorem plV_three {l : List UInt8} (h : plE l 3 = 0) : ∃ a b c, plV l 3 = [a, b, c] ∧ inI a ∧ inI b ∧ inI c := by
  have hl : ((splitS 44 l).length : Int) = 3 := by
    unfold plE at h; split at h
    · rename_i h2; exact h2.2
    · cases h
  have e : plV l 3 = (splitS 44 l).map parV := by unfold plV; rw [if_pos h]
  match hs : splitS 44 l, hl with
  | [x, y, z], _ => exact ⟨parV x, parV y, parV z, by rw [e, hs]; rfl, parV_in x, parV_in y, parV_in z⟩
theorem parse3_back (v : V3) (h : v.ok) : parse3E (text3 v) = 0 ∧ parse3V (text3 v) = v := by
  have := pl_back v.list (by simp [V3.list]) (by intro n hn; simp [V3.list] at hn; rcases hn with rfl | rfl | rfl; exact h.1; exact h.2.1; exact h.2.2)
  have e : ((v.list.length : Nat) : Int) = 3 := rfl
  rw [e] at this
  exact ⟨this.1, by unfold parse3V text3; rw [this.2]; rfl⟩
theorem parse3_bad {l : List UInt8} (h : ¬ parse3E l = 0) : parse3E l = 2 ∧ parse3V l = zero3 := by
  have h1 : plE l 3 = 2 := by
    unfold parse3E plE at h; unfold plE
    split at h
    · exact absurd rfl h
    · rename_i hn; rw [if_neg hn]
  refine ⟨h1, ?_⟩
  unfold parse3V plV
  rw [if_neg (by rw [h1]; omega)]
theorem text3_len (v : V3) (h : v.ok) : (text3 v).length ≤ 70 := by
  have h1 := textL_len v.a h.1
  have h2 := textL_len v.b h.2.1
  have h3 := textL_len v.c h.2.2
  unfold text3 listL V3.list
  simp [joinS]; omega
/- The laws. -/
theorem takeV_addV (v u : V3) (h : addB v u = true) : takeB (addV v u) u = true ∧ takeV (addV v u) u = v := by
  have h1 := (addB_iff v u).1 h
  have e : addV v u = sumV v u := by unfold addV; rw [if_pos h]
  rw [e]
  have h2 : takeB (sumV v u) u = true := (takeB_iff _ _).2 ⟨h1.2.2, h1.2.1, (fitsB_iff _ _).2 (by
    have := (rightB_iff v).1 h1.1
    simp only [sumV]; omega)⟩
  refine ⟨h2, ?_⟩
  unfold takeV; rw [if_pos h2]
  cases v; simp [subV, sumV]
theorem addV_takeV (v u : V3) (h : takeB v u = true) : addB (takeV v u) u = true ∧ addV (takeV v u) u = v := by
  have h1 := (takeB_iff v u).1 h
  have e : takeV v u = subV v u := by unfold takeV; rw [if_pos h]
  have e2 : sumV (subV v u) u = v := by cases v; simp [subV, sumV]
  rw [e]
  have h2 : addB (subV v u) u = true := (addB_iff _ _).2 ⟨(rightB_iff _).2 (by
    have q1 := (rightB_iff v).1 h1.1
    have q2 := (rightB_iff u).1 h1.2.1
    have q3 := (fitsB_iff u v).1 h1.2.2
    simp only [subV]; omega), h1.2.1, by rw [e2]; exact h1.1⟩
  exact ⟨h2, by unfold addV; rw [if_pos h2, e2]⟩
theorem takeB_of (v u : V3) (h1 : rightB v = true) (h2 : rightB u = true) : takeB v u = fitsB u v := by unfold takeB; rw [h1, h2]; rfl
theorem lessB_self (v : V3) : lessB v v = false := by simp [lessB]
theorem lessB_iff (v u : V3) : lessB v u = true ↔ v.a < u.a ∨ (v.a = u.a ∧ (v.b < u.b ∨ (v.b = u.b ∧ v.c < u.c))) := by
  unfold lessB
  by_cases h1 : v.a = u.a
  · by_cases h2 : v.b = u.b
    · simp [h1, h2]
    · simp [h1, h2]
  · simp [h1]
theorem lessB_other (v u : V3) (h : v ≠ u) : lessB v u = !lessB u v := by
  have hne : ¬ (v.a = u.a ∧ v.b = u.b ∧ v.c = u.c) := fun ⟨h1, h2, h3⟩ => h (by cases v; cases u; simp_all)
  cases h1 : lessB v u <;> cases h2 : lessB u v
  · have a1 : ¬ lessB v u = true := by rw [h1]; simp
    have a2 : ¬ lessB u v = true := by rw [h2]; simp
    rw [lessB_iff] at a1 a2; omega
  · rfl
  · rfl
  · rw [lessB_iff] at h1 h2; omega
theorem lessB_trans (v u x : V3) (h1 : lessB v u = true) (h2 : lessB u x = true) : lessB v x = true := by
  rw [lessB_iff] at h1 h2 ⊢; omega
theorem fits_most (v u : V3) : fitsB v (mostV v u) = true ∧ fitsB u (mostV v u) = true := by
  rw [fitsB_iff, fitsB_iff]; simp only [mostV]; omega
theorem most_fits (v u x : V3) (h1 : fitsB v x = true) (h2 : fitsB u x = true) : fitsB (mostV v u) x = true := by
  rw [fitsB_iff] at h1 h2 ⊢; simp only [mostV]; omega
theorem most_comm (v u : V3) : mostV v u = mostV u v := by simp only [mostV]; congr 1 <;> omega
theorem most_self (v : V3) : mostV v v = v := by cases v; simp [mostV]
end Go.Proofs.YtgooepfhapaenaaGreat
/- Plain facts on lines and words: no Go in sight. Conditions: none. -/
namespace Go.Proofs.YtgooepfhapaenaaGreat
open Go.RowKit
set_option linter.unusedVariables false
set_option linter.unusedSimpArgs false

/-- What is open at the end. -/
def lastW (w : List UInt8) : List (List UInt8) := if w = [] then [] else [w]
/-- The lines of a text of which some bytes of a line are open. -/
def linesA : List UInt8 → List UInt8 → List (List UInt8)
  | w, [] => lastW w
  | w, c :: l => if c = 10 then w :: linesA [] l else linesA (w ++ [c]) l
def linesL (l : List UInt8) : List (List UInt8) := linesA [] l
/-- The words. -/
def wordsA : List UInt8 → List UInt8 → List (List UInt8)
  | w, [] => lastW w
  | w, c :: l => if c = 35 then lastW w else if c = 32 ∨ c = 9 then lastW w ++ wordsA [] l else wordsA (w ++ [c]) l
def wordsL (l : List UInt8) : List (List UInt8) := wordsA [] l
def joinW (l : List (List UInt8)) : List UInt8 := joinS 32 l
def textW (l : List (List UInt8)) : List UInt8 := (l.map (· ++ [10])).flatten
/-- Where something comes first. -/
def findA {α : Type} [DecidableEq α] (x : α) : List α → Option Nat
  | [] => none
  | a :: l => if a = x then some 0 else (findA x l).map (· + 1)
theorem findA_zero {α : Type} [DecidableEq α] (x : α) (l : List α) : findA x l = (findA x (l.drop 0)).map (· + 0) := by simp
theorem findA_at {α : Type} [DecidableEq α] (x : α) (l : List α) (k : Nat) (hk : k < l.length) (hI : findA x l = (findA x (l.drop k)).map (· + k)) (h : l[k] = x) : findA x l = some k := by
  rw [hI, List.drop_eq_getElem_cons hk]
  simp [findA, h]
theorem findA_next {α : Type} [DecidableEq α] (x : α) (l : List α) (k : Nat) (hk : k < l.length) (hI : findA x l = (findA x (l.drop k)).map (· + k)) (h : l[k] ≠ x) : findA x l = (findA x (l.drop (k + 1))).map (· + (k + 1)) := by
  rw [hI, List.drop_eq_getElem_cons hk]
  simp only [findA, if_neg h, Option.map_map]
  congr 1
  funext i
  simp; omega
theorem findA_end {α : Type} [DecidableEq α] (x : α) (l : List α) (k : Nat) (hk : l.length ≤ k) (hI : findA x l = (findA x (l.drop k)).map (· + k)) : findA x l = none := by
  rw [hI, List.drop_eq_nil_of_le hk]; rfl
/-- A place's number, or -1. -/
def idxI : Option Nat → Int
  | some k => k
  | none => -1
def cutA (l : List UInt8) (c : UInt8) : List UInt8 := match findA c l with
  | some k => l.take k
  | none => []
def cutB (l : List UInt8) (c : UInt8) : List UInt8 := match findA c l with
  | some k => l.drop (k + 1)
  | none => []

theorem linesA_plain (p : List UInt8) (h : (10 : UInt8) ∉ p) : ∀ w r, linesA w (p ++ r) = linesA (w ++ p) r := by
  induction p with
  | nil => intro w r; simp
  | cons c p ih =>
    intro w r
    have h1 : ¬ c = 10 := fun e => h (by simp [e])
    simp only [List.cons_append, linesA, if_neg h1]
    rw [ih (fun e => h (by simp [e]))]
    simp
theorem lines_back (l : List (List UInt8)) (h : ∀ p ∈ l, (10 : UInt8) ∉ p) : linesL (textW l) = l := by
  unfold linesL
  induction l with
  | nil => rfl
  | cons a l ih =>
    have e : textW (a :: l) = a ++ (10 :: textW l) := by simp [textW]
    rw [e, linesA_plain a (h a (by simp))]
    simp only [linesA, if_true, List.nil_append]
    rw [ih (fun p hp => h p (by simp [hp]))]
/-- A character of a word. -/
def wchar (c : UInt8) : Prop := c ≠ 35 ∧ c ≠ 32 ∧ c ≠ 9
theorem wordsA_plain (p : List UInt8) (h : ∀ c ∈ p, wchar c) : ∀ w r, wordsA w (p ++ r) = wordsA (w ++ p) r := by
  induction p with
  | nil => intro w r; simp
  | cons c p ih =>
    intro w r
    obtain ⟨h1, h2, h3⟩ := h c (by simp)
    simp only [List.cons_append, wordsA, if_neg h1]
    rw [if_neg (by intro e; rcases e with e | e; exact h2 e; exact h3 e), ih (fun c hc => h c (by simp [hc]))]
    simp
theorem words_join (l : List (List UInt8)) (h : ∀ p ∈ l, p ≠ [] ∧ ∀ c ∈ p, wchar c) (r : List UInt8) : wordsA [] (joinW l ++ 32 :: r) = l ++ wordsA [] r := by
  unfold joinW
  induction l with
  | nil => simp [joinS, wordsA, lastW]
  | cons a l ih =>
    obtain ⟨h1, h2⟩ := h a (by simp)
    cases l with
    | nil =>
      simp only [joinS]
      rw [wordsA_plain a h2]
      simp [wordsA, lastW, h1]
    | cons b l =>
      have e : joinS 32 (a :: b :: l) ++ 32 :: r = a ++ (32 :: (joinS 32 (b :: l) ++ 32 :: r)) := by simp [joinS]
      rw [e, wordsA_plain a h2]
      have e2 : wordsA ([] ++ a) (32 :: (joinS 32 (b :: l) ++ 32 :: r)) = a :: wordsA [] (joinS 32 (b :: l) ++ 32 :: r) := by
        simp [wordsA, lastW, h1]
      rw [e2, ih (fun p hp => h p (by simp [hp]))]
      rfl
theorem words_back (l : List (List UInt8)) (h : ∀ p ∈ l, p ≠ [] ∧ ∀ c ∈ p, wchar c) : wordsL ([9] ++ joinW l ++ [32, 35, 32, 120]) = l := by
  unfold wordsL
  have e : [9] ++ joinW l ++ [32, 35, 32, 120] = 9 :: (joinW l ++ 32 :: [35, 32, 120]) := by simp
  rw [e]
  have e2 : wordsA [] (9 :: (joinW l ++ 32 :: [35, 32, 120])) = wordsA [] (joinW l ++ 32 :: [35, 32, 120]) := by
    simp [wordsA, lastW]
  rw [e2, words_join l h]
  simp [wordsA, lastW]
theorem linesA_len (l : List UInt8) : ∀ w, (linesA w l).length ≤ l.length + 1 := by
  induction l with
  | nil => intro w; unfold linesA lastW; split <;> simp
  | cons c l ih =>
    intro w
    simp only [linesA]
    split
    · have := ih []; simp; omega
    · have := ih (w ++ [c]); simp; omega
theorem wordsA_len (l : List UInt8) : ∀ w, (wordsA w l).length ≤ l.length + 1 := by
  induction l with
  | nil => intro w; unfold wordsA lastW; split <;> simp
  | cons c l ih =>
    intro w
    simp only [wordsA]
    split
    · unfold lastW; split <;> simp
    · split
      · have := ih []; unfold lastW; split <;> simp <;> omega
      · have := ih (w ++ [c]); simp; omega
theorem textW_snoc (l : List (List UInt8)) (x : List UInt8) : textW (l ++ [x]) = textW l ++ (x ++ [10]) := by simp [textW]
theorem joinW_snoc (l : List (List UInt8)) (x : List UInt8) : joinW (l ++ [x]) = if l = [] then x else joinW l ++ 32 :: x := joinS_snoc 32 l x
end Go.Proofs.YtgooepfhapaenaaGreat
/- Plain facts on things with keys: no Go in sight. Conditions: none. -/
namespace Go.Proofs.YtgooepfhapaenaaGreat
open Go.RowKit
set_option linter.unusedVariables false
set_option linter.unusedSimpArgs false

/-- A thing. -/
structure Thg where
  id : Int
  key : V3
def Thg.ok (t : Thg) : Prop := inI t.id ∧ t.key.ok
def Thg.row (t : Thg) : List Value := [.int .i64 t.id, .int .i64 t.key.a, .int .i64 t.key.b, .int .i64 t.key.c]
def Thg.val (t : Thg) : Value := .agg #[.int .i64 t.id, .int .i64 t.key.a, .int .i64 t.key.b, .int .i64 t.key.c]
def rowsT (l : List Thg) : List (List Value) := l.map Thg.row
def eq3 (v u : V3) : Bool := v.a == u.a && (v.b == u.b && v.c == u.c)
theorem eq3_iff (v u : V3) : eq3 v u = true ↔ v = u := by cases v; cases u; simp [eq3]
/-- Is one less? -/
def aheadT (x y : Thg) : Bool := lessB x.key y.key || (eq3 x.key y.key && decide (x.id < y.id))
def findT (l : List Thg) (id : Int) : Option Nat := findA id (l.map (·.id))
def dropT (l : List Thg) (id : Int) : List Thg := l.filter fun t => t.id != id
def putT (l : List Thg) (x : Thg) : List Thg := (dropT l x.id).takeWhile (fun t => aheadT t x) ++ x :: (dropT l x.id).dropWhile (fun t => aheadT t x)
def idsT (l : List Thg) : List Int := l.map (·.id)
theorem rowsT_len (l : List Thg) : (rowsT l).length = l.length := by simp [rowsT]
theorem rowsT_four (l : List Thg) : ∀ r ∈ rowsT l, r.length = 4 := by
  intro r hr
  obtain ⟨t, _, rfl⟩ := List.mem_map.1 hr
  rfl
theorem rowsT_get (l : List Thg) (k : Nat) (h : k < l.length) : (rowsT l)[k]? = some l[k].row := by simp [rowsT, h]
theorem rowsT_drop (l : List Thg) (k : Nat) : (rowsT l).drop k = rowsT (l.drop k) := by simp [rowsT]
theorem rowsT_snoc (l : List Thg) (x : Thg) : rowsT (l ++ [x]) = rowsT l ++ [x.row] := by simp [rowsT]
theorem rowsT_append (l r : List Thg) : rowsT (l ++ r) = rowsT l ++ rowsT r := by simp [rowsT]
theorem dropT_take (l : List Thg) (id : Int) (k : Nat) (h : k < l.length) : dropT (l.take (k + 1)) id = dropT (l.take k) id ++ if l[k].id = id then [] else [l[k]] := by
  rw [List.take_succ_eq_append_getElem h]
  unfold dropT
  rw [List.filter_append]
  by_cases hid : l[k].id = id
  · simp [hid]
  · simp [hid]
theorem dropT_len (l : List Thg) (id : Int) : (dropT l id).length ≤ l.length := List.length_filter_le _ _
theorem idsT_take (l : List Thg) (k : Nat) (h : k < l.length) : idsT (l.take (k + 1)) = idsT (l.take k) ++ [l[k].id] := by
  unfold idsT; rw [List.take_succ_eq_append_getElem h, List.map_append]; rfl
theorem while_at {α : Type} (p : α → Bool) (l : List α) (k : Nat) (h : ∀ i (hi : i < l.length), i < k → p l[i] = true) (hk : k ≤ l.length) (hc : ∀ h : k < l.length, p (l[k]'h) = false) : l.takeWhile p = l.take k ∧ l.dropWhile p = l.drop k := by
  induction l generalizing k with
  | nil => simp at hk; subst hk; exact ⟨rfl, rfl⟩
  | cons a l ih =>
    cases k with
    | zero =>
      have := hc (by simp)
      simp at this
      simp [this]
    | succ k =>
      have h0 := h 0 (by simp) (by omega)
      simp at h0
      have := ih k (fun i hi hik => by have := h (i + 1) (by simp; omega) (by omega); simpa using this) (by simp at hk; omega) (fun hh => by have := hc (by simp; omega); simpa using this)
      simp [h0, this]
theorem putT_at (l : List Thg) (x : Thg) (k : Nat) (hk : k ≤ (dropT l x.id).length) (h : ∀ i (hi : i < (dropT l x.id).length), i < k → aheadT (dropT l x.id)[i] x = true) (hc : ∀ h : k < (dropT l x.id).length, aheadT ((dropT l x.id)[k]'h) x = false) :
    putT l x = (dropT l x.id).take k ++ x :: (dropT l x.id).drop k := by
  obtain ⟨h1, h2⟩ := while_at (fun t => aheadT t x) (dropT l x.id) k h hk hc
  unfold putT
  rw [h1, h2]
end Go.Proofs.YtgooepfhapaenaaGreat
/- More plain facts on things with keys: what is looked up, how many there are, what stands first. Conditions: none. -/
namespace Go.Proofs.YtgooepfhapaenaaGreat
open Go.RowKit
set_option linter.unusedVariables false
set_option linter.unusedSimpArgs false

/-- A thing's key. -/
def lookT (l : List Thg) (id : Int) : Option V3 := (l.find? fun t => t.id == id).map (·.key)
theorem look_find (l : List Thg) (id : Int) : (findT l id).isSome = (lookT l id).isSome := by
  unfold findT lookT
  induction l with
  | nil => rfl
  | cons a l ih =>
    by_cases h : a.id = id
    · simp [findA, h]
    · have hb : (a.id == id) = false := by simpa using h
      simp only [List.map_cons, findA, if_neg h, List.find?_cons, hb]
      rw [Option.isSome_map]; exact ih
theorem look_at (l : List Thg) (id : Int) (k : Nat) (h : findT l id = some k) : ∃ hk : k < l.length, l[k].id = id ∧ lookT l id = some l[k].key := by
  unfold findT at h
  induction l generalizing k with
  | nil => cases h
  | cons a l ih =>
    by_cases he : a.id = id
    · simp [findA, he] at h
      subst h
      exact ⟨by simp, he, by simp [lookT, he]⟩
    · simp only [List.map_cons, findA, if_neg he, Option.map_eq_some_iff] at h
      obtain ⟨j, hj, rfl⟩ := h
      obtain ⟨h1, h2, h3⟩ := ih j hj
      refine ⟨by simp; omega, by simpa using h2, ?_⟩
      have hb : (a.id == id) = false := by simpa using he
      unfold lookT at h3 ⊢
      rw [List.find?_cons, hb]
      simpa using h3
theorem look_none (l : List Thg) (id : Int) (h : findT l id = none) : lookT l id = none := by
  have := look_find l id
  rw [h] at this
  cases hl : lookT l id
  · rfl
  · rw [hl] at this; cases this
theorem look_drop (l : List Thg) (j i : Int) : lookT (dropT l j) i = if i = j then none else lookT l i := by
  unfold lookT dropT
  induction l with
  | nil => simp
  | cons a l ih =>
    by_cases ha : a.id = j
    · have hb : (a.id != j) = false := by simp [ha]
      rw [List.filter_cons, hb]
      simp only [Bool.false_eq_true, if_false]
      rw [ih, List.find?_cons]
      by_cases hi : i = j
      · rw [if_pos hi, if_pos hi]
      · have : (a.id == i) = false := by simp [ha]; exact fun e => hi e.symm
        rw [if_neg hi, this]; simp [hi]
    · have hb : (a.id != j) = true := by simpa using ha
      rw [List.filter_cons, hb]
      simp only [if_true]
      rw [List.find?_cons, List.find?_cons]
      by_cases hai : a.id = i
      · have : (a.id == i) = true := by simpa using hai
        rw [this, if_neg (fun e => ha (hai.trans e))]
      · have : (a.id == i) = false := by simpa using hai
        rw [this]; exact ih
theorem put_split (l : List Thg) (x : Thg) : ∃ a b, dropT l x.id = a ++ b ∧ putT l x = a ++ x :: b :=
  ⟨_, _, (List.takeWhile_append_dropWhile).symm, rfl⟩
theorem look_put (l : List Thg) (x : Thg) (i : Int) : lookT (putT l x) i = if i = x.id then some x.key else lookT l i := by
  obtain ⟨a, b, h1, h2⟩ := put_split l x
  have hd := look_drop l x.id i
  rw [h1] at hd
  rw [h2]
  unfold lookT at hd ⊢
  rw [List.find?_append] at hd ⊢
  by_cases hi : i = x.id
  · rw [if_pos hi] at hd ⊢
    cases ha : a.find? (fun t => t.id == i) with
    | none => rw [List.find?_cons]; simp [hi]
    | some t => rw [ha] at hd; simp at hd
  · rw [if_neg hi] at hd ⊢
    have : (x.id == i) = false := by simp; exact fun e => hi e.symm
    rw [List.find?_cons, this]
    exact hd
theorem drop_put (l : List Thg) (x : Thg) : dropT (putT l x) x.id = dropT l x.id := by
  obtain ⟨a, b, h1, h2⟩ := put_split l x
  have hd : dropT (dropT l x.id) x.id = dropT l x.id := by unfold dropT; rw [List.filter_filter]; simp
  rw [h2]
  rw [h1] at hd ⊢
  unfold dropT at hd ⊢
  rw [List.filter_append, List.filter_cons] at *
  simpa using hd
theorem put_len (l : List Thg) (x : Thg) : (putT l x).length = (dropT l x.id).length + 1 := by
  obtain ⟨a, b, h1, h2⟩ := put_split l x
  rw [h1, h2]; simp; omega
/-- None twice. -/
def Uniq (l : List Thg) : Prop := l.Pairwise fun x y => x.id ≠ y.id
theorem drop_same (l : List Thg) (id : Int) (h : ∀ t ∈ l, t.id ≠ id) : dropT l id = l := by
  unfold dropT
  rw [List.filter_eq_self]
  intro t ht
  simpa using h t ht
theorem find_mem (l : List Thg) (id : Int) : findT l id = none ↔ ∀ t ∈ l, t.id ≠ id := by
  unfold findT
  induction l with
  | nil => simp [findA]
  | cons a l ih =>
    by_cases h : a.id = id
    · simp [findA, h]
    · simp [findA, h, ih]
theorem drop_len (l : List Thg) (id : Int) (hu : Uniq l) : (dropT l id).length + (if (findT l id).isSome = true then 1 else 0) = l.length := by
  induction l with
  | nil => rfl
  | cons a l ih =>
    obtain ⟨h1, h2⟩ := List.pairwise_cons.1 hu
    by_cases h : a.id = id
    · have hd : dropT (a :: l) id = l := by
        have : dropT (a :: l) id = dropT l id := by simp [dropT, h]
        rw [this, drop_same]
        intro t ht e
        exact h1 t ht (h.trans e.symm)
      have hf : (findT (a :: l) id).isSome = true := by simp [findT, findA, h]
      rw [hd, hf]; rfl
    · have hd : dropT (a :: l) id = a :: dropT l id := by simp [dropT, h]
      have hf : (findT (a :: l) id).isSome = (findT l id).isSome := by simp [findT, findA, h]
      rw [hd, hf, List.length_cons, List.length_cons, ← ih h2]; omega
theorem put_len_new (l : List Thg) (x : Thg) (hu : Uniq l) : (putT l x).length = l.length + (if (findT l x.id).isNone = true then 1 else 0) := by
  have h1 := put_len l x
  have h2 := drop_len l x.id hu
  rw [h1, ← h2]
  cases findT l x.id <;> simp
theorem find_head (a : Thg) (l : List Thg) : findT (a :: l) a.id = some 0 := by simp [findT, findA]
theorem find_tail (a : Thg) (l : List Thg) (hu : Uniq (a :: l)) : findT l a.id = none :=
  (find_mem l a.id).2 fun t ht e => (List.pairwise_cons.1 hu).1 t ht e.symm
theorem ids_drop (l : List Thg) (id : Int) : idsT (dropT l id) = (idsT l).filter (· != id) := by
  unfold idsT dropT
  rw [List.filter_map]
  rfl
end Go.Proofs.YtgooepfhapaenaaGreat
/- Plain facts on heaps that lie in a row: no Go in sight. Conditions: none. -/
namespace Go.Proofs.YtgooepfhapaenaaGreat
open Go.RowKit
set_option linter.unusedVariables false
set_option linter.unusedSimpArgs false

/-! ### The order -/
theorem ahead_iff (x y : Thg) : aheadT x y = true ↔ lessB x.key y.key = true ∨ (x.key = y.key ∧ x.id < y.id) := by
  unfold aheadT
  rw [Bool.or_eq_true, Bool.and_eq_true, eq3_iff, decide_eq_true_iff]
theorem v3_ext {v u : V3} (h1 : v.a = u.a) (h2 : v.b = u.b) (h3 : v.c = u.c) : v = u := by cases v; cases u; simp_all
theorem ahead_lex (x y : Thg) : aheadT x y = true ↔ x.key.a < y.key.a ∨ (x.key.a = y.key.a ∧ (x.key.b < y.key.b ∨ (x.key.b = y.key.b ∧ (x.key.c < y.key.c ∨ (x.key.c = y.key.c ∧ x.id < y.id))))) := by
  rw [ahead_iff, lessB_iff]
  constructor
  · rintro (h | ⟨h, hi⟩)
    · omega
    · rw [h]; omega
  · intro h
    by_cases hk : x.key.a = y.key.a ∧ x.key.b = y.key.b ∧ x.key.c = y.key.c
    · exact .inr ⟨v3_ext hk.1 hk.2.1 hk.2.2, by omega⟩
    · exact .inl (by omega)
theorem ahead_self (x : Thg) : aheadT x x = false := by
  cases h : aheadT x x
  · rfl
  · rw [ahead_lex] at h; omega
theorem ahead_trans {x y z : Thg} (h1 : aheadT x y = true) (h2 : aheadT y z = true) : aheadT x z = true := by
  rw [ahead_lex] at *; omega
theorem ahead_asymm {x y : Thg} (h : aheadT x y = true) : aheadT y x = false := by
  cases h2 : aheadT y x
  · rfl
  · have := ahead_trans h h2; rw [ahead_self] at this; cases this
theorem ahead_total {x y : Thg} (h1 : aheadT x y = false) (h2 : aheadT y x = false) : x = y := by
  have h1' : ¬ aheadT x y = true := by rw [h1]; exact Bool.false_ne_true
  have h2' : ¬ aheadT y x = true := by rw [h2]; exact Bool.false_ne_true
  rw [ahead_lex] at h1' h2'
  cases x with | mk i k => cases y with | mk j u =>
  dsimp only at h1' h2'
  have : k = u := v3_ext (by omega) (by omega) (by omega)
  subst this
  have : i = j := by omega
  rw [this]
/-- Not behind. -/
def leT (x y : Thg) : Prop := aheadT y x = false
theorem leT_trans {x y z : Thg} (h1 : leT x y) (h2 : leT y z) : leT x z := by
  unfold leT at *
  cases h : aheadT z x
  · rfl
  · cases hxy : aheadT x y
    · have := ahead_total hxy h1; subst this; rw [h2] at h; cases h
    · have := ahead_trans h hxy; rw [h2] at this; cases this
theorem leT_of {x y : Thg} (h : aheadT x y = true) : leT x y := ahead_asymm h
theorem leT_refl (x : Thg) : leT x x := ahead_self x

/-! ### The row -/
def nth (l : List Thg) (i : Nat) : Thg := l.getD i ⟨0, zero3⟩
theorem nth_eq (l : List Thg) (i : Nat) (h : i < l.length) : nth l i = l[i] := by simp [nth, h]
theorem nth_mem (l : List Thg) (i : Nat) (h : i < l.length) : nth l i ∈ l := by rw [nth_eq l i h]; exact List.getElem_mem h
theorem mem_nth {l : List Thg} {t : Thg} (h : t ∈ l) : ∃ i, i < l.length ∧ nth l i = t := by
  obtain ⟨i, hi, e⟩ := List.getElem_of_mem h
  exact ⟨i, hi, by rw [nth_eq l i hi]; exact e⟩
theorem nth_set (l : List Thg) (i j : Nat) (x : Thg) (h : i < l.length) : nth (l.set i x) j = if i = j then x else nth l j := by
  unfold nth
  rw [List.getD_eq_getElem?_getD, List.getElem?_set, List.getD_eq_getElem?_getD]
  by_cases e : i = j
  · subst e; simp [h]
  · simp [e]
theorem nth_append (l : List Thg) (x : Thg) (j : Nat) : nth (l ++ [x]) j = if j = l.length then x else nth l j := by
  unfold nth
  rw [List.getD_eq_getElem?_getD, List.getD_eq_getElem?_getD]
  by_cases e : j = l.length
  · subst e; simp
  · rw [if_neg e]
    by_cases h : j < l.length
    · rw [List.getElem?_append_left h]
    · rw [List.getElem?_eq_none (by simp; omega), List.getElem?_eq_none (by omega)]
theorem nth_take (l : List Thg) (k j : Nat) (h : j < k) : nth (l.take k) j = nth l j := by
  unfold nth
  rw [List.getD_eq_getElem?_getD, List.getD_eq_getElem?_getD, List.getElem?_take, if_pos h]
def up (i : Nat) : Nat := (i - 1) / 2
theorem up_lt {i : Nat} (h : 0 < i) : up i < i := by unfold up; omega
def HeapOK (l : List Thg) : Prop := ∀ i, 0 < i → i < l.length → leT (nth l (up i)) (nth l i)
/-- A heap, but for what touches the gap. -/
structure Hole (l : List Thg) (g : Nat) : Prop where
  far : ∀ i, 0 < i → i < l.length → i ≠ g → up i ≠ g → leT (nth l (up i)) (nth l i)
  near : ∀ c, 0 < c → c < l.length → up c = g → 0 < g → leT (nth l (up g)) (nth l c)
theorem Hole.of_heap {l : List Thg} (h : HeapOK l) (g : Nat) : Hole l g :=
  ⟨fun i h0 hi _ _ => h i h0 hi, fun c h0 hc hu hg => by
    have h1 := h c h0 hc
    rw [hu] at h1
    exact leT_trans (h g hg (by have := up_lt h0; omega)) h1⟩
theorem Hole.grow {l : List Thg} (h : HeapOK l) (x : Thg) : Hole (l ++ [x]) l.length :=
  ⟨fun i h0 hi hg hu => by
    simp at hi
    have := up_lt h0
    rw [nth_append, nth_append, if_neg hu, if_neg hg]
    exact h i h0 (by omega), fun c h0 hc hu hg => by
    simp at hc
    have := up_lt h0
    omega⟩
theorem HeapOK.take {l : List Thg} (h : HeapOK l) (k : Nat) : HeapOK (l.take k) := fun i h0 hi => by
  rw [List.length_take] at hi
  have := up_lt h0
  rw [nth_take _ _ _ (by omega), nth_take _ _ _ (by omega)]
  exact h i h0 (by omega)
theorem Hole.up {l : List Thg} {g : Nat} (h : Hole l g) (h0 : 0 < g) (hg : g < l.length) : Hole (l.set g (nth l (up g))) (up g) := by
  have hug := up_lt h0
  refine ⟨fun i hi hl h1 h2 => ?_, fun c hc hl hu hp => ?_⟩
  · rw [List.length_set] at hl
    have hui := up_lt hi
    have hig : ¬ g = i := fun e => by subst e; exact h2 rfl
    rw [nth_set _ _ _ _ hg, nth_set _ _ _ _ hg, if_neg hig]
    by_cases e : g = Go.Proofs.YtgooepfhapaenaaGreat.up i
    · rw [if_pos e]; exact h.near i hi hl e.symm h0
    · rw [if_neg e]; exact h.far i hi hl (fun e => hig e.symm) (fun q => e q.symm)
  · rw [List.length_set] at hl
    have huc := up_lt hc
    have hpp := up_lt hp
    rw [nth_set _ _ _ _ hg, nth_set _ _ _ _ hg, if_neg (by omega)]
    have h1 := h.far (Go.Proofs.YtgooepfhapaenaaGreat.up g) hp (by omega) (by omega) (by omega)
    by_cases e : g = c
    · rw [if_pos e]; exact h1
    · rw [if_neg e]
      have h2 := h.far c hc hl (fun q => e q.symm) (by omega)
      rw [hu] at h2
      exact leT_trans h1 h2
theorem Hole.down {l : List Thg} {g a : Nat} (h : Hole l g) (ha : 0 < a) (hl : a < l.length) (hu : Go.Proofs.YtgooepfhapaenaaGreat.up a = g) (hm : ∀ c, 0 < c → c < l.length → Go.Proofs.YtgooepfhapaenaaGreat.up c = g → leT (nth l a) (nth l c)) : Hole (l.set g (nth l a)) a := by
  have hag := up_lt ha
  have hg : g < l.length := by omega
  refine ⟨fun i hi hil h1 h2 => ?_, fun c hc hcl huc hp => ?_⟩
  · rw [List.length_set] at hil
    have hui := up_lt hi
    rw [nth_set _ _ _ _ hg, nth_set _ _ _ _ hg]
    by_cases e : g = Go.Proofs.YtgooepfhapaenaaGreat.up i
    · rw [if_pos e, if_neg (by omega)]; exact hm i hi hil e.symm
    · rw [if_neg e]
      by_cases e2 : g = i
      · rw [if_pos e2, ← e2]; exact h.near a ha hl hu (by omega)
      · rw [if_neg e2]; exact h.far i hi hil (fun q => e2 q.symm) (fun q => e q.symm)
  · rw [List.length_set] at hcl
    have hcc := up_lt hc
    rw [nth_set _ _ _ _ hg, nth_set _ _ _ _ hg, if_pos hu.symm, if_neg (by omega)]
    have := h.far c hc hcl (by omega) (by omega)
    rw [huc] at this
    exact this
theorem Hole.fill {l : List Thg} {g : Nat} {x : Thg} (h : Hole l g) (hg : g < l.length) (h1 : 0 < g → leT (nth l (Go.Proofs.YtgooepfhapaenaaGreat.up g)) x) (h2 : ∀ c, 0 < c → c < l.length → Go.Proofs.YtgooepfhapaenaaGreat.up c = g → leT x (nth l c)) : HeapOK (l.set g x) := by
  intro i hi hil
  rw [List.length_set] at hil
  have hui := up_lt hi
  rw [nth_set _ _ _ _ hg, nth_set _ _ _ _ hg]
  by_cases e : g = i
  · subst e
    rw [if_pos rfl, if_neg (by omega)]; exact h1 hi
  · rw [if_neg e]
    by_cases e2 : g = Go.Proofs.YtgooepfhapaenaaGreat.up i
    · rw [if_pos e2]; exact h2 i hi hil e2.symm
    · rw [if_neg e2]; exact h.far i hi hil (fun q => e q.symm) (fun q => e2 q.symm)
theorem HeapOK.top {l : List Thg} (h : HeapOK l) (i : Nat) (hi : i < l.length) : leT (nth l 0) (nth l i) := by
  induction i using Nat.strongRecOn with
  | _ i ih =>
    by_cases h0 : i = 0
    · subst h0; exact leT_refl _
    · have := up_lt (i := i) (by omega)
      exact leT_trans (ih _ this (by omega)) (h i (by omega) hi)

/-! ### What lies in it -/
def restT (l : List Thg) (g : Nat) : List Thg := l.take g ++ l.drop (g + 1)
theorem split_at (l : List Thg) (g : Nat) (h : g < l.length) : l = l.take g ++ nth l g :: l.drop (g + 1) := by
  rw [nth_eq l g h, List.getElem_cons_drop, List.take_append_drop]
theorem self_rest (l : List Thg) (g : Nat) (h : g < l.length) : l.Perm (nth l g :: restT l g) := by
  have h1 : (l.take g ++ nth l g :: l.drop (g + 1)).Perm (nth l g :: restT l g) := List.perm_middle
  rwa [← split_at l g h] at h1
theorem set_rest (l : List Thg) (g : Nat) (x : Thg) (h : g < l.length) : (l.set g x).Perm (x :: restT l g) := by
  rw [List.set_eq_take_append_cons_drop, if_pos h]
  exact List.perm_middle
theorem perm_hole (l : List Thg) (g p : Nat) (x : Thg) (hg : g < l.length) (hp : p < l.length) (hne : g ≠ p) : ((l.set g (nth l p)).set p x).Perm (l.set g x) := by
  have h1 := self_rest (l.set g (nth l p)) p (by simpa using hp)
  rw [nth_set _ _ _ _ hg, if_neg hne] at h1
  have h2 := set_rest l g (nth l p) hg
  have h3 := (List.perm_cons _).1 (h1.symm.trans h2)
  exact (set_rest _ p x (by simpa using hp)).trans ((h3.cons x).trans (set_rest l g x hg).symm)
theorem uniq_perm {l r : List Thg} (h : l.Perm r) (hu : Uniq l) : Uniq r := by
  unfold Uniq at *
  exact (h.pairwise_iff (R := fun x y : Thg => x.id ≠ y.id) (fun {a b} e => e.symm)).1 hu
theorem uniq_mem {l : List Thg} (hu : Uniq l) {s t : Thg} (hs : s ∈ l) (ht : t ∈ l) (he : s.id = t.id) : s = t := by
  induction l with
  | nil => cases hs
  | cons a l ih =>
    obtain ⟨h1, h2⟩ := List.pairwise_cons.1 hu
    rcases List.mem_cons.1 hs with rfl | hs'
    · rcases List.mem_cons.1 ht with rfl | ht'
      · rfl
      · exact absurd he (h1 t ht')
    · rcases List.mem_cons.1 ht with rfl | ht'
      · exact absurd he.symm (h1 s hs')
      · exact ih h2 hs' ht'
theorem uniq_nth {l : List Thg} (hu : Uniq l) {i j : Nat} (hi : i < l.length) (hj : j < l.length) (he : (nth l i).id = (nth l j).id) : i = j := by
  have h := List.pairwise_iff_getElem.1 hu
  rw [nth_eq l i hi, nth_eq l j hj] at he
  rcases Nat.lt_trichotomy i j with hij | hij | hij
  · exact absurd he (h i j hi hj hij)
  · exact hij
  · exact absurd he.symm (h j i hj hi hij)
theorem drop_rest {l : List Thg} (hu : Uniq l) {g : Nat} (hg : g < l.length) {id : Int} (he : (nth l g).id = id) : dropT l id = restT l g := by
  have hs := split_at l g hg
  have hu2 := hu
  rw [hs] at hu2
  obtain ⟨_, u2, u3⟩ := List.pairwise_append.1 hu2
  have e : dropT (l.take g ++ nth l g :: l.drop (g + 1)) id = restT l g := by
    unfold dropT restT
    rw [List.filter_append, List.filter_cons]
    have h0 : ((nth l g).id != id) = false := by simp [he]
    rw [h0]
    congr 1
    · rw [List.filter_eq_self]
      intro t ht
      have := u3 t ht (nth l g) (by simp)
      rw [he] at this
      simpa using this
    · rw [if_neg (by simp), List.filter_eq_self]
      intro t ht
      have := (List.pairwise_cons.1 u2).1 t ht
      rw [he] at this
      simpa using fun q => this q.symm
  rw [hs]
  rw [e, ← hs]
/-! ### Where each stands -/
abbrev PosM := Int → Option Nat
def setM (m : PosM) (id : Int) (k : Nat) : PosM := fun i => if i = id then some k else m i
def delM (m : PosM) (id : Int) : PosM := fun i => if i = id then none else m i
structure MapR (m : PosM) (l : List Thg) (g : Nat) (x : Thg) : Prop where
  at_ : ∀ j, j < l.length → j ≠ g → m (nth l j).id = some j
  none : ∀ id, (∀ t ∈ l.set g x, t.id ≠ id) → m id = none
structure MapOK (m : PosM) (l : List Thg) : Prop where
  at_ : ∀ j, j < l.length → m (nth l j).id = some j
  none : ∀ id, (∀ t ∈ l, t.id ≠ id) → m id = none
theorem nth_set_mem (l : List Thg) (g j : Nat) (x : Thg) (hj : j < l.length) (hne : j ≠ g) : nth l j ∈ l.set g x := by
  rw [List.mem_iff_getElem]
  exact ⟨j, by simpa using hj, by rw [List.getElem_set_ne (fun e => hne e.symm), nth_eq l j hj]⟩
theorem MapR.move {m : PosM} {l : List Thg} {g p : Nat} {x : Thg} (h : MapR m l g x) (hu : Uniq (l.set g x)) (hg : g < l.length) (hp : p < l.length) (hne : g ≠ p) : MapR (setM m (nth l p).id g) (l.set g (nth l p)) p x := by
  refine ⟨fun j hj hjp => ?_, fun id hid => ?_⟩
  · rw [List.length_set] at hj
    rw [nth_set _ _ _ _ hg]
    unfold setM
    by_cases e : g = j
    · subst e; rw [if_pos rfl, if_pos rfl]
    · rw [if_neg e]
      have hne' : (nth l j).id ≠ (nth l p).id := fun q => by
        have h1 := uniq_nth hu (i := j) (j := p) (by simpa using hj) (by simpa using hp) (by rw [nth_set _ _ _ _ hg, nth_set _ _ _ _ hg, if_neg e, if_neg hne]; exact q)
        exact hjp h1
      rw [if_neg hne']
      exact h.at_ j hj (fun q => e q.symm)
  · have hpm := perm_hole l g p x hg hp hne
    have hid' : ∀ t ∈ l.set g x, t.id ≠ id := fun t ht => hid t (hpm.mem_iff.2 ht)
    unfold setM
    rw [if_neg (fun e => hid' _ (nth_set_mem l g p x hp (fun q => hne q.symm)) e.symm)]
    exact h.none id hid'
theorem MapR.fill {m : PosM} {l : List Thg} {g : Nat} {x : Thg} (h : MapR m l g x) (hu : Uniq (l.set g x)) (hg : g < l.length) : MapOK (setM m x.id g) (l.set g x) := by
  refine ⟨fun j hj => ?_, fun id hid => ?_⟩
  · rw [List.length_set] at hj
    rw [nth_set _ _ _ _ hg]
    unfold setM
    by_cases e : g = j
    · subst e; rw [if_pos rfl, if_pos rfl]
    · rw [if_neg e]
      have hne : (nth l j).id ≠ x.id := fun q => by
        have h1 := uniq_nth hu (i := j) (j := g) (by simpa using hj) (by simpa using hg) (by rw [nth_set _ _ _ _ hg, nth_set _ _ _ _ hg, if_neg e, if_pos rfl]; exact q)
        exact e h1.symm
      rw [if_neg hne]
      exact h.at_ j hj (fun q => e q.symm)
  · unfold setM
    rw [if_neg (fun e => hid x (List.mem_iff_getElem.2 ⟨g, by simpa using hg, by simp⟩) e.symm)]
    exact h.none id hid
theorem MapOK.hole {m : PosM} {l : List Thg} (h : MapOK m l) {g : Nat} (hg : g < l.length) {x : Thg} (he : x.id = (nth l g).id) : MapR m l g x :=
  ⟨fun j hj _ => h.at_ j hj, fun id hid => h.none id fun t ht => by
    rcases List.mem_cons.1 ((self_rest l g hg).mem_iff.1 ht) with rfl | ht'
    · rw [← he]; exact hid x ((set_rest l g x hg).mem_iff.2 (by simp))
    · exact hid t ((set_rest l g x hg).mem_iff.2 (by simp [ht']))⟩
theorem set_len (l : List Thg) (z x : Thg) : (l ++ [z]).set l.length x = l ++ [x] := by
  rw [List.set_append_right _ _ (Nat.le_refl _)]; simp
theorem MapOK.grow {m : PosM} {l : List Thg} (h : MapOK m l) (z x : Thg) : MapR m (l ++ [z]) l.length x :=
  ⟨fun j hj hne => by
    simp at hj
    rw [nth_append, if_neg hne]; exact h.at_ j (by omega), fun id hid => h.none id fun t ht => hid t (by rw [set_len]; simp [ht])⟩
/-- The last one goes. -/
theorem MapOK.pop {m : PosM} {l : List Thg} {n : Nat} (h : MapOK m l) (hu : Uniq l) (hn : l.length = n + 1) {id : Int} (he : (nth l n).id = id) : MapOK (delM m id) (l.take n) := by
  have hr : restT l n = l.take n := by unfold restT; rw [List.drop_eq_nil_of_le (by omega)]; simp
  refine ⟨fun j hj => ?_, fun i hi => ?_⟩
  · rw [List.length_take] at hj
    rw [nth_take _ _ _ (by omega)]
    unfold delM
    rw [if_neg (fun q => by have := uniq_nth hu (i := j) (j := n) (by omega) (by omega) (q.trans he.symm); omega)]
    exact h.at_ j (by omega)
  · unfold delM
    split
    · rfl
    · rename_i hne
      refine h.none i fun t ht q => ?_
      rcases List.mem_cons.1 ((self_rest l n (by omega)).mem_iff.1 ht) with rfl | ht'
      · exact hne (q.symm.trans he)
      · rw [hr] at ht'; exact hi t ht' q
/-- One in the midst goes, the last one is to fill its gap. -/
theorem set_take_rest (l : List Thg) (n g : Nat) (hn : l.length = n + 1) (hg : g < n) : ((l.take n).set g (nth l n)).Perm (restT l g) := by
  have h1 := set_rest (l.take n) g (nth l n) (by simp; omega)
  have h2 := self_rest l n (by omega)
  have hr : restT l n = l.take n := by unfold restT; rw [List.drop_eq_nil_of_le (by omega)]; simp
  rw [hr] at h2
  have h3 := self_rest (l.take n) g (by simp; omega)
  rw [nth_take _ _ _ hg] at h3
  have h4 := self_rest l g (by omega)
  have h5 : (nth l g :: restT l g).Perm (nth l g :: nth l n :: restT (l.take n) g) :=
    h4.symm.trans (h2.trans ((h3.cons (nth l n)).trans (List.Perm.swap _ _ _)))
  exact h1.trans ((List.perm_cons _).1 h5).symm
theorem MapOK.fall {m : PosM} {l : List Thg} {n g : Nat} (h : MapOK m l) (hu : Uniq l) (hn : l.length = n + 1) (hg : g < n) {id : Int} (he : (nth l g).id = id) : MapR (delM m id) (l.take n) g (nth l n) := by
  refine ⟨fun j hj hne => ?_, fun i hi => ?_⟩
  · rw [List.length_take] at hj
    rw [nth_take _ _ _ (by omega)]
    unfold delM
    rw [if_neg (fun q => hne (uniq_nth hu (i := j) (j := g) (by omega) (by omega) (q.trans he.symm)))]
    exact h.at_ j (by omega)
  · unfold delM
    split
    · rfl
    · rename_i hne
      refine h.none i fun t ht q => ?_
      rcases List.mem_cons.1 ((self_rest l g (by omega)).mem_iff.1 ht) with rfl | ht'
      · exact hne (q.symm.trans he)
      · exact hi t ((set_take_rest l n g hn hg).mem_iff.2 ht') q
theorem uniq_rest {l : List Thg} (hu : Uniq l) {g : Nat} (hg : g < l.length) : Uniq (restT l g) :=
  (List.pairwise_cons.1 (uniq_perm (self_rest l g hg) hu)).2
/-! ### The row in heap order against the sorted one -/
theorem find_perm {l r : List Thg} (h : l.Perm r) (id : Int) : (findT l id).isSome = (findT r id).isSome := by
  have e : ∀ s : List Thg, (findT s id).isSome = false ↔ ∀ t ∈ s, t.id ≠ id := fun s => by
    rw [← find_mem]; cases findT s id <;> simp
  cases h1 : (findT l id).isSome <;> cases h2 : (findT r id).isSome
  · rfl
  · exact absurd ((e r).2 fun t ht => (e l).1 h1 t (h.mem_iff.2 ht)) (by rw [h2]; simp)
  · exact absurd ((e l).2 fun t ht => (e r).1 h2 t (h.mem_iff.1 ht)) (by rw [h1]; simp)
  · rfl
theorem MapOK.find {m : PosM} {l : List Thg} (h : MapOK m l) (id : Int) : (m id = Option.none ∧ findT l id = Option.none) ∨ ∃ k, m id = some k ∧ k < l.length ∧ (nth l k).id = id := by
  by_cases hx : ∃ t ∈ l, t.id = id
  · obtain ⟨t, ht, rfl⟩ := hx
    obtain ⟨k, hk, rfl⟩ := mem_nth ht
    exact .inr ⟨k, h.at_ k hk, hk, rfl⟩
  · have hx' : ∀ t ∈ l, t.id ≠ id := fun t ht e => hx ⟨t, ht, e⟩
    exact .inl ⟨h.none id hx', (find_mem l id).2 hx'⟩
theorem drop_perm {l r : List Thg} (h : l.Perm r) (id : Int) : (dropT l id).Perm (dropT r id) := h.filter _
theorem put_perm (l : List Thg) (x : Thg) : (putT l x).Perm (x :: dropT l x.id) := by
  obtain ⟨a, b, h1, h2⟩ := put_split l x
  rw [h1, h2]; exact List.perm_middle
end Go.Proofs.YtgooepfhapaenaaGreat
/- A stable sort by inserting, and merging, of lists: plain. Conditions: as stated. -/
namespace Go.Proofs.YtgooepfhapaenaaGreat
open Go.Sort (swp insInner insOuter insertionSort SWO)
set_option linter.unusedVariables false
set_option linter.unusedSimpArgs false
set_option linter.unusedSectionVars false

section
variable {α : Type} (lt : α → α → Bool)
/-- y behind those that it is not ahead of. -/
def ins (y : α) : List α → List α
  | [] => [y]
  | z :: l => if lt y z then y :: z :: l else z :: ins y l
/-- One by one. -/
def stb (l : List α) : List α := l.foldl (fun acc x => ins lt x acc) []
/-- Two together, the left ones first where neither is ahead. -/
def mrg : List α → List α → List α
  | [], ys => ys
  | x :: xs, [] => x :: xs
  | x :: xs, y :: ys => if lt y x then y :: mrg (x :: xs) ys else x :: mrg xs (y :: ys)
termination_by a b => a.length + b.length
/-- In order. -/
def Asc (l : List α) : Prop := l.Pairwise (fun x y => lt y x = false)
variable {lt}
@[simp] theorem mrg_nil (l : List α) : mrg lt [] l = l := by rw [mrg]
@[simp] theorem mrg_nil2 (l : List α) : mrg lt l [] = l := by cases l <;> rw [mrg]
theorem mrg_cons (x y : α) (xs ys : List α) : mrg lt (x :: xs) (y :: ys) = if lt y x then y :: mrg lt (x :: xs) ys else x :: mrg lt xs (y :: ys) := by rw [mrg]
theorem ins_len (y : α) (l : List α) : (ins lt y l).length = l.length + 1 := by
  induction l with
  | nil => rfl
  | cons z l ih => unfold ins; split <;> simp [ih]
theorem mrg_len : ∀ (k : Nat) (a b : List α), a.length + b.length ≤ k → (mrg lt a b).length = a.length + b.length := by
  intro k
  induction k with
  | zero => intro a b h; obtain rfl := List.eq_nil_of_length_eq_zero (show a.length = 0 by omega); simp
  | succ k ih =>
    intro a b h
    cases a with
    | nil => simp
    | cons x a =>
      cases b with
      | nil => simp
      | cons y b =>
        rw [mrg_cons]
        simp only [List.length_cons] at h ⊢
        split
        · rw [List.length_cons, ih _ _ (by simp only [List.length_cons]; omega)]; simp only [List.length_cons]; omega
        · rw [List.length_cons, ih _ _ (by simp only [List.length_cons]; omega)]; simp only [List.length_cons]; omega
theorem mrg_length (a b : List α) : (mrg lt a b).length = a.length + b.length := mrg_len _ a b (Nat.le_refl _)
/-- TWO SPLIT ROWS, part by part. -/
theorem mrg_split (k : Nat) : ∀ (L1 R1 L2 R2 : List α), L1.length + R1.length ≤ k → (∀ x ∈ L2, ∀ y ∈ R1, lt y x = true) → (∀ x ∈ L1, ∀ y ∈ R2, lt y x = false) → mrg lt (L1 ++ L2) (R1 ++ R2) = mrg lt L1 R1 ++ mrg lt L2 R2 := by
  induction k with
  | zero =>
    intro L1 R1 L2 R2 h _ _
    obtain rfl := List.eq_nil_of_length_eq_zero (show L1.length = 0 by omega)
    obtain rfl := List.eq_nil_of_length_eq_zero (show R1.length = 0 by omega)
    simp
  | succ k ih =>
    intro L1 R1 L2 R2 h h1 h2
    cases L1 with
    | nil =>
      cases R1 with
      | nil => simp
      | cons y R1 =>
        cases L2 with
        | nil => simp
        | cons x L2 =>
          have e := ih [] R1 (x :: L2) R2 (by simp only [List.length_cons, List.length_nil] at h ⊢; omega) (fun u hu v hv => h1 u hu v (List.mem_cons_of_mem _ hv)) (fun u hu => by cases hu)
          simp only [List.nil_append, mrg_nil] at e ⊢
          rw [List.cons_append, mrg_cons, if_pos (h1 x (List.mem_cons_self ..) y (List.mem_cons_self ..)), e]
          rfl
    | cons x L1 =>
      cases R1 with
      | nil =>
        cases R2 with
        | nil => simp
        | cons y R2 =>
          have e := ih L1 [] L2 (y :: R2) (by simp only [List.length_cons, List.length_nil] at h ⊢; omega) (fun u hu v hv => by cases hv) (fun u hu v hv => h2 u (List.mem_cons_of_mem _ hu) v hv)
          simp only [List.nil_append, mrg_nil2] at e ⊢
          rw [List.cons_append, mrg_cons, if_neg (by rw [h2 x (List.mem_cons_self ..) y (List.mem_cons_self ..)]; exact Bool.false_ne_true), e]
          rfl
      | cons y R1 =>
        simp only [List.cons_append]
        rw [mrg_cons, mrg_cons]
        split
        · have e := ih (x :: L1) R1 L2 R2 (by simp only [List.length_cons] at h ⊢; omega) (fun u hu v hv => h1 u hu v (List.mem_cons_of_mem _ hv)) h2
          rw [List.cons_append] at e; rw [e]; rfl
        · have e := ih L1 (y :: R1) L2 R2 (by simp only [List.length_cons] at h ⊢; omega) h1 (fun u hu v hv => h2 u (List.mem_cons_of_mem _ hu) v hv)
          rw [List.cons_append] at e; rw [e]; rfl
theorem mrg_parts (L1 R1 L2 R2 : List α) (h1 : ∀ x ∈ L2, ∀ y ∈ R1, lt y x = true) (h2 : ∀ x ∈ L1, ∀ y ∈ R2, lt y x = false) : mrg lt (L1 ++ L2) (R1 ++ R2) = mrg lt L1 R1 ++ mrg lt L2 R2 := mrg_split _ L1 R1 L2 R2 (Nat.le_refl _) h1 h2
theorem mrg_one (x : α) (R1 R2 : List α) (h1 : ∀ y ∈ R1, lt y x = true) (h2 : ∀ y ∈ R2, lt y x = false) : mrg lt [x] (R1 ++ R2) = R1 ++ x :: R2 := by
  have e := mrg_parts (lt := lt) [] R1 [x] R2 (fun u hu v hv => by rw [List.mem_singleton] at hu; subst hu; exact h1 v hv) (fun u hu => by cases hu)
  rw [List.nil_append, mrg_nil] at e
  rw [e]
  cases R2 with
  | nil => simp
  | cons y R2 => rw [mrg_cons, if_neg (by rw [h2 y (List.mem_cons_self ..)]; exact Bool.false_ne_true), mrg_nil]
theorem mrg_one2 (y : α) (L1 L2 : List α) (h1 : ∀ x ∈ L2, lt y x = true) (h2 : ∀ x ∈ L1, lt y x = false) : mrg lt (L1 ++ L2) [y] = L1 ++ y :: L2 := by
  have e := mrg_parts (lt := lt) L1 [] L2 [y] (fun u hu v hv => by cases hv) (fun u hu v hv => by rw [List.mem_singleton] at hv; subst hv; exact h2 u hu)
  rw [List.nil_append, mrg_nil2] at e
  rw [e]
  cases L2 with
  | nil => simp
  | cons x L2 => rw [mrg_cons, if_pos (h1 x (List.mem_cons_self ..)), mrg_nil2]
theorem ins_mem (y z : α) (l : List α) : z ∈ ins lt y l ↔ z = y ∨ z ∈ l := by
  induction l with
  | nil => simp [ins]
  | cons u l ih =>
    unfold ins
    split
    · simp
    · rw [List.mem_cons, ih, List.mem_cons]
      constructor
      · rintro (h | h | h) <;> simp [h]
      · rintro (h | h | h) <;> simp [h]
theorem ins_perm (y : α) (l : List α) : (ins lt y l).Perm (y :: l) := by
  induction l with
  | nil => exact .refl _
  | cons u l ih =>
    unfold ins
    split
    · exact .refl _
    · exact (ih.cons u).trans (.swap y u l)
theorem ins_at (y : α) (A B : List α) (h1 : ∀ a ∈ A, lt y a = false) (h2 : ∀ b ∈ B, lt y b = true) : ins lt y (A ++ B) = A ++ y :: B := by
  induction A with
  | nil =>
    cases B with
    | nil => rfl
    | cons b B => show ins lt y (b :: B) = y :: b :: B; unfold ins; rw [if_pos (h2 b (List.mem_cons_self ..))]
  | cons a A ih =>
    rw [List.cons_append]
    unfold ins
    rw [if_neg (by rw [h1 a (List.mem_cons_self ..)]; exact Bool.false_ne_true), ih (fun u hu => h1 u (List.mem_cons_of_mem _ hu))]
    rfl
theorem ins_end (y s : α) (S : List α) (h : lt y s = true) : ins lt y (S ++ [s]) = ins lt y S ++ [s] := by
  induction S with
  | nil => simp [ins, h]
  | cons z S ih => rw [List.cons_append]; unfold ins; split
                   · rfl
                   · rw [ih]; rfl
variable (hO : SWO lt)
include hO
theorem asc_ins (y : α) (l : List α) (h : Asc lt l) : Asc lt (ins lt y l) := by
  induction l with
  | nil => simp [ins, Asc]
  | cons z l ih =>
    unfold Asc at h ih ⊢
    rw [List.pairwise_cons] at h
    unfold ins
    cases hc : lt y z
    · rw [if_neg Bool.false_ne_true, List.pairwise_cons]
      refine ⟨fun u hu => ?_, ih h.2⟩
      rcases (ins_mem y u l).1 hu with rfl | hu
      · exact hc
      · exact h.1 u hu
    · rw [if_pos rfl, List.pairwise_cons, List.pairwise_cons]
      refine ⟨fun u hu => ?_, h.1, h.2⟩
      have hyz : lt z y = false := by
        cases hq : lt z y
        · rfl
        · have := hO.trans _ _ _ hc hq; rw [hO.irrefl] at this; cases this
      rcases List.mem_cons.1 hu with rfl | hu
      · exact hyz
      · exact hO.ntrans _ _ _ (h.1 u hu) hyz
theorem asc_fold (l acc : List α) (h : Asc lt acc) : Asc lt (l.foldl (fun acc x => ins lt x acc) acc) := by
  induction l generalizing acc with
  | nil => exact h
  | cons x l ih => exact ih _ (asc_ins hO x acc h)
theorem asc_stb (l : List α) : Asc lt (stb lt l) := asc_fold hO l [] List.Pairwise.nil
omit hO in
theorem stb_append (l : List α) (y : α) : stb lt (l ++ [y]) = ins lt y (stb lt l) := by unfold stb; rw [List.foldl_append]; rfl
omit hO in
theorem stb_len (l : List α) : (stb lt l).length = l.length := by
  unfold stb
  suffices ∀ (l acc : List α), (l.foldl (fun acc x => ins lt x acc) acc).length = acc.length + l.length by simpa using this l []
  intro l
  induction l with
  | nil => intro acc; rfl
  | cons x l ih => intro acc; rw [List.foldl_cons, ih, ins_len, List.length_cons]; omega
omit hO in
theorem stb_perm (l : List α) : (stb lt l).Perm l := by
  unfold stb
  suffices ∀ (l acc : List α), (l.foldl (fun acc x => ins lt x acc) acc).Perm (acc ++ l) by simpa using this l []
  intro l
  induction l with
  | nil => intro acc; rw [List.append_nil]; exact .refl _
  | cons x l ih =>
    intro acc
    refine (ih _).trans ?_
    refine ((ins_perm x acc).append_right l).trans ?_
    rw [List.cons_append]
    exact (List.perm_middle (a := x) (l₁ := acc) (l₂ := l)).symm
theorem ins_mrg (y : α) : ∀ (k : Nat) (X Z : List α), X.length + Z.length ≤ k → ins lt y (mrg lt X Z) = mrg lt X (ins lt y Z) := by
  intro k
  induction k with
  | zero =>
    intro X Z h
    obtain rfl := List.eq_nil_of_length_eq_zero (show X.length = 0 by omega)
    simp
  | succ k ih =>
    intro X Z h
    cases X with
    | nil => simp
    | cons x X =>
      cases Z with
      | nil =>
        rw [mrg_nil2]
        show ins lt y (x :: X) = mrg lt (x :: X) [y]
        rw [mrg_cons]; unfold ins
        cases hyx : lt y x
        · rw [if_neg Bool.false_ne_true, if_neg Bool.false_ne_true]
          have := ih X [] (by simp only [List.length_cons, List.length_nil] at h ⊢; omega)
          rw [mrg_nil2] at this; rw [this]; rfl
        · rw [if_pos rfl, if_pos rfl, mrg_nil2]
      | cons z Z =>
        simp only [List.length_cons] at h
        have i1 := ih (x :: X) Z (by simp only [List.length_cons]; omega)
        have i2 := ih X (z :: Z) (by simp only [List.length_cons]; omega)
        rw [mrg_cons]
        cases hzx : lt z x
        · rw [if_neg Bool.false_ne_true]
          cases hyx : lt y x
          · rw [ins.eq_2, hyx, if_neg Bool.false_ne_true, i2]
            rw [ins.eq_2]
            cases hyz : lt y z
            · rw [if_neg Bool.false_ne_true, mrg_cons, hzx, if_neg Bool.false_ne_true]
            · rw [if_pos rfl, mrg_cons x, hyx, if_neg Bool.false_ne_true]
          · have hyz : lt y z = true := by
              cases hq : lt y z
              · have := hO.ntrans _ _ _ hq hzx; rw [hyx] at this; cases this
              · rfl
            rw [ins.eq_2, hyx, if_pos rfl, ins.eq_2, hyz, if_pos rfl, mrg_cons, hyx, if_pos rfl, mrg_cons, hzx, if_neg Bool.false_ne_true]
        · rw [if_pos rfl]
          cases hyz : lt y z
          · rw [ins.eq_2, hyz, if_neg Bool.false_ne_true, i1, ins.eq_2, hyz, if_neg Bool.false_ne_true, mrg_cons, hzx, if_pos rfl]
          · have hyx : lt y x = true := hO.trans _ _ _ hyz hzx
            rw [ins.eq_2, hyz, if_pos rfl, ins.eq_2, hyz, if_pos rfl, mrg_cons, hyx, if_pos rfl, mrg_cons, hzx, if_pos rfl]
/-- A SORTED ROW IS THAT OF ITS PARTS, MERGED. -/
theorem stb_mrg (xs ys : List α) : stb lt (xs ++ ys) = mrg lt (stb lt xs) (stb lt ys) := by
  suffices ∀ (k : Nat) (ys : List α), ys.length = k → stb lt (xs ++ ys) = mrg lt (stb lt xs) (stb lt ys) from this _ ys rfl
  intro k
  induction k with
  | zero => intro ys h; obtain rfl := List.eq_nil_of_length_eq_zero h; rw [List.append_nil]; show _ = mrg lt _ []; rw [mrg_nil2]
  | succ k ih =>
    intro ys h
    obtain ⟨y0, y, rfl⟩ : ∃ y0 y, ys = y0 ++ [y] := ⟨ys.dropLast, ys.getLast (by intro e; subst e; cases h), (List.dropLast_concat_getLast _).symm⟩
    rw [← List.append_assoc, stb_append, ih y0 (by simp at h; omega), stb_append, ins_mrg hO y _ _ _ (Nat.le_refl _)]
theorem asc_not (l : List α) (y s : α) (S : List α) (h : Asc lt (S ++ [s])) (hys : lt y s = false) : ∀ x ∈ S ++ [s], lt y x = false := by
  intro x hx
  rcases List.mem_append.1 hx with hx | hx
  · unfold Asc at h
    have := (List.pairwise_append.1 h).2.2 x hx s (List.mem_singleton_self _)
    exact hO.ntrans _ _ _ hys this
  · rw [List.mem_singleton] at hx; subst hx; exact hys
end
section
variable {α : Type} [Inhabited α] {lt : α → α → Bool}
theorem get_at (A : List α) (x : α) (B : List α) (i : Nat) (hi : i = A.length) : (A ++ x :: B).toArray[i]! = x := by
  subst hi; simp
theorem get_in (l : List α) (i : Nat) (hi : i < l.length) : l.toArray[i]! = l[i] := by simp [hi]
theorem swp_list (A : List α) (x : α) (M : List α) (y : α) (B : List α) (i j : Nat) (hi : i = A.length) (hj : j = A.length + 1 + M.length) :
    swp (A ++ x :: M ++ y :: B).toArray i j = (A ++ y :: M ++ x :: B).toArray := by
  have g1 : (A ++ x :: M ++ y :: B).toArray[i]! = x := by rw [List.append_assoc, List.cons_append]; exact get_at _ _ _ _ hi
  have g2 : (A ++ x :: M ++ y :: B).toArray[j]! = y := get_at (A ++ x :: M) y B j (by rw [hj, List.length_append, List.length_cons]; omega)
  unfold swp
  rw [g1, g2, List.setIfInBounds_toArray, List.setIfInBounds_toArray]
  congr 1
  rw [List.append_assoc, List.cons_append, List.set_append_right _ _ (by omega), hi, Nat.sub_self, List.set_cons_zero, ← List.cons_append, ← List.append_assoc, List.set_append_right _ _ (by rw [hj, List.length_append, List.length_cons]; omega), show j - (A ++ y :: M).length = 0 by rw [hj, List.length_append, List.length_cons]; omega, List.set_cons_zero]
theorem swp_list2 (A : List α) (x y : α) (B : List α) (i j : Nat) (hi : i = A.length) (hj : j = A.length + 1) : swp (A ++ x :: y :: B).toArray i j = (A ++ y :: x :: B).toArray := by
  have := swp_list A x [] y B i j hi (by simpa using hj)
  simpa using this
theorem swp_list3 (A : List α) (x y : α) (B : List α) (i j : Nat) (hi : i = A.length + 1) (hj : j = A.length) : swp (A ++ x :: y :: B).toArray i j = (A ++ y :: x :: B).toArray := by
  have g1 : (A ++ x :: y :: B).toArray[j]! = x := get_at _ _ _ _ hj
  have g2 : (A ++ x :: y :: B).toArray[i]! = y := by
    rw [show A ++ x :: y :: B = (A ++ [x]) ++ y :: B by simp]; exact get_at _ _ _ _ (by simpa using hi)
  unfold swp
  rw [g1, g2, List.setIfInBounds_toArray, List.setIfInBounds_toArray]
  congr 1
  rw [List.set_append_right _ _ (by omega), hi, show A.length + 1 - A.length = 1 by omega]
  show (A ++ x :: x :: B).set j y = _
  rw [List.set_append_right _ _ (by omega), hj, Nat.sub_self, List.set_cons_zero]
theorem inner_list (hO : SWO lt) : ∀ (k : Nat) (A S : List α) (y : α) (B : List α) (a j : Nat), S.length = k → a = A.length → j = A.length + S.length → Asc lt S →
    insInner lt a j (A ++ S ++ y :: B).toArray = (A ++ ins lt y S ++ B).toArray := by
  intro k
  induction k with
  | zero =>
    intro A S y B a j hk ha hj hs
    obtain rfl := List.eq_nil_of_length_eq_zero hk
    rw [Go.Proofs.insInner_stop lt a j _ (.inl (by simp at hj; omega))]
    simp [ins]
  | succ k ih =>
    intro A S y B a j hk ha hj hs
    obtain ⟨S0, s, rfl⟩ : ∃ S0 s, S = S0 ++ [s] := ⟨S.dropLast, S.getLast (by intro e; subst e; cases hk), (List.dropLast_concat_getLast _).symm⟩
    have hl : (S0 ++ [s]).length = S0.length + 1 := by simp
    have e0 : A ++ (S0 ++ [s]) ++ y :: B = (A ++ S0) ++ s :: y :: B := by simp
    have g1 : (A ++ (S0 ++ [s]) ++ y :: B).toArray[j]! = y := get_at _ _ _ _ (by simp at hj ⊢; omega)
    have g2 : (A ++ (S0 ++ [s]) ++ y :: B).toArray[j - 1]! = s := by rw [e0]; exact get_at _ _ _ _ (by rw [hj, hl, List.length_append]; omega)
    cases hc : lt y s
    · rw [Go.Proofs.insInner_stop lt a j _ (.inr (by rw [g1, g2]; exact hc))]
      have := ins_at (lt := lt) y (S0 ++ [s]) [] (asc_not hO [] y s S0 hs hc) (fun b hb => by cases hb)
      rw [List.append_nil] at this
      rw [this]
      simp
    · rw [Go.Proofs.insInner_go lt a j _ (by rw [ha, hj, hl]; omega) (by rw [g1, g2]; exact hc), e0, swp_list3 _ _ _ _ _ _ (by rw [hj, hl, List.length_append]; omega) (by rw [hj, hl, List.length_append]; omega)]
      rw [ih A S0 y (s :: B) a (j - 1) (by omega) ha (by rw [hj, hl]; omega) (List.pairwise_append.1 hs).1, ins_end y s S0 hc]
      simp
theorem outer_list (hO : SWO lt) : ∀ (T : List α) (A S B : List α) (a b i : Nat), a = A.length → i = A.length + S.length → b = A.length + S.length + T.length → Asc lt S →
    insOuter lt a b i (A ++ S ++ T ++ B).toArray = (A ++ T.foldl (fun acc x => ins lt x acc) S ++ B).toArray := by
  intro T
  induction T with
  | nil =>
    intro A S B a b i ha hi hb hs
    rw [Go.Proofs.insOuter_stop lt a b i _ (by simp at hb; omega)]
    simp
  | cons y T ih =>
    intro A S B a b i ha hi hb hs
    rw [List.length_cons] at hb
    rw [Go.Proofs.insOuter_go lt a b i _ (by omega), show A ++ S ++ y :: T ++ B = A ++ S ++ y :: (T ++ B) by simp, inner_list hO _ A S y (T ++ B) a i rfl ha hi hs]
    have := ih A (ins lt y S) B a b (i + 1) ha (by rw [ins_len]; omega) (by rw [ins_len]; omega) (asc_ins hO y S hs)
    rw [show A ++ ins lt y S ++ (T ++ B) = A ++ ins lt y S ++ T ++ B by simp, this, List.foldl_cons]
/-- INSERTION SORT OF A PART. -/
theorem insertion_list (hO : SWO lt) (A X B : List α) (a b : Nat) (ha : a = A.length) (hb : b = A.length + X.length) : insertionSort lt (A ++ X ++ B).toArray a b = (A ++ stb lt X ++ B).toArray := by
  unfold insertionSort
  cases X with
  | nil => rw [Go.Proofs.insOuter_stop lt a b _ _ (by simp at hb; omega)]; rfl
  | cons x X =>
    have := outer_list hO X A [x] B a b (a + 1) ha (by simp; omega) (by simp at hb ⊢; omega) (List.pairwise_singleton _ _)
    rw [show A ++ x :: X ++ B = A ++ [x] ++ X ++ B by simp, this]
    rfl
end
section
variable {α : Type} [Inhabited α] {lt : α → α → Bool}
theorem asc_at {l : List α} (h : Asc lt l) {i j : Nat} (hij : i ≤ j) (hj : j < l.length) (hO : SWO lt) : lt (l[j]) (l[i]'(by omega)) = false := by
  rcases Nat.eq_or_lt_of_le hij with rfl | hlt
  · exact hO.irrefl _
  · exact List.pairwise_iff_getElem.1 h i j (by omega) hj hlt
theorem asc_take {l : List α} (h : Asc lt l) (n : Nat) : Asc lt (l.take n) := List.Pairwise.sublist (List.take_sublist n l) h
theorem asc_drop {l : List α} (h : Asc lt l) (n : Nat) : Asc lt (l.drop n) := List.Pairwise.sublist (List.drop_sublist n l) h
theorem lt_left (hO : SWO lt) {u v x : α} (h1 : lt u v = false) (h2 : lt u x = true) : lt v x = true := by
  cases hq : lt v x
  · have := hO.ntrans _ _ _ h1 hq; rw [h2] at this; cases this
  · rfl
theorem lt_right (hO : SWO lt) {y x u : α} (h1 : lt x u = false) (h2 : lt y u = true) : lt y x = true := by
  cases hq : lt y x
  · have := hO.ntrans _ _ _ hq h1; rw [h2] at this; cases this
  · rfl
/-- TWO SORTED ROWS, CUT WHERE THEY CROSS. -/
theorem cross_split (hO : SWO lt) (X Y : List α) (hX : Asc lt X) (hY : Asc lt Y) (u v : Nat) (hu : u ≤ X.length) (hv : v ≤ Y.length) (c1 : ∀ (h1 : u < X.length) (h2 : 0 < v), lt (Y[v - 1]'(by omega)) X[u] = true) (c2 : ∀ (h1 : 0 < u) (h2 : v < Y.length), lt Y[v] (X[u - 1]'(by omega)) = false) :
    mrg lt X Y = mrg lt (X.take u) (Y.take v) ++ mrg lt (X.drop u) (Y.drop v) := by
  conv => lhs; rw [← List.take_append_drop u X, ← List.take_append_drop v Y]
  refine mrg_parts _ _ _ _ (fun x hx y hy => ?_) (fun x hx y hy => ?_)
  · obtain ⟨i, hi, rfl⟩ := List.getElem_of_mem hx
    obtain ⟨j, hj, rfl⟩ := List.getElem_of_mem hy
    rw [List.length_drop] at hi
    rw [List.length_take] at hj
    rw [List.getElem_drop, List.getElem_take]
    have h0 := c1 (by omega) (by omega)
    have h1 : lt (Y[v - 1]'(by omega)) (Y[j]'(by omega)) = false := asc_at hY (by omega) (by omega) hO
    have h2 : lt (X[u + i]'(by omega)) (X[u]'(by omega)) = false := asc_at hX (by omega) (by omega) hO
    exact lt_right hO h2 (lt_left hO h1 h0)
  · obtain ⟨i, hi, rfl⟩ := List.getElem_of_mem hx
    obtain ⟨j, hj, rfl⟩ := List.getElem_of_mem hy
    rw [List.length_take] at hi
    rw [List.length_drop] at hj
    rw [List.getElem_drop, List.getElem_take]
    have h0 := c2 (by omega) (by omega)
    have h1 : lt (Y[v + j]'(by omega)) (Y[v]'(by omega)) = false := asc_at hY (by omega) (by omega) hO
    have h2 : lt (X[u - 1]'(by omega)) (X[i]'(by omega)) = false := asc_at hX (by omega) (by omega) hO
    exact hO.ntrans _ _ _ (hO.ntrans _ _ _ h1 h0) h2
theorem get_second (A X B : List α) (i : Nat) (hi : A.length ≤ i) (h2 : i < A.length + X.length) : (A ++ X ++ B).toArray[i]! = X[i - A.length]'(by omega) := by
  rw [get_in _ _ (by simp; omega), List.getElem_append_left (by simp; omega), List.getElem_append_right hi]
theorem get_third (A X Y B : List α) (i : Nat) (hi : A.length + X.length ≤ i) (h2 : i < A.length + X.length + Y.length) : (A ++ X ++ Y ++ B).toArray[i]! = Y[i - (A.length + X.length)]'(by omega) := by
  have := get_second (A ++ X) Y B i (by simp; omega) (by simp; omega)
  simpa using this
end
section
variable {α : Type} [Inhabited α] {lt : α → α → Bool}
/-- Where two sorted rows, one behind the other, are cut for merging in place: c and its mirror image. -/
structure SymCut (A X Y B : List α) (a m b mid lo hi : Nat) : Prop where
  ha : a = A.length
  hm : m = A.length + X.length
  hb : b = A.length + X.length + Y.length
  hmid : mid = (a + b) / 2
  hX : 0 < X.length
  hY : 0 < Y.length
  hc : (mid < m ∧ lo + b = mid + m ∧ hi = mid) ∨ (m ≤ mid ∧ lo = a ∧ hi = m)
theorem SymCut.get {A X Y B : List α} {a m b mid lo hi : Nat} (h : SymCut A X Y B a m b mid lo hi) (c : Nat) (h1 : lo ≤ c) (h2 : c < hi) : ∃ (p1 : c - a < X.length) (p2 : mid + m - 1 - c - m < Y.length), (A ++ X ++ Y ++ B).toArray[c]! = X[c - a] ∧ (A ++ X ++ Y ++ B).toArray[mid + m - 1 - c]! = Y[mid + m - 1 - c - m] := by
  obtain ⟨ha, hm, hb, hmid, hX, hY, hc⟩ := h
  refine ⟨by omega, by omega, ?_, ?_⟩
  · have := get_second A X (Y ++ B) c (by omega) (by omega)
    rw [← List.append_assoc (A ++ X)] at this
    rw [this]; congr 1; omega
  · rw [get_third A X Y B _ (by omega) (by omega)]; congr 1; omega
theorem SymCut.mono {A X Y B : List α} {a m b mid lo hi : Nat} (h : SymCut A X Y B a m b mid lo hi) (hO : SWO lt) (hX : Asc lt X) (hY : Asc lt Y) (u v : Nat) (h1 : lo ≤ u) (h2 : u ≤ v) (h3 : v < hi) (h4 : lt (A ++ X ++ Y ++ B).toArray[mid + m - 1 - v]! (A ++ X ++ Y ++ B).toArray[v]! = false) : lt (A ++ X ++ Y ++ B).toArray[mid + m - 1 - u]! (A ++ X ++ Y ++ B).toArray[u]! = false := by
  obtain ⟨p1, p2, e1, e2⟩ := h.get u h1 (by omega)
  obtain ⟨q1, q2, f1, f2⟩ := h.get v (by omega) h3
  rw [f1, f2] at h4
  rw [e1, e2]
  have hc := h.hc
  have ha := h.ha
  have hm := h.hm
  have hb := h.hb
  have hmid := h.hmid
  have g1 : lt (Y[mid + m - 1 - u - m]) (Y[mid + m - 1 - v - m]) = false := asc_at hY (by omega) p2 hO
  have g2 : lt (X[v - a]) (X[u - a]) = false := asc_at hX (by omega) q1 hO
  exact hO.ntrans _ _ _ (hO.ntrans _ _ _ g1 h4) g2
theorem SymCut.cut {A X Y B : List α} {a m b mid lo hi : Nat} (h : SymCut A X Y B a m b mid lo hi) (hO : SWO lt) (hX : Asc lt X) (hY : Asc lt Y) (s : Nat) (h1 : lo ≤ s) (h2 : s ≤ hi) (hu : ∀ q, lo ≤ q → q < s → lt (A ++ X ++ Y ++ B).toArray[mid + m - 1 - q]! (A ++ X ++ Y ++ B).toArray[q]! = false) (hf : ∀ q, s ≤ q → q < hi → lt (A ++ X ++ Y ++ B).toArray[mid + m - 1 - q]! (A ++ X ++ Y ++ B).toArray[q]! = true) :
    mrg lt X Y = mrg lt (X.take (s - a)) (Y.take (mid - s)) ++ mrg lt (X.drop (s - a)) (Y.drop (mid - s)) := by
  have hc := h.hc
  have ha := h.ha
  have hm := h.hm
  have hb := h.hb
  have hmid := h.hmid
  refine cross_split hO X Y hX hY (s - a) (mid - s) (by omega) (by omega) (fun g1 g2 => ?_) (fun g1 g2 => ?_)
  · have hs : s < hi := by omega
    have e := hf s (Nat.le_refl _) hs
    obtain ⟨p1, p2, e1, e2⟩ := h.get s h1 hs
    rw [e1, e2] at e
    have ei : mid + m - 1 - s - m = mid - s - 1 := by omega
    simp only [ei] at e
    exact e
  · have hs : lo ≤ s - 1 := by omega
    have e := hu (s - 1) hs (by omega)
    obtain ⟨p1, p2, e1, e2⟩ := h.get (s - 1) hs (by omega)
    rw [e1, e2] at e
    have ei : mid + m - 1 - (s - 1) - m = mid - s := by omega
    have ej : s - 1 - a = s - a - 1 := by omega
    simp only [ei, ej] at e
    exact e
end
section
variable {α : Type} (lt : α → α → Bool)
/-- Blocks of s, each in order. -/
def full (s : Nat) (l : List α) : List α := if h : s = 0 ∨ l.length ≤ s then stb lt l else stb lt (l.take s) ++ full s (l.drop s)
termination_by l.length
decreasing_by simp only [List.length_drop]; omega
variable {lt}
theorem full_small {s : Nat} {l : List α} (h : l.length ≤ s) : full lt s l = stb lt l := by rw [full, dif_pos (.inr h)]
theorem full_nil (s : Nat) : full lt s ([] : List α) = [] := full_small (Nat.zero_le _)
theorem full_big {s : Nat} {l : List α} (h0 : 0 < s) (h : s ≤ l.length) : full lt s l = stb lt (l.take s) ++ full lt s (l.drop s) := by
  rcases Nat.eq_or_lt_of_le h with h | h
  · rw [full_small (by omega), List.take_of_length_le (by omega), List.drop_eq_nil_of_le (by omega), full_nil, List.append_nil]
  · rw [full, dif_neg (by omega)]
theorem full_two {s : Nat} {l : List α} (h0 : 0 < s) (h : 2 * s ≤ l.length) : full lt s l = stb lt (l.take s) ++ (stb lt ((l.drop s).take s) ++ full lt s (l.drop (2 * s))) := by
  rw [full_big h0 (by omega), full_big (l := l.drop s) h0 (by rw [List.length_drop]; omega), List.drop_drop, show s + s = 2 * s by omega]
theorem full_len {s : Nat} (h0 : 0 < s) : ∀ (k : Nat) (l : List α), l.length ≤ k → (full lt s l).length = l.length := by
  intro k
  induction k with
  | zero => intro l h; obtain rfl := List.eq_nil_of_length_eq_zero (show l.length = 0 by omega); rw [full_nil]
  | succ k ih =>
    intro l h
    by_cases hs : l.length ≤ s
    · rw [full_small hs, stb_len]
    · rw [full_big h0 (by omega), List.length_append, stb_len, ih _ (by rw [List.length_drop]; omega), List.length_take, List.length_drop]; omega
theorem full_length {s : Nat} (h0 : 0 < s) (l : List α) : (full lt s l).length = l.length := full_len h0 _ l (Nat.le_refl _)
theorem mrg_blocks [Inhabited α] (hO : SWO lt) (s : Nat) (l : List α) (h : 2 * s ≤ l.length) : mrg lt (stb lt (l.take s)) (stb lt ((l.drop s).take s)) = stb lt (l.take (2 * s)) := by
  rw [← stb_mrg hO, show 2 * s = s + s by omega, List.take_add]
theorem mrg_last [Inhabited α] (hO : SWO lt) (s : Nat) (l : List α) : mrg lt (stb lt (l.take s)) (stb lt (l.drop s)) = stb lt l := by
  rw [← stb_mrg hO, List.take_append_drop]
end
end Go.Proofs.YtgooepfhapaenaaGreat
/- Plain facts on jobs and nodes and their order: no Go in sight. Conditions: as stated. -/
namespace Go.Proofs.YtgooepfhapaenaaGreat
open Go.RowKit
open Go.Sort (SWO)
set_option linter.unusedVariables false
set_option linter.unusedSimpArgs false

/-- A job. -/
structure Jb where
  id : Int
  prio : Int
  seq : Int
  phase : Int
  node : Int
  need : V3
def Jb.ok (x : Jb) : Prop := inI x.id ∧ inI x.prio ∧ inI x.seq ∧ inI x.phase ∧ inI x.node ∧ x.need.ok
def Jb.row (x : Jb) : List Value := [.int .i64 x.id, .int .i64 x.prio, .int .i64 x.seq, .int .i64 x.phase, .int .i64 x.node, .int .i64 x.need.a, .int .i64 x.need.b, .int .i64 x.need.c]
def Jb.val (x : Jb) : Value := .agg #[.int .i64 x.id, .int .i64 x.prio, .int .i64 x.seq, .int .i64 x.phase, .int .i64 x.node, .int .i64 x.need.a, .int .i64 x.need.b, .int .i64 x.need.c]
def zeroJ : Jb := ⟨0, 0, 0, 0, 0, zero3⟩
instance : Inhabited Jb := ⟨zeroJ⟩
/-- Is one ahead of the other? -/
def jobB (x y : Jb) : Bool := if x.prio ≠ y.prio then decide (x.prio > y.prio) else if x.seq ≠ y.seq then decide (x.seq < y.seq) else decide (x.id < y.id)
def keyJ (x : Jb) : V3 := ⟨9223372036854775807 - max x.prio 0, x.seq, x.id⟩
def cmpJ (x y : Jb) : Int := if jobB x y = true then -1 else if jobB y x = true then 1 else 0
/-- A node. -/
structure Nd where
  id : Int
  inc : Int
  load : Int
  cap : V3
  used : V3
  up : Bool
def Nd.ok (x : Nd) : Prop := inI x.id ∧ inI x.inc ∧ inI x.load ∧ x.cap.ok ∧ x.used.ok
def Nd.row (x : Nd) : List Value := [.int .i64 x.id, .int .i64 x.inc, .int .i64 x.load, .int .i64 x.cap.a, .int .i64 x.cap.b, .int .i64 x.cap.c, .int .i64 x.used.a, .int .i64 x.used.b, .int .i64 x.used.c, .bool x.up]
def Nd.val (x : Nd) : Value := .agg #[.int .i64 x.id, .int .i64 x.inc, .int .i64 x.load, .int .i64 x.cap.a, .int .i64 x.cap.b, .int .i64 x.cap.c, .int .i64 x.used.a, .int .i64 x.used.b, .int .i64 x.used.c, .bool x.up]
def nodeB (x y : Nd) : Bool := if x.load ≠ y.load then decide (x.load < y.load) else decide (x.id < y.id)
def keyN (x : Nd) : V3 := ⟨x.load, x.id, 0⟩
/-- What is free of one number. -/
def freeI (c u : Int) : Int := if u < c then IntKind.i64.wrap (c - u) else 0
def freeV (x : Nd) : V3 := ⟨freeI x.cap.a x.used.a, freeI x.cap.b x.used.b, freeI x.cap.c x.used.c⟩
def ndTakes (x : Nd) (need : V3) : Bool := x.up && fitsB need (freeV x)
theorem jobB_iff (x y : Jb) : jobB x y = true ↔ y.prio < x.prio ∨ (x.prio = y.prio ∧ (x.seq < y.seq ∨ (x.seq = y.seq ∧ x.id < y.id))) := by
  unfold jobB
  split
  · rw [decide_eq_true_iff]; omega
  · split
    · rw [decide_eq_true_iff]; omega
    · rw [decide_eq_true_iff]; omega
theorem nodeB_iff (x y : Nd) : nodeB x y = true ↔ x.load < y.load ∨ (x.load = y.load ∧ x.id < y.id) := by
  unfold nodeB
  split
  · rw [decide_eq_true_iff]; omega
  · rw [decide_eq_true_iff]; omega
theorem not_iff {b : Bool} {p : Prop} (h : b = true ↔ p) : b = false ↔ ¬ p := by cases b <;> simp_all
theorem jobB_self (x : Jb) : jobB x x = false := by rw [not_iff (jobB_iff x x)]; omega
theorem nodeB_self (x : Nd) : nodeB x x = false := by rw [not_iff (nodeB_iff x x)]; omega
theorem jobB_trans {x y z : Jb} (h1 : jobB x y = true) (h2 : jobB y z = true) : jobB x z = true := by rw [jobB_iff] at *; omega
theorem nodeB_trans {x y z : Nd} (h1 : nodeB x y = true) (h2 : nodeB y z = true) : nodeB x z = true := by rw [nodeB_iff] at *; omega
theorem jobB_other (x y : Jb) (h : x.id ≠ y.id) : jobB x y = !jobB y x := by
  rw [Bool.eq_iff_iff, jobB_iff, Bool.not_eq_true', not_iff (jobB_iff y x)]; omega
theorem nodeB_other (x y : Nd) (h : x.id ≠ y.id) : nodeB x y = !nodeB y x := by
  rw [Bool.eq_iff_iff, nodeB_iff, Bool.not_eq_true', not_iff (nodeB_iff y x)]; omega
theorem jobB_asymm {x y : Jb} (h : jobB x y = true) : jobB y x = false := by rw [not_iff (jobB_iff y x)]; rw [jobB_iff] at h; omega
theorem keyJ_less (x y : Jb) (hx : 0 ≤ x.prio) (hy : 0 ≤ y.prio) : lessB (keyJ x) (keyJ y) = jobB x y := by
  rw [Bool.eq_iff_iff, lessB_iff, jobB_iff]; unfold keyJ; dsimp only; omega
theorem keyN_less (x y : Nd) : lessB (keyN x) (keyN y) = nodeB x y := by
  rw [Bool.eq_iff_iff, lessB_iff, nodeB_iff]; unfold keyN; dsimp only; omega
theorem swoJ : SWO jobB where
  irrefl := jobB_self
  trans x y z := jobB_trans
  ntrans x y z h1 h2 := by rw [not_iff (jobB_iff _ _)] at *; omega
theorem cmpJ_lt (x y : Jb) : decide (cmpJ x y < 0) = jobB x y := by
  unfold cmpJ
  cases jobB x y
  · cases jobB y x <;> rfl
  · rfl
theorem freeI_in (c u : Int) : inI (freeI c u) := by
  unfold freeI inI
  split
  · have h1 := IntKind.wrap_i64 (c - u); omega
  · omega
theorem freeV_ok (x : Nd) : (freeV x).ok := ⟨freeI_in _ _, freeI_in _ _, freeI_in _ _⟩
end Go.Proofs.YtgooepfhapaenaaGreat
