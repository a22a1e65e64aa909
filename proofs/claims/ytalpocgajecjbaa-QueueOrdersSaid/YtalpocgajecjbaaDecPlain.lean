/- Plain facts on numbers as texts: no Go in sight. Conditions: none. -/
import Derived.Test.YtalpocgajecjbaaKit
namespace Go.Proofs.Ytalpocgajecjbaa
open Go.RowKit
set_option linter.unusedVariables false
set_option linter.unusedSimpArgs false

def digC (d : Nat) : UInt8 := UInt8.ofNat (48 + d)
theorem digC_toNat {d : Nat} (h : d < 10) : (digC d).toNat = 48 + d := by simp [digC]; omega
/-- A number's digits. -/
def decL (n : Nat) : List UInt8 := if n < 10 then [digC n] else decL (n / 10) ++ [digC (n % 10)]
theorem decL_lt {n : Nat} (h : n < 10) : decL n = [digC n] := by rw [decL, if_pos h]
theorem decL_ge {n : Nat} (h : ¬ n < 10) : decL n = decL (n / 10) ++ [digC (n % 10)] := by rw [decL, if_neg h]
/-- A number's text. -/
def textL (n : Int) : List UInt8 := if n < 0 then 45 :: decL n.natAbs else decL n.natAbs
def isDig (c : UInt8) : Prop := 48 ≤ c.toNat ∧ c.toNat ≤ 57
theorem digC_dig {d : Nat} (h : d < 10) : isDig (digC d) := by unfold isDig; rw [digC_toNat h]; omega
theorem decL_dig (n : Nat) : ∀ c ∈ decL n, isDig c := by
  induction n using Nat.strongRecOn with
  | ind n ih =>
    intro c hc
    by_cases h : n < 10
    · rw [decL_lt h] at hc
      obtain rfl : c = digC n := by simpa using hc
      exact digC_dig h
    · rw [decL_ge h] at hc
      rcases List.mem_append.1 hc with hc | hc
      · exact ih (n / 10) (by omega) c hc
      · obtain rfl : c = digC (n % 10) := by simpa using hc
        exact digC_dig (by omega)
theorem decL_ne (n : Nat) : decL n ≠ [] := by
  by_cases h : n < 10
  · rw [decL_lt h]; simp
  · rw [decL_ge h]; simp
/-- The number of digits that go on from a number. -/
def digV : Nat → List UInt8 → Nat
  | a, [] => a
  | a, c :: l => digV (a * 10 + (c.toNat - 48)) l
theorem digV_append (l r : List UInt8) : ∀ a, digV a (l ++ r) = digV (digV a l) r := by
  induction l with
  | nil => intro a; rfl
  | cons c l ih => intro a; exact ih _
theorem digV_decL (n : Nat) : digV 0 (decL n) = n := by
  induction n using Nat.strongRecOn with
  | ind n ih =>
    by_cases h : n < 10
    · rw [decL_lt h]
      show 0 * 10 + ((digC n).toNat - 48) = n
      rw [digC_toNat h]; omega
    · rw [decL_ge h, digV_append, ih (n / 10) (by omega)]
      show n / 10 * 10 + ((digC (n % 10)).toNat - 48) = n
      rw [digC_toNat (show n % 10 < 10 by omega)]; omega
theorem decL_len (n k : Nat) (h : n < 10 ^ k) (hk : 0 < k) : (decL n).length ≤ k := by
  induction k generalizing n with
  | zero => omega
  | succ k ih =>
    by_cases h1 : n < 10
    · rw [decL_lt h1]; simp
    · rw [decL_ge h1]
      have hk : 0 < k := by
        rcases Nat.eq_zero_or_pos k with rfl | h2
        · simp at h; omega
        · exact h2
      have := ih (n / 10) (by rw [Nat.pow_succ] at h; omega) hk
      simp; omega
/-- The number that a text may be. -/
def valD (l : List UInt8) : Int := if l.head? = some 45 then -((digV 0 l.tail : Nat) : Int) else ((digV 0 l : Nat) : Int)
theorem decL_head (n : Nat) : (decL n).head? ≠ some 45 := by
  intro h
  have := decL_dig n 45 (List.mem_of_head? h)
  simp [isDig] at this
theorem valD_textL (n : Int) : valD (textL n) = n := by
  unfold textL valD
  by_cases h : n < 0
  · rw [if_pos h, if_pos (show (45 :: decL n.natAbs).head? = some 45 from rfl)]
    show -((digV 0 (decL n.natAbs) : Nat) : Int) = n
    rw [digV_decL]; omega
  · rw [if_neg h, if_neg (decL_head _), digV_decL]; omega
theorem textL_inj {a b : Int} (h : textL a = textL b) : a = b := by rw [← valD_textL a, h, valD_textL]
theorem textL_ne (n : Int) : textL n ≠ [] := by
  unfold textL; split
  · simp
  · exact decL_ne _
def inI (n : Int) : Prop := -9223372036854775808 ≤ n ∧ n ≤ 9223372036854775807
instance (n : Int) : Decidable (inI n) := by unfold inI; infer_instance
theorem textL_len (n : Int) (h : inI n) : (textL n).length ≤ 20 := by
  have := decL_len n.natAbs 19 (by have : 10 ^ 19 = 10000000000000000000 := by decide
                                   unfold inI at h; omega) (by omega)
  unfold textL; split <;> simp <;> omega
/-- The error, and the number, of a text. -/
def parE (l : List UInt8) : Nat := if textL (valD l) = l ∧ inI (valD l) then 0 else 2
def parV (l : List UInt8) : Int := if parE l = 0 then valD l else 0
theorem par_text (n : Int) (h : inI n) : parE (textL n) = 0 ∧ parV (textL n) = n := by
  have e : parE (textL n) = 0 := by unfold parE; rw [valD_textL, if_pos ⟨rfl, h⟩]
  exact ⟨e, by unfold parV; rw [if_pos e, valD_textL]⟩
theorem parE_cases (l : List UInt8) : parE l = 0 ∨ parE l = 2 := by unfold parE; split <;> omega
theorem par_ok {l : List UInt8} (h : parE l = 0) : textL (parV l) = l ∧ inI (parV l) := by
  have e : parV l = valD l := by unfold parV; rw [if_pos h]
  rw [e]
  unfold parE at h
  split at h
  · assumption
  · cases h
theorem parV_in (l : List UInt8) : inI (parV l) := by
  unfold parV; split
  · rename_i h
    have := (par_ok h).2
    unfold parV at this; rw [if_pos h] at this; exact this
  · unfold inI; omega
theorem par_bad {l : List UInt8} (h : ¬ parE l = 0) : parE l = 2 ∧ parV l = 0 := by
  refine ⟨by rcases parE_cases l with h2 | h2 <;> omega, ?_⟩
  unfold parV; rw [if_neg h]
/-- A text that is a number's is read as that number, no other one is read. -/
theorem parE_iff (l : List UInt8) (n : Int) (hn : inI n) (h : textL n = l) : parE l = 0 ∧ parV l = n := by subst h; exact par_text n hn
theorem textL_chars (n : Int) (c : UInt8) (h : c ∈ textL n) : isDig c ∨ c = 45 := by
  unfold textL at h
  split at h
  · rcases List.mem_cons.1 h with h | h
    · exact Or.inr h
    · exact Or.inl (decL_dig _ c h)
  · exact Or.inl (decL_dig _ c h)

theorem valD_snoc (p : List UInt8) (c : UInt8) (h : p = [] → c ≠ 45) : valD (p ++ [c]) = if p.head? = some 45 then valD p * 10 - ((c.toNat - 48 : Nat) : Int) else valD p * 10 + ((c.toNat - 48 : Nat) : Int) := by
  cases p with
  | nil =>
    have h1 : ¬ c = 45 := h rfl
    have e : valD ([] ++ [c]) = ((digV 0 [c] : Nat) : Int) := by
      show valD [c] = _
      unfold valD; rw [if_neg (by simp [h1])]
    rw [e, if_neg (by simp)]
    show ((0 * 10 + (c.toNat - 48) : Nat) : Int) = valD [] * 10 + _
    have : valD [] = 0 := rfl
    rw [this]; omega
  | cons a p =>
    by_cases ha : a = 45
    · subst ha
      have e1 : valD (45 :: p ++ [c]) = -((digV 0 (p ++ [c]) : Nat) : Int) := rfl
      have e2 : valD (45 :: p) = -((digV 0 p : Nat) : Int) := rfl
      rw [e1, e2, if_pos (show (45 :: p).head? = some 45 from rfl), digV_append]
      show -(((digV 0 p * 10 + (c.toNat - 48) : Nat)) : Int) = _
      omega
    · have hh : ¬ (a :: p).head? = some 45 := by simp [ha]
      have e1 : valD (a :: p ++ [c]) = ((digV 0 (a :: p ++ [c]) : Nat) : Int) := by unfold valD; rw [if_neg (by simp [ha])]
      have e2 : valD (a :: p) = ((digV 0 (a :: p) : Nat) : Int) := by unfold valD; rw [if_neg hh]
      rw [e1, e2, if_neg hh, digV_append]
      show (((digV 0 (a :: p) * 10 + (c.toNat - 48) : Nat)) : Int) = _
      omega
theorem textL_get (n : Int) (k : Nat) (h : k < (textL n).length) (hk : k ≠ 0 ∨ (textL n)[0]'(by omega) ≠ 45) : isDig (textL n)[k] := by
  rcases textL_chars n _ (List.getElem_mem h) with h1 | h1
  · exact h1
  · by_cases hn : n < 0
    · have e : textL n = 45 :: decL n.natAbs := by unfold textL; rw [if_pos hn]
      rcases hk with hk | hk
      · obtain ⟨j, rfl⟩ : ∃ j, k = j + 1 := ⟨k - 1, by omega⟩
        simp only [e] at h ⊢
        rw [List.getElem_cons_succ]
        exact decL_dig _ _ (List.getElem_mem _)
      · exact absurd (by simp only [e]; rfl) hk
    · have e : textL n = decL n.natAbs := by unfold textL; rw [if_neg hn]
      simp only [e] at h ⊢
      exact decL_dig _ _ (List.getElem_mem h)
theorem parE_char (l : List UInt8) (k : Nat) (h : k < l.length) (hk : k ≠ 0 ∨ l[0]'(by omega) ≠ 45) (hb : ¬ isDig l[k]) : parE l = 2 ∧ parV l = 0 := by
  refine par_bad fun e => hb ?_
  have ht := (par_ok e).1
  have := textL_get (parV l) k (by rw [ht]; exact h) (by simpa only [ht] using hk)
  simpa only [ht] using this
theorem parE_long (l : List UInt8) (h : 20 < l.length) : parE l = 2 ∧ parV l = 0 := by
  refine par_bad fun e => ?_
  obtain ⟨h1, h2⟩ := par_ok e
  have := textL_len _ h2
  rw [h1] at this; omega
theorem parE_nil : parE [] = 2 ∧ parV [] = 0 := by
  refine par_bad fun e => ?_
  exact textL_ne _ (par_ok e).1
/-- Parts with a sign between. -/
def joinS (sep : UInt8) : List (List UInt8) → List UInt8
  | [] => []
  | [x] => x
  | x :: y :: r => x ++ sep :: joinS sep (y :: r)
theorem joinS_snoc (sep : UInt8) (l : List (List UInt8)) (x : List UInt8) : joinS sep (l ++ [x]) = if l = [] then x else joinS sep l ++ sep :: x := by
  induction l with
  | nil => rfl
  | cons a l ih =>
    cases l with
    | nil => simp [joinS]
    | cons b l =>
      rw [if_neg (by simp)] at ih ⊢
      show a ++ sep :: joinS sep ((b :: l) ++ [x]) = _
      rw [ih]; simp [joinS]
/-- The parts between a sign. -/
def splitS (sep : UInt8) : List UInt8 → List (List UInt8)
  | [] => [[]]
  | c :: r => if c = sep then [] :: splitS sep r else match splitS sep r with
    | [] => [[c]]
    | h :: t => (c :: h) :: t
theorem splitS_ne (sep : UInt8) (l : List UInt8) : splitS sep l ≠ [] := by
  cases l with
  | nil => simp [splitS]
  | cons c l => simp only [splitS]; split
                · simp
                · split <;> simp
theorem splitS_end (sep : UInt8) (p : List UInt8) (h : sep ∉ p) : splitS sep p = [p] := by
  induction p with
  | nil => rfl
  | cons c p ih =>
    have h1 : ¬ c = sep := fun e => h (by simp [e])
    simp only [splitS, if_neg h1]
    rw [ih (fun e => h (by simp [e]))]
theorem splitS_at (sep : UInt8) (p r : List UInt8) (h : sep ∉ p) : splitS sep (p ++ sep :: r) = p :: splitS sep r := by
  induction p with
  | nil => simp [splitS]
  | cons c p ih =>
    have h1 : ¬ c = sep := fun e => h (by simp [e])
    simp only [List.cons_append, splitS, if_neg h1]
    rw [ih (fun e => h (by simp [e]))]
theorem split_join (sep : UInt8) (l : List (List UInt8)) (hl : l ≠ []) (h : ∀ p ∈ l, sep ∉ p) : splitS sep (joinS sep l) = l := by
  induction l with
  | nil => exact absurd rfl hl
  | cons a l ih =>
    cases l with
    | nil => exact splitS_end sep a (h a (by simp))
    | cons b l =>
      show splitS sep (a ++ sep :: joinS sep (b :: l)) = _
      rw [splitS_at sep a _ (h a (by simp)), ih (by simp) (fun p hp => h p (by simp [hp]))]
theorem splitS_len (sep : UInt8) (l : List UInt8) : (splitS sep l).length ≤ l.length + 1 := by
  induction l with
  | nil => simp [splitS]
  | cons c l ih =>
    simp only [splitS]; split
    · simp; omega
    · split
      · simp
      · rename_i h; rw [h] at ih; simp at ih ⊢; omega
/-- Numbers' text, and a text's numbers. -/
def listL (ns : List Int) : List UInt8 := joinS 44 (ns.map textL)
theorem textL_comma (n : Int) : (44 : UInt8) ∉ textL n := by
  intro h
  rcases textL_chars n 44 h with h | h
  · simp [isDig] at h
  · exact absurd h (by decide)
theorem list_back (ns : List Int) (h : ns ≠ []) : splitS 44 (listL ns) = ns.map textL :=
  split_join 44 _ (by simpa using h) (fun p hp => by
    obtain ⟨n, _, rfl⟩ := List.mem_map.1 hp
    exact textL_comma n)
def plE (l : List UInt8) (many : Int) : Nat := if (∀ p ∈ splitS 44 l, parE p = 0) ∧ ((splitS 44 l).length : Int) = many then 0 else 2
def plV (l : List UInt8) (many : Int) : List Int := if plE l many = 0 then (splitS 44 l).map parV else []
theorem pl_back (ns : List Int) (h : ns ≠ []) (hi : ∀ n ∈ ns, inI n) : plE (listL ns) ns.length = 0 ∧ plV (listL ns) ns.length = ns := by
  have e : plE (listL ns) ns.length = 0 := by
    unfold plE
    rw [list_back ns h, if_pos]
    refine ⟨fun p hp => ?_, by simp⟩
    obtain ⟨n, hn, rfl⟩ := List.mem_map.1 hp
    exact (par_text n (hi n hn)).1
  refine ⟨e, ?_⟩
  unfold plV
  rw [if_pos e, list_back ns h, List.map_map]
  conv => rhs; rw [← List.map_id ns]
  exact List.map_congr_left fun n hn => (par_text n (hi n hn)).2

/-- Hexadecimal signs. -/
def signC (k : Nat) : UInt8 := if k < 10 then UInt8.ofNat (48 + k) else UInt8.ofNat (87 + k)
def signV (c : UInt8) : Nat := if 48 ≤ c.toNat ∧ c.toNat ≤ 57 then c.toNat - 48 else if 97 ≤ c.toNat ∧ c.toNat ≤ 102 then c.toNat - 87 else 16
theorem signV_signC {k : Nat} (h : k < 16) : signV (signC k) = k := by
  unfold signV signC
  by_cases h1 : k < 10
  · rw [if_pos h1]
    have : (UInt8.ofNat (48 + k)).toNat = 48 + k := by simp; omega
    rw [this, if_pos (by omega)]; omega
  · rw [if_neg h1]
    have : (UInt8.ofNat (87 + k)).toNat = 87 + k := by simp; omega
    rw [this, if_neg (by omega), if_pos (by omega)]; omega
theorem signC_signV {c : UInt8} (h : signV c < 16) : signC (signV c) = c := by
  have hc := c.toNat_lt
  unfold signV at h ⊢
  rw [← UInt8.toNat_inj]
  by_cases h1 : 48 ≤ c.toNat ∧ c.toNat ≤ 57
  · rw [if_pos h1]; unfold signC; rw [if_pos (by omega)]; simp; omega
  · rw [if_neg h1] at h ⊢
    by_cases h2 : 97 ≤ c.toNat ∧ c.toNat ≤ 102
    · rw [if_pos h2]; unfold signC; rw [if_neg (by omega)]; simp; omega
    · rw [if_neg h2] at h; omega
theorem signV_le (c : UInt8) : signV c ≤ 16 := by
  unfold signV; split
  · omega
  · split <;> omega
def hexL (l : List UInt8) : List UInt8 := l.flatMap fun c => [signC (c.toNat / 16), signC (c.toNat % 16)]
theorem hexL_cons (c : UInt8) (l : List UInt8) : hexL (c :: l) = signC (c.toNat / 16) :: signC (c.toNat % 16) :: hexL l := rfl
theorem hexL_append (a b : List UInt8) : hexL (a ++ b) = hexL a ++ hexL b := by simp [hexL]
theorem hexL_len (l : List UInt8) : (hexL l).length = 2 * l.length := by
  induction l with
  | nil => rfl
  | cons c l ih => rw [hexL_cons, List.length_cons, List.length_cons, ih, List.length_cons]; omega
def unhex : List UInt8 → Option (List UInt8)
  | [] => some []
  | [_] => none
  | x :: y :: r => if signV x < 16 ∧ signV y < 16 then (unhex r).map (UInt8.ofNat (signV x * 16 + signV y) :: ·) else none
theorem unhex_hex (l : List UInt8) : unhex (hexL l) = some l := by
  induction l with
  | nil => rfl
  | cons c l ih =>
    have hc := c.toNat_lt
    rw [hexL_cons]
    simp only [unhex]
    rw [signV_signC (show c.toNat / 16 < 16 by omega), signV_signC (show c.toNat % 16 < 16 by omega), if_pos (by omega), ih]
    have : UInt8.ofNat (c.toNat / 16 * 16 + c.toNat % 16) = c := by rw [← UInt8.toNat_inj]; simp; omega
    simp [this]
theorem hex_unhex : ∀ (l r : List UInt8), unhex l = some r → hexL r = l
  | [], r, h => by simp [unhex] at h; subst h; rfl
  | [_], r, h => by simp [unhex] at h
  | x :: y :: l, r, h => by
    simp only [unhex] at h
    split at h
    · rename_i hs
      obtain ⟨r', hr, rfl⟩ := Option.map_eq_some_iff.1 h
      have := hex_unhex l r' hr
      rw [hexL_cons, this]
      have e : (UInt8.ofNat (signV x * 16 + signV y)).toNat = signV x * 16 + signV y := by simp; omega
      rw [e, show (signV x * 16 + signV y) / 16 = signV x by omega, show (signV x * 16 + signV y) % 16 = signV y by omega, signC_signV hs.1, signC_signV hs.2]
    · cases h
def uhE (l : List UInt8) : Nat := if (unhex l).isSome then 0 else 2
def uhV (l : List UInt8) : List UInt8 := (unhex l).getD []
theorem uh_back (l : List UInt8) : uhE (hexL l) = 0 ∧ uhV (hexL l) = l := by
  unfold uhE uhV; rw [unhex_hex]; exact ⟨rfl, rfl⟩
theorem uh_ok {l : List UInt8} (h : uhE l = 0) : hexL (uhV l) = l := by
  unfold uhE at h
  unfold uhV
  cases hu : unhex l with
  | none => rw [hu] at h; cases h
  | some r => exact hex_unhex l r hu
end Go.Proofs.Ytalpocgajecjbaa
