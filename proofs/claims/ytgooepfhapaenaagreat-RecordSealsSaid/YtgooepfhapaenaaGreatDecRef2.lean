/- What the document's own answers for numbers as texts come to. Conditions: texts of at most 1,000 bytes, lists of at most 1,000 numbers. -/
import Derived.Test.YtgooepfhapaenaaGreatRows
import Derived.Test.YtgooepfhapaenaaGreatPlains
import Derived.Test.YtgooepfhapaenaaGreatSlices
import Derived.Test.YtgooepfhapaenaaGreatSame
namespace Go.Proofs.YtgooepfhapaenaaGreat
open Go.ChangeShapes Go.WideShapes Go.ChangeAt Go.RowKit
set_option linter.unusedVariables false
set_option maxRecDepth 100000
set_option linter.unusedSimpArgs false

theorem dig_slice : ∀ k : Nat, k < 10 → (ByteArray.mk #[48, 49, 50, 51, 52, 53, 54, 55, 56, 57]).extract k (k + 1) = bs [digC k] := by decide
theorem textL_nat (k : Nat) : textL (k : Int) = decL k := by unfold textL; rw [if_neg (by omega), Int.natAbs_natCast]
theorem textL_neg (k : Nat) (h : 0 < k) : textL (-(k : Int)) = 45 :: decL k := by unfold textL; rw [if_pos (by omega), Int.natAbs_neg, Int.natAbs_natCast]
/-- What the characters behind the sign come to, as the machine reckons. -/
def ParI (l : List UInt8) (k : Nat) (n : Int) : Prop := n = IntKind.i64.wrap (valD (l.take k)) ∧ (0 < k → ∀ h : 0 < l.length, l[0] = 45 ∨ isDig l[0])
theorem parI_lo (l : List UInt8) (k : Nat) (n : Int) (h : ParI l k n) : -9223372036854775808 ≤ n ∧ n ≤ 9223372036854775807 := by
  obtain ⟨rfl, _⟩ := h
  rw [IntKind.wrap_i64]; omega
theorem lget (s : ByteArray) (k : Nat) (h : k < s.size) : s.data.toList[k]'(by rw [data_len]; exact h) = s[k] := by simp; rfl
theorem ltake (s : ByteArray) (k : Nat) (h : k < s.size) : s.data.toList.take (k + 1) = s.data.toList.take k ++ [s[k]] := by
  rw [List.take_succ_eq_append_getElem (by rw [data_len]; exact h), lget s k h]
theorem u8_eq {c d : UInt8} (h : c.toNat = d.toNat) : c = d := UInt8.toNat_inj.1 h
theorem parI_skip (s : ByteArray) (h : 0 < s.size) (v : Int) (hI : ParI s.data.toList 0 v) (h45 : (s[0]'h).toNat = 45) : ParI s.data.toList 1 v := by
  obtain ⟨h1, h2⟩ := hI
  have e : s[0]'h = 45 := u8_eq h45
  refine ⟨?_, fun _ hl => Or.inl ?_⟩
  · rw [h1, ltake s 0 h, e]; rfl
  · rw [lget s 0 h]; exact e
theorem parI_step (s : ByteArray) (k : Nat) (h0 : 0 < s.size) (h : k < s.size) (v : Int) (hI : ParI s.data.toList k v) (hm : ¬ (k = 0 ∧ (s[0]'h0).toNat = 45)) (hd : 48 ≤ (s[k]'h).toNat ∧ (s[k]'h).toNat ≤ 57) (n : Int)
    (hn : n = IntKind.i64.wrap (IntKind.i64.wrap (v * 10) + (if (s[0]'h0).toNat = 45 then -(((s[k]'h).toNat : Int) - 48) else ((s[k]'h).toNat : Int) - 48))) : ParI s.data.toList (k + 1) n := by
  obtain ⟨h1, h2⟩ := hI
  have hnil : s.data.toList.take k = [] → s[k]'h ≠ 45 := fun e e2 => by
    have := congrArg List.length e
    rw [List.length_take, data_len] at this
    simp only [List.length_nil] at this
    have hk : k = 0 := by omega
    subst hk
    exact hm ⟨rfl, by rw [e2]; rfl⟩
  have hhead : (s.data.toList.take k).head? = some 45 ↔ (s[0]'h0).toNat = 45 := by
    by_cases hk : k = 0
    · subst hk
      constructor
      · intro e; simp at e
      · intro e; exact absurd ⟨rfl, e⟩ hm
    · rw [List.head?_take, if_neg hk, List.head?_eq_getElem?, List.getElem?_eq_getElem (by rw [data_len]; exact h0), lget s 0 h0]
      constructor
      · intro e; simp at e; rw [e]; rfl
      · intro e; rw [u8_eq (d := 45) e]
  refine ⟨?_, fun _ hl => ?_⟩
  · rw [hn, h1, ltake s k h, valD_snoc _ _ hnil]
    by_cases e : (s[0]'h0).toNat = 45
    · rw [if_pos e, if_pos (hhead.2 e)]
      simp only [IntKind.wrap_i64]; omega
    · rw [if_neg e, if_neg (fun x => e (hhead.1 x))]
      simp only [IntKind.wrap_i64]; omega
  · rw [lget s 0 h0]
    by_cases hk : k = 0
    · subst hk; exact Or.inr hd
    · have := h2 (Nat.pos_of_ne_zero hk) hl
      rw [lget s 0 h0] at this; exact this
theorem parI_bad (s : ByteArray) (k : Nat) (h0 : 0 < s.size) (h : k < s.size) (hm : ¬ (k = 0 ∧ (s[0]'h0).toNat = 45)) (hd : ¬ (48 ≤ (s[k]'h).toNat ∧ (s[k]'h).toNat ≤ 57)) : parE s.data.toList = 2 ∧ parV s.data.toList = 0 := by
  refine parE_char _ k (by rw [data_len]; exact h) ?_ (by rw [lget s k h]; exact hd)
  by_cases hk : k = 0
  · right
    rw [lget s 0 h0]
    intro e
    exact hm ⟨hk, by rw [e]; rfl⟩
  · exact Or.inl hk
theorem parI_end (s : ByteArray) (v : Int) (hI : ParI s.data.toList s.size v) :
    (bs (textL v) = s ∧ parE s.data.toList = 0 ∧ parV s.data.toList = v) ∨ (bs (textL v) ≠ s ∧ parE s.data.toList = 2 ∧ parV s.data.toList = 0) := by
  have hv := parI_lo _ _ _ hI
  obtain ⟨h1, _⟩ := hI
  rw [List.take_of_length_le (by rw [data_len]; exact Nat.le_refl _)] at h1
  by_cases e : bs (textL v) = s
  · have := parE_iff s.data.toList v hv (by rw [← e, bs_list])
    exact Or.inl ⟨e, this.1, this.2⟩
  · refine Or.inr ⟨e, par_bad fun h0 => e ?_⟩
    obtain ⟨h2, h3⟩ := par_ok h0
    have hpv : parV s.data.toList = valD s.data.toList := by unfold parV; rw [if_pos h0]
    rw [hpv] at h2 h3
    have : v = valD s.data.toList := by rw [h1]; exact IntWalk.i64_in _ h3
    rw [this, h2, bs_of]
end Go.Proofs.YtgooepfhapaenaaGreat
/- What the document's own answers for lists of numbers and for bytes as signs come to. Conditions: texts of at most 100,000 bytes, lists of at most 1,000 numbers. -/
namespace Go.Proofs.YtgooepfhapaenaaGreat
open Go.ChangeShapes Go.WideShapes Go.ChangeAt Go.RowKit
set_option linter.unusedVariables false
set_option maxRecDepth 100000
set_option linter.unusedSimpArgs false

theorem listL_snoc (p : List Int) (n : Int) : listL (p ++ [n]) = if p = [] then textL n else listL p ++ 44 :: textL n := by
  unfold listL
  rw [List.map_append, List.map_cons, List.map_nil, joinS_snoc]
  by_cases h : p = []
  · rw [if_pos h, if_pos (by simp [h])]
  · rw [if_neg h, if_neg (by simpa using h)]
theorem listL_len (ns : List Int) (hi : ∀ n ∈ ns, inI n) : ∀ k, (listL (ns.take k)).length ≤ 21 * k := by
  intro k
  induction k with
  | zero => simp [listL, joinS]
  | succ k ih =>
    by_cases h : k < ns.length
    · rw [List.take_succ_eq_append_getElem h, listL_snoc]
      have := textL_len ns[k] (hi _ (List.getElem_mem h))
      split
      · omega
      · simp; omega
    · rw [List.take_of_length_le (by omega)]
      rw [List.take_of_length_le (by omega)] at ih
      omega
/-- What is behind so many bytes of a text of numbers: done, and what is open. -/
def PlI (l : List UInt8) (i f : Nat) (out : List Int) : Prop :=
  f ≤ i ∧ f ≤ l.length ∧ out.length ≤ f ∧ (44 : UInt8) ∉ (l.drop f).take (i - f) ∧ ∃ done : List (List UInt8), done.map parV = out ∧ (∀ p ∈ done, parE p = 0) ∧ splitS 44 l = done ++ splitS 44 (l.drop f)
theorem plI_zero (l : List UInt8) : PlI l 0 0 [] := ⟨Nat.le_refl _, Nat.zero_le _, Nat.zero_le _, by simp, [], rfl, by simp, rfl⟩
theorem plI_more {l : List UInt8} {i f : Nat} {out : List Int} (h : PlI l i f out) (hi : i < l.length) (hc : l[i] ≠ 44) : PlI l (i + 1) f out := by
  obtain ⟨h1, h2, h3, h4, h5⟩ := h
  refine ⟨by omega, h2, h3, ?_, h5⟩
  rw [show i + 1 - f = (i - f) + 1 by omega, List.take_succ_eq_append_getElem (by rw [List.length_drop]; omega)]
  intro hm
  rcases List.mem_append.1 hm with hm | hm
  · exact h4 hm
  · rw [List.getElem_drop] at hm
    simp only [show f + (i - f) = i by omega, List.mem_singleton] at hm
    exact hc hm.symm
/-- The part that ends at a comma. -/
theorem plI_part {l : List UInt8} {i f : Nat} {out : List Int} (h : PlI l i f out) (hi : i < l.length) (hc : l[i] = 44) :
    splitS 44 (l.drop f) = (l.drop f).take (i - f) :: splitS 44 (l.drop (i + 1)) := by
  obtain ⟨h1, h2, h3, h4, h5⟩ := h
  have e : l.drop f = (l.drop f).take (i - f) ++ 44 :: l.drop (i + 1) := by
    conv => lhs; rw [← List.take_append_drop (i - f) (l.drop f)]
    rw [List.drop_drop, show f + (i - f) = i by omega, List.drop_eq_getElem_cons hi, hc]
  conv => lhs; rw [e]
  exact splitS_at 44 _ _ h4
theorem plI_last {l : List UInt8} {f : Nat} {out : List Int} (h : PlI l l.length f out) : splitS 44 (l.drop f) = [(l.drop f).take (l.length - f)] := by
  obtain ⟨h1, h2, h3, h4, h5⟩ := h
  have e : (l.drop f).take (l.length - f) = l.drop f := List.take_of_length_le (by rw [List.length_drop]; omega)
  rw [e] at h4 ⊢
  exact splitS_end 44 _ h4
theorem plI_next {l : List UInt8} {i f : Nat} {out : List Int} (h : PlI l i f out) (hi : i < l.length) (hc : l[i] = 44) (hp : parE ((l.drop f).take (i - f)) = 0) : PlI l (i + 1) (i + 1) (out ++ [parV ((l.drop f).take (i - f))]) := by
  have hpart := plI_part h hi hc
  obtain ⟨h1, h2, h3, h4, done, h5, h6, h7⟩ := h
  refine ⟨Nat.le_refl _, by omega, by simp; omega, by simp, done ++ [(l.drop f).take (i - f)], by simp [h5], ?_, ?_⟩
  · intro p hp2
    rcases List.mem_append.1 hp2 with hp2 | hp2
    · exact h6 p hp2
    · obtain rfl : p = _ := by simpa using hp2
      exact hp
  · rw [h7, hpart]; simp
theorem pl_bad {l : List UInt8} {i f : Nat} {out : List Int} (h : PlI l i f out) (part : List UInt8) (hm : part ∈ splitS 44 (l.drop f)) (hp : ¬ parE part = 0) (many : Int) : plE l many = 2 ∧ plV l many = [] := by
  have e : plE l many = 2 := by
    unfold plE
    rw [if_neg]
    rintro ⟨h1, _⟩
    obtain ⟨_, _, _, _, done, _, _, h7⟩ := h
    exact hp (h1 part (by rw [h7]; exact List.mem_append_right _ hm))
  exact ⟨e, by unfold plV; rw [e, if_neg (by omega)]⟩
theorem pl_done {l : List UInt8} {f : Nat} {out : List Int} (h : PlI l l.length f out) (hp : parE ((l.drop f).take (l.length - f)) = 0) (many : Int) :
    (((out ++ [parV ((l.drop f).take (l.length - f))]).length : Int) = many → plE l many = 0 ∧ plV l many = out ++ [parV ((l.drop f).take (l.length - f))]) ∧
    (((out ++ [parV ((l.drop f).take (l.length - f))]).length : Int) ≠ many → plE l many = 2 ∧ plV l many = []) := by
  have hlast := plI_last h
  obtain ⟨_, _, _, _, done, h5, h6, h7⟩ := h
  have hs : splitS 44 l = done ++ [(l.drop f).take (l.length - f)] := by rw [h7, hlast]
  have hall : ∀ p ∈ splitS 44 l, parE p = 0 := by
    rw [hs]
    intro p hp2
    rcases List.mem_append.1 hp2 with hp2 | hp2
    · exact h6 p hp2
    · obtain rfl : p = _ := by simpa using hp2
      exact hp
  have hlen : (splitS 44 l).length = (out ++ [parV ((l.drop f).take (l.length - f))]).length := by rw [hs, ← h5]; simp
  refine ⟨fun hm => ?_, fun hm => ?_⟩
  · have e : plE l many = 0 := by unfold plE; rw [if_pos ⟨hall, by rw [hlen]; exact hm⟩]
    exact ⟨e, by unfold plV; rw [if_pos e, hs, ← h5]; simp⟩
  · have e : plE l many = 2 := by
      unfold plE; rw [if_neg]
      rintro ⟨_, h2⟩
      rw [hlen] at h2; exact hm h2
    exact ⟨e, by unfold plV; rw [e, if_neg (by omega)]⟩

def PlR (l : List UInt8) (many : Int) (w : World) (e : Ending) (w' : World) : Prop :=
  ∃ v, e = .returned (.tuple #[v, .int .i64 (plE l many)]) ∧ Rd w' w'.heap.size v (ints (plV l many)) ∧ Below w.heap.size w w'
theorem plR_bad {l : List UInt8} {many : Int} {w w' : World} (h : plE l many = 2 ∧ plV l many = []) (hb : Below w.heap.size w w') : PlR l many w (.returned (.tuple #[.slice none 0 0, .int .i64 2])) w' :=
  ⟨.slice none 0 0, by rw [h.1]; rfl, by rw [h.2]; exact Rd.nil _ _, hb⟩
def PlJ (l : List UInt8) (many : Int) (k f : Nat) (out : List Int) : Prop :=
  (k ≤ l.length ∧ PlI l k f out) ∨ (k = l.length + 1 ∧ out.length ≤ k ∧ ((out.length : Int) = many → plE l many = 0 ∧ plV l many = out) ∧ ((out.length : Int) ≠ many → plE l many = 2 ∧ plV l many = []))
end Go.Proofs.YtgooepfhapaenaaGreat
