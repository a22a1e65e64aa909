/- What the document's own answers for numbers as texts come to. Conditions: texts of at most 1,000 bytes, lists of at most 1,000 numbers. -/
import Derived.Test.YtkahdmhgfojbiaaRows
import Derived.Test.YtkahdmhgfojbiaaPlains
import Derived.Test.YtkahdmhgfojbiaaSlices
namespace Go.Proofs.Ytkahdmhgfojbiaa
open Go.ChangeShapes Go.WideShapes Go.ChangeAt Go.RowKit
set_option linter.unusedVariables false
set_option maxRecDepth 100000
set_option linter.unusedSimpArgs false

theorem dig_slice : ∀ k : Nat, k < 10 → (ByteArray.mk #[48, 49, 50, 51, 52, 53, 54, 55, 56, 57]).extract k (k + 1) = bs [digC k] := by decide
theorem textL_nat (k : Nat) : textL (k : Int) = decL k := by unfold textL; rw [if_neg (by omega), Int.natAbs_natCast]
theorem textL_neg (k : Nat) (h : 0 < k) : textL (-(k : Int)) = 45 :: decL k := by unfold textL; rw [if_pos (by omega), Int.natAbs_neg, Int.natAbs_natCast]
/-- What the characters behind the sign come to, as the machine reckons. -/
def ParI (l : List UInt8) (k : Nat) (n : Int) : Prop := n = IntKind.i64.wrap (valD (l.take k)) ∧ (0 < k → ∀ h : 0 < l.length, l[0] = 45 ∨ isDig l[0])
theorem parI_lo (l : List UInt8) (k : Nat) (n : Int) (h : ParI l k n) : -9223372036854775808 ≤ n ∧ n ≤ 9223372036854775807 := by
  obtain ⟨rfl, _⟩ := h
  rw [IntKind.wrap_i64]; omega
theorem lget (s : ByteArray) (k : Nat) (h : k < s.size) : s.data.toList[k]'(by rw [data_len]; exact h) = s[k] := by simp; rfl
theorem ltake (s : ByteArray) (k : Nat) (h : k < s.size) : s.data.toList.take (k + 1) = s.data.toList.take k ++ [s[k]] := by
  rw [List.take_succ_eq_append_getElem (by rw [data_len]; exact h), lget s k h]
theorem u8_eq {c d : UInt8} (h : c.toNat = d.toNat) : c = d := UInt8.toNat_inj.1 h
theorem parI_skip (s : ByteArray) (h : 0 < s.size) (v : Int) (hI : ParI s.data.toList 0 v) (h45 : (s[0]'h).toNat = 45) : ParI s.data.toList 1 v := by
  obtain ⟨h1, h2⟩ := hI
  have e : s[0]'h = 45 := u8_eq h45
  refine ⟨?_, fun _ hl => Or.inl ?_⟩
  · rw [h1, ltake s 0 h, e]; rfl
  · rw [lget s 0 h]; exact e
theorem parI_step (s : ByteArray) (k : Nat) (h0 : 0 < s.size) (h : k < s.size) (v : Int) (hI : ParI s.data.toList k v) (hm : ¬ (k = 0 ∧ (s[0]'h0).toNat = 45)) (hd : 48 ≤ (s[k]'h).toNat ∧ (s[k]'h).toNat ≤ 57) (n : Int)
    (hn : n = IntKind.i64.wrap (IntKind.i64.wrap (v * 10) + (if (s[0]'h0).toNat = 45 then -(((s[k]'h).toNat : Int) - 48) else ((s[k]'h).toNat : Int) - 48))) : ParI s.data.toList (k + 1) n := by
  obtain ⟨h1, h2⟩ := hI
  have hnil : s.data.toList.take k = [] → s[k]'h ≠ 45 := fun e e2 => by
    have := congrArg List.length e
    rw [List.length_take, data_len] at this
    simp only [List.length_nil] at this
    have hk : k = 0 := by omega
    subst hk
    exact hm ⟨rfl, by rw [e2]; rfl⟩
  have hhead : (s.data.toList.take k).head? = some 45 ↔ (s[0]'h0).toNat = 45 := by
    by_cases hk : k = 0
    · subst hk
      constructor
      · intro e; simp at e
      · intro e; exact absurd ⟨rfl, e⟩ hm
    · rw [List.head?_take, if_neg hk, List.head?_eq_getElem?, List.getElem?_eq_getElem (by rw [data_len]; exact h0), lget s 0 h0]
      constructor
      · intro e; simp at e; rw [e]; rfl
      · intro e; rw [u8_eq (d := 45) e]
  refine ⟨?_, fun _ hl => ?_⟩
  · rw [hn, h1, ltake s k h, valD_snoc _ _ hnil]
    by_cases e : (s[0]'h0).toNat = 45
    · rw [if_pos e, if_pos (hhead.2 e)]
      simp only [IntKind.wrap_i64]; omega
    · rw [if_neg e, if_neg (fun x => e (hhead.1 x))]
      simp only [IntKind.wrap_i64]; omega
  · rw [lget s 0 h0]
    by_cases hk : k = 0
    · subst hk; exact Or.inr hd
    · have := h2 (Nat.pos_of_ne_zero hk) hl
      rw [lget s 0 h0] at this; exact this
theorem parI_bad (s : ByteArray) (k : Nat) (h0 : 0 < s.size) (h : k < s.size) (hm : ¬ (k = 0 ∧ (s[0]'h0).toNat = 45)) (hd : ¬ (48 ≤ (s[k]'h).toNat ∧ (s[k]'h).toNat ≤ 57)) : parE s.data.toList = 2 ∧ parV s.data.toList = 0 := by
  refine parE_char _ k (by rw [data_len]; exact h) ?_ (by rw [lget s k h]; exact hd)
  by_cases hk : k = 0
  · right
    rw [lget s 0 h0]
    intro e
    exact hm ⟨hk, by rw [e]; rfl⟩
  · exact Or.inl hk
theorem parI_end (s : ByteArray) (v : Int) (hI : ParI s.data.toList s.size v) :
    (bs (textL v) = s ∧ parE s.data.toList = 0 ∧ parV s.data.toList = v) ∨ (bs (textL v) ≠ s ∧ parE s.data.toList = 2 ∧ parV s.data.toList = 0) := by
  have hv := parI_lo _ _ _ hI
  obtain ⟨h1, _⟩ := hI
  rw [List.take_of_length_le (by rw [data_len]; exact Nat.le_refl _)] at h1
  by_cases e : bs (textL v) = s
  · have := parE_iff s.data.toList v hv (by rw [← e, bs_list])
    exact Or.inl ⟨e, this.1, this.2⟩
  · refine Or.inr ⟨e, par_bad fun h0 => e ?_⟩
    obtain ⟨h2, h3⟩ := par_ok h0
    have hpv : parV s.data.toList = valD s.data.toList := by unfold parV; rw [if_pos h0]
    rw [hpv] at h2 h3
    have : v = valD s.data.toList := by rw [h1]; exact IntWalk.i64_in _ h3
    rw [this, h2, bs_of]
end Go.Proofs.Ytkahdmhgfojbiaa
