/- What the document's takers return. Conditions: the text is no longer than any text. -/
import Derived.Test.YtkipgipfplejoaaOctC
namespace Go.Proofs.Ytkipgipfplejoaa
open Go.ChangeShapes Go.WideShapes Go.ChangeAt Go.RowKit
set_option linter.unusedVariables false
set_option maxRecDepth 100000
set_option linter.unusedSimpArgs false

theorem take_snoc (s : ByteArray) (k : Nat) (h : k < s.size) : s.data.toList.take (k + 1) = s.data.toList.take k ++ [s[k]] := by
  rw [List.take_succ_eq_append_getElem (by simpa using h)]; rfl
def tfE (l : List UInt8) (size : Int) : Nat := if ¬ (1 ≤ size ∧ size ≤ 8) then 1 else if (l.length : Int) < size then 3 else 0
def tfV (l : List UInt8) (size : Int) : Nat := if tfE l size = 0 then bigV (l.take size.toNat) 0 else 0
def tfM (l : List UInt8) (size : Int) : Nat := if tfE l size = 0 then size.toNat else 0
theorem tvE_ne {l : List UInt8} (h : tvE l ≠ 0) : tvV l = 0 ∧ tvM l = 0 := by
  unfold tvV tvM; rw [if_neg h, if_neg h]; exact ⟨rfl, rfl⟩
theorem drop_val (s : ByteArray) (e j : Nat) (hj : j ≤ e) (he : e < s.size) :
    val ((s.data.toList.take (e + 1)).drop j) = (s[j]'(by omega)).toNat % 128 + 128 * val ((s.data.toList.take (e + 1)).drop (j + 1)) := by
  have hlen : j < (s.data.toList.take (e + 1)).length := by rw [List.length_take, data_len]; omega
  rw [List.drop_eq_getElem_cons hlen, List.getElem_take]; rfl
theorem tv_true (s : ByteArray) (k m : Nat) (he : leadN s.data.toList = k) (hk : k < s.size) (h9 : k < 9) (hV : val (s.data.toList.take (k + 1)) = m)
    (hq : ((bs (varL m)).toList == (s.extract 0 (k + 1)).toList) = true) : tvE s.data.toList = 0 ∧ tvV s.data.toList = m ∧ tvM s.data.toList = k + 1 := by
  subst he; subst hV
  rw [bs_toList, Lib.toList_data, extract_list, List.drop_zero, beq_iff_eq] at hq
  have h := (varL_iff s.data.toList (by rw [data_len]; exact hk) h9).1 hq
  have e := tvE_ok (l := s.data.toList) (by rw [data_len]; exact hk) (fun g => g.elim (fun g => by omega) h)
  refine ⟨e, ?_, ?_⟩
  · rw [tvV, if_pos e]
  · rw [tvM, if_pos e]
theorem tv_false (s : ByteArray) (k m : Nat) (he : leadN s.data.toList = k) (hk : k < s.size) (h9 : k < 9) (hV : val (s.data.toList.take (k + 1)) = m)
    (hq : ((bs (varL m)).toList == (s.extract 0 (k + 1)).toList) = false) : tvE s.data.toList = 2 := by
  subst he; subst hV
  rw [bs_toList, Lib.toList_data, extract_list, List.drop_zero, beq_eq_false_iff_ne] at hq
  refine tvE_form (by rw [data_len]; exact hk) (Or.inr ?_)
  by_cases h0 : 0 < leadN s.data.toList ∧ s.data.toList[leadN s.data.toList]? = some 0
  · exact h0
  · exact absurd ((varL_iff s.data.toList (by rw [data_len]; exact hk) h9).2 h0) hq
theorem tv_nine (s : ByteArray) (k : Nat) (hk : k < s.size) (h9 : 9 ≤ k) : ((bs (varL 0)).toList == (s.extract 0 (k + 1)).toList) = false := by
  rw [bs_toList, Lib.toList_data, extract_list, List.drop_zero, beq_eq_false_iff_ne]
  intro h
  have := congrArg List.length h
  rw [List.length_take, data_len, varL_lt (by omega), List.length_singleton] at this
  omega
end Go.Proofs.Ytkipgipfplejoaa
