/- words' Lines. Conditions: texts of at most 100,000 bytes. -/
import Derived.Test.YtlmijhladbinjaaDoorWrdRef
import Derived.Deep.LoopGhost
import Derived.WalkMore
namespace Go.Proofs.YtlmijhladbinjaaDoor
open Go.ChangeShapes Go.WideShapes Go.ChangeAt Go.RowKit
set_option linter.unusedVariables false
set_option maxRecDepth 100000
set_option linter.unusedSimpArgs false

theorem lines_at (l : List UInt8) (k : Nat) (h : k < l.length) (hp : (10 : UInt8) ∉ l.take k) (hc : l[k] = 10) : linesL l = l.take k :: linesL (l.drop (k + 1)) := by
  unfold linesL
  conv => lhs; rw [← List.take_append_drop k l, List.drop_eq_getElem_cons h, hc]
  rw [linesA_plain _ hp]
  simp only [linesA, if_true, List.nil_append]
theorem lines_last (l : List UInt8) (hp : (10 : UInt8) ∉ l) (h0 : l ≠ []) : linesL l = [l] := by
  unfold linesL
  have := linesA_plain l hp [] []
  rw [List.append_nil, List.nil_append] at this
  rw [this]
  simp [linesA, lastW, h0]
theorem notin_snoc (l : List UInt8) (k : Nat) (h : k < l.length) (hp : (10 : UInt8) ∉ l.take k) (hc : l[k] ≠ 10) : (10 : UInt8) ∉ l.take (k + 1) := by
  rw [List.take_succ_eq_append_getElem h]
  simp only [List.mem_append, List.mem_singleton]
  rintro (h1 | h1)
  · exact hp h1
  · exact hc h1.symm
/-- So far, and what is left. -/
def LsI (l : List UInt8) (out : List (List UInt8)) (r : ByteArray) : Prop := out.length + r.size ≤ l.length ∧ linesL l = out ++ linesL r.data.toList
theorem lsI_line {l : List UInt8} {out : List (List UInt8)} {r : ByteArray} (h : LsI l out r) (k : Nat) (hk : k < r.size) (hp : (10 : UInt8) ∉ r.data.toList.take k) (hc : r[k]'hk = 10) :
    LsI l (out ++ [(r.extract 0 k).data.toList]) (r.extract (k + 1) r.size) := by
  obtain ⟨h1, h2⟩ := h
  have x1 : (r.extract 0 k).data.toList = r.data.toList.take k := by rw [extract_list]; rfl
  have x2 : (r.extract (k + 1) r.size).data.toList = r.data.toList.drop (k + 1) := by rw [extract_list, ← data_len, List.take_length]
  have hl : (r.extract (k + 1) r.size).size = r.size - (k + 1) := by rw [← data_len, x2, List.length_drop, data_len]
  refine ⟨by rw [hl]; simp; omega, ?_⟩
  rw [h2, lines_at r.data.toList k (by rw [data_len]; exact hk) hp (by rw [wget r k hk]; exact hc), x1, x2]
  simp
theorem lsI_end {l : List UInt8} {out : List (List UInt8)} {r : ByteArray} (h : LsI l out r) (h0 : 0 < r.size) (hp : (10 : UInt8) ∉ r.data.toList) : linesL l = out ++ [r.data.toList] := by
  rw [h.2, lines_last _ hp (by intro e; have := data_len r; rw [e] at this; simp at this; omega)]
/-- No byte 10 so far. -/
def NoTen (r : ByteArray) (k : Nat) : Prop := (10 : UInt8) ∉ r.data.toList.take k
theorem noTen_zero (r : ByteArray) : NoTen r 0 := by unfold NoTen; simp
theorem noTen_next {r : ByteArray} {k : Nat} (h : NoTen r k) (hk : k < r.size) (hc : r[k]'hk ≠ 10) : NoTen r (k + 1) :=
  notin_snoc _ k (by rw [data_len]; exact hk) h (by rw [wget r k hk]; exact hc)
theorem noTen_all {r : ByteArray} (h : NoTen r r.size) : (10 : UInt8) ∉ r.data.toList := by
  unfold NoTen at h; rw [← data_len, List.take_length] at h; exact h
theorem empty_bytes (r : ByteArray) (h : r.size = 0) : r = ByteArray.mk #[] := by
  rw [← bs_of r]
  have : r.data.toList = [] := List.eq_nil_of_length_eq_zero (by rw [data_len]; exact h)
  rw [this]; rfl
theorem full_ne (r : ByteArray) (h : 0 < r.size) : (r.toList == (ByteArray.mk #[]).toList) = false ∧ (r.toList == []) = false := by
  have h1 : r.data.toList ≠ [] := fun e => by have := data_len r; rw [e] at this; simp at this; omega
  have h2 := cur_ne r.data.toList h1
  have h3 := cur_ne2 r.data.toList h1
  rw [bs_of] at h2 h3
  exact ⟨h2, h3⟩
end Go.Proofs.YtlmijhladbinjaaDoor
