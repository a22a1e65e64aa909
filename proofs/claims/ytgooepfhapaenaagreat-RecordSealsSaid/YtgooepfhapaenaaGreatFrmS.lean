/- What seals and frames in a row are told by. Conditions: none. -/
import Derived.Test.YtgooepfhapaenaaGreatFrmPlain
import Derived.Test.YtgooepfhapaenaaGreatOctJ
import Derived.Test.YtgooepfhapaenaaGreatSlices
import Derived.Test.YtgooepfhapaenaaGreatSame
namespace Go.Proofs.YtgooepfhapaenaaGreat
open Go.ChangeShapes Go.WideShapes Go.ChangeAt Go.RowKit
set_option linter.unusedVariables false
set_option maxRecDepth 100000
set_option linter.unusedSimpArgs false

def sealE (s : ByteArray) : Nat := if 200 < s.size then 9 else 0
def sealT (s : ByteArray) : ByteArray := if 200 < s.size then bs [] else bs (sealL s.data.toList)
theorem told_lt (l : List UInt8) : told l < 65536 := by
  have hb := bigV_lt ((l.drop 1).take 2) 0
  have hp : 256 ^ ((l.drop 1).take 2).length ≤ 256 ^ 2 := Nat.pow_le_pow_right (by omega) (by simp; omega)
  unfold told; omega
def AllR (l : List UInt8) (w : World) (e : Ending) (w' : World) : Prop :=
  ∃ v, e = .returned (.tuple #[v, .int .i64 (used l)]) ∧ Rd w' w'.heap.size v (strs (bodies l)) ∧ Below w.heap.size w w'
/-- So much is behind a round. -/
def AllI (l : List UInt8) (k : Nat) (out : List (List UInt8)) : Prop := k ≤ l.length ∧ bodies l = out ++ bodies (l.drop k) ∧ used l = k + used (l.drop k) ∧ out.length ≤ k
theorem allI_zero (l : List UInt8) : AllI l 0 [] := ⟨Nat.zero_le _, by simp, by simp, Nat.zero_le _⟩
theorem allI_next {l : List UInt8} {k : Nat} {out : List (List UInt8)} (h : AllI l k out) (he : openE (l.drop k) = 0) : AllI l (k + openN (l.drop k)) (out ++ [openB (l.drop k)]) := by
  obtain ⟨h1, h2, h3, h4⟩ := h
  have hn := openN_le he
  rw [List.length_drop] at hn
  refine ⟨by omega, ?_, ?_, by simp; omega⟩
  · rw [h2, bodies_ok he, List.drop_drop]; simp
  · rw [h3, used_ok he, List.drop_drop]; omega
theorem allI_end {l : List UInt8} {k : Nat} {out : List (List UInt8)} (h : AllI l k out) (he : openE (l.drop k) ≠ 0) : bodies l = out ∧ used l = k := by
  obtain ⟨h1, h2, h3, h4⟩ := h
  rw [bodies_end he] at h2
  rw [used_end he] at h3
  exact ⟨by simpa using h2, by omega⟩
end Go.Proofs.YtgooepfhapaenaaGreat
