/- What the document's own answers for bytes as signs come to, and its Same for numbers. Conditions: texts of at most 100,000 bytes. -/
import Derived.Test.YthpijibcfkcenaaDoorDecRef2
import Derived.Test.YthpijibcfkcenaaDoorSame
import Derived.Deep.DeepCutAuto
import Derived.Deep.CutRange
namespace Go.Proofs.YthpijibcfkcenaaDoor
open Go.ChangeShapes Go.WideShapes Go.ChangeAt Go.RowKit
set_option linter.unusedVariables false
set_option maxRecDepth 100000
set_option linter.unusedSimpArgs false

theorem below_drewN0 {B : Nat} {a w : World} (h : Below B a w) (n : Nat) : Below B a (w.drewN n) := ⟨h.os, h.tape, h.output, h.size, h.block⟩
theorem drewN_drewN (w : World) (m n : Nat) : (w.drewN m).drewN n = w.drewN (m + n) := by
  simp [World.drewN, Nat.add_assoc]
theorem sign_slice : ∀ k : Nat, k < 16 → (ByteArray.mk #[48, 49, 50, 51, 52, 53, 54, 55, 56, 57, 97, 98, 99, 100, 101, 102]).extract k (k + 1) = bs [signC k] := by decide
theorem sign_get : ∀ k : Nat, k < 16 → (ByteArray.mk #[48, 49, 50, 51, 52, 53, 54, 55, 56, 57, 97, 98, 99, 100, 101, 102]).data[k]? = some (signC k) := by decide
theorem sign_ix (w : World) (k : Nat) (h : k < 16) :
    (Instr.index 9 (.string (ByteArray.mk #[48, 49, 50, 51, 52, 53, 54, 55, 56, 57, 97, 98, 99, 100, 101, 102])) (.int .i64 (k : Int))).run Tryd.prog w = .ok (.int .u8 ((signC k).toNat : Nat)) w := by
  rw [run_index_string _ _ _ _ _ (by kernel_rfl)]
  have hz : (ByteArray.mk #[48, 49, 50, 51, 52, 53, 54, 55, 56, 57, 97, 98, 99, 100, 101, 102]).size = 16 := rfl
  rw [dif_pos ⟨by omega, by rw [hz]; omega⟩]
  have hg := sign_get k h
  have hk : k < (ByteArray.mk #[48, 49, 50, 51, 52, 53, 54, 55, 56, 57, 97, 98, 99, 100, 101, 102]).data.size := h
  rw [Array.getElem?_eq_getElem hk] at hg
  have := Option.some.inj hg
  rw [← this]; rfl
def UhI (l : List UInt8) (k : Nat) (out : List UInt8) : Prop := 2 * k ≤ l.length ∧ out.length = k ∧ unhex l = (unhex (l.drop (2 * k))).map (out ++ ·)
theorem uhI_zero (l : List UInt8) : UhI l 0 [] := ⟨by omega, rfl, by simp⟩
theorem drop_two (l : List UInt8) (i : Nat) (h : i + 1 < l.length) : l.drop i = l[i] :: l[i + 1] :: l.drop (i + 2) := by
  rw [List.drop_eq_getElem_cons (by omega), List.drop_eq_getElem_cons h]
theorem uhI_next {l : List UInt8} {k : Nat} {out : List UInt8} (h : UhI l k out) (h2 : 2 * k + 1 < l.length) (hx : signV l[2 * k] < 16) (hy : signV l[2 * k + 1] < 16) : UhI l (k + 1) (out ++ [UInt8.ofNat (signV l[2 * k] * 16 + signV l[2 * k + 1])]) := by
  obtain ⟨h1, h3, h4⟩ := h
  refine ⟨by omega, by simp [h3], ?_⟩
  rw [h4, drop_two l (2 * k) h2, show 2 * (k + 1) = 2 * k + 2 by omega]
  simp only [unhex, if_pos (And.intro hx hy), Option.map_map]
  congr 1
  funext x
  simp
theorem uhI_bad {l : List UInt8} {k : Nat} {out : List UInt8} (h : UhI l k out) (h2 : 2 * k + 1 < l.length) (hb : ¬ (signV l[2 * k] < 16 ∧ signV l[2 * k + 1] < 16)) : uhE l = 2 ∧ uhV l = [] := by
  obtain ⟨h1, h3, h4⟩ := h
  rw [drop_two l (2 * k) h2] at h4
  simp only [unhex, if_neg hb] at h4
  unfold uhE uhV
  rw [h4]; exact ⟨rfl, rfl⟩
theorem uhI_end {l : List UInt8} {k : Nat} {out : List UInt8} (h : UhI l k out) (h2 : 2 * k = l.length) : uhE l = 0 ∧ uhV l = out := by
  obtain ⟨h1, h3, h4⟩ := h
  rw [h2, List.drop_length] at h4
  unfold uhE uhV
  rw [h4]; simp [unhex]
theorem uh_odd : ∀ (l : List UInt8), l.length % 2 = 1 → uhE l = 2 ∧ uhV l = []
  | [], h => by simp at h
  | [_], h => ⟨rfl, rfl⟩
  | x :: y :: l, h => by
    have := uh_odd l (by simp at h; omega)
    unfold uhE uhV at this ⊢
    simp only [unhex]
    split
    · cases hu : unhex l with
      | none => exact ⟨rfl, rfl⟩
      | some r => rw [hu] at this; simp at this
    · exact ⟨rfl, rfl⟩
end Go.Proofs.YthpijibcfkcenaaDoor
