/- dec's ParseHex. Conditions: texts of at most 100,000 bytes. -/
import Derived.Test.YtgiofaccigkfjaaDoorDecC
import Derived.Laws.Runes
import Derived.WalkMore
namespace Go.Proofs.YtgiofaccigkfjaaDoor
open Go.ChangeShapes Go.WideShapes Go.ChangeAt Go.RowKit
set_option linter.unusedVariables false
set_option maxRecDepth 100000
set_option linter.unusedSimpArgs false

theorem sign_le (k : Nat) (h : k < 16) : (signC k).toNat ≤ 102 := by
  unfold signC; split
  · simp; omega
  · simp; omega
theorem ix_no (l : List UInt8) (c : UInt8) (h : ∀ b ∈ l, b ≠ c) : Lib.indexByte l c = -1 := by
  induction l with
  | nil => rfl
  | cons b l ih =>
    unfold Lib.indexByte
    rw [ih (fun x hx => h x (by simp [hx]))]
    have : (b == c) = false := by simpa using h b (by simp)
    rw [this]; rfl
theorem ix_sign_all : ∀ n : Fin 256, Lib.indexByte [48, 49, 50, 51, 52, 53, 54, 55, 56, 57, 97, 98, 99, 100, 101, 102] (UInt8.ofNat n.val) = if signV (UInt8.ofNat n.val) < 16 then (signV (UInt8.ofNat n.val) : Int) else -1 := by decide +kernel
theorem ix_sign (c : UInt8) : Lib.indexByte [48, 49, 50, 51, 52, 53, 54, 55, 56, 57, 97, 98, 99, 100, 101, 102] c = if signV c < 16 then (signV c : Int) else -1 := by
  have := ix_sign_all ⟨c.toNat, c.toNat_lt⟩
  rw [show UInt8.ofNat (⟨c.toNat, c.toNat_lt⟩ : Fin 256).val = c from UInt8.ofNat_toNat] at this
  exact this
theorem sign_small : ∀ b ∈ (ByteArray.mk #[48, 49, 50, 51, 52, 53, 54, 55, 56, 57, 97, 98, 99, 100, 101, 102]).data.toList, b.toNat < 128 := by decide
/-- Signs, and what they count. -/
def good16 (c : UInt8) : Bool := decide (signV c < 16)
theorem good16_low (c : UInt8) (h : good16 c = true) : c.toNat < 128 := by
  have h1 : signV c < 16 := by simpa [good16] using h
  unfold signV at h1
  split at h1
  · omega
  · split at h1
    · omega
    · omega
theorem take_two (l : List UInt8) (i : Nat) (h : i + 1 < l.length) : (l.take (i + 2)).drop i = [l[i], l[i + 1]] := by
  rw [List.drop_take, show i + 2 - i = 2 by omega, drop_two l i h]; rfl
end Go.Proofs.YtgiofaccigkfjaaDoor
