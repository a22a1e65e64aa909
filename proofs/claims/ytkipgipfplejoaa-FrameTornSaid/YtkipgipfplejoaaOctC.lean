/- What octet.Var returns, and Text. Conditions: the number fits. -/
import Derived.Test.YtkipgipfplejoaaOctB
namespace Go.Proofs.Ytkipgipfplejoaa
open Go.ChangeShapes Go.WideShapes Go.ChangeAt Go.RowKit
set_option linter.unusedVariables false
set_option maxRecDepth 100000
set_option linter.unusedSimpArgs false

theorem u8_or128_all : ∀ x : Fin 256, bits .or .u8 ((x : Nat) : Int) 128 = (((x : Nat) % 128 + 128 : Nat) : Int) := by decide +kernel
theorem u8_not128_all : ∀ x : Fin 256, bits .andNot .u8 ((x : Nat) : Int) 128 = (((x : Nat) % 128 : Nat) : Int) := by decide +kernel
theorem u8_or128n (x : Nat) (h : x < 256) : bits .or .u8 (x : Int) 128 = ((x % 128 + 128 : Nat) : Int) := u8_or128_all ⟨x, h⟩
theorem u8_not128n (x : Nat) (h : x < 256) : bits .andNot .u8 (x : Int) 128 = ((x % 128 : Nat) : Int) := u8_not128_all ⟨x, h⟩
def varA (p : List UInt8) : Array Value := u8s (p ++ List.replicate (9 - p.length) 0)
theorem varA_zero : varA [] = #[Value.int IntKind.u8 0, Value.int IntKind.u8 0, Value.int IntKind.u8 0, Value.int IntKind.u8 0, Value.int IntKind.u8 0, Value.int IntKind.u8 0, Value.int IntKind.u8 0, Value.int IntKind.u8 0, Value.int IntKind.u8 0] := by
  simp [varA, u8s]
theorem varA_get (p : List UInt8) (i : Nat) (h : p.length ≤ 9) (hi : i < 9) : ∃ v, (varA p)[i]? = some v := by
  refine ⟨_, Array.getElem?_eq_getElem ?_⟩
  unfold varA; rw [u8s_size]; simp; omega
theorem varA_set (p : List UInt8) (c : UInt8) (h : p.length < 9) : (varA p).setIfInBounds p.length (.int .u8 c.toNat) = varA (p ++ [c]) := by
  unfold varA
  rw [show 9 - p.length = (9 - (p ++ [c]).length) + 1 by simp; omega, List.replicate_succ, u8s_set]; simp
theorem varA_at (p : List UInt8) (i : Nat) (hi : i < p.length) : (varA p)[i]? = some (.int .u8 (p[i]).toNat) := by
  unfold varA
  rw [u8s_get _ _ (by simp; omega)]
  simp [hi]

def varS (n : Int) : ByteArray := if n < 0 then bs [] else bs (varL n.toNat)
theorem varS_neg {n : Int} (h : n < 0) : varS n = bs [] := by unfold varS; rw [if_pos h]
theorem varS_nat (n : Nat) : varS n = bs (varL n) := by unfold varS; rw [if_neg (by omega)]; simp
def textS (s : ByteArray) : ByteArray := bs (varL s.size) ++ s
theorem varL_nine (n : Nat) (h : n < 9223372036854775808) : (bs (varL n)).size ≤ 9 := by
  rw [bs_size]
  exact varL_len n 9 (by have : 128 ^ 9 = 9223372036854775808 := by decide
                         omega) (by omega)
end Go.Proofs.Ytkipgipfplejoaa
