/- What octet.Var returns, and Text. Conditions: the number fits. -/
import Derived.Test.YtkahdmhgfojbiaaOctB
namespace Go.Proofs.Ytkahdmhgfojbiaa
open Go.ChangeShapes Go.WideShapes Go.ChangeAt Go.RowKit
set_option linter.unusedVariables false
set_option maxRecDepth 100000
set_option linter.unusedSimpArgs false

theorem u8_or128_all : ∀ x : Fin 256, bits .or .u8 ((x : Nat) : Int) 128 = (((x : Nat) % 128 + 128 : Nat) : Int) := by decide +kernel
theorem u8_not128_all : ∀ x : Fin 256, bits .andNot .u8 ((x : Nat) : Int) 128 = (((x : Nat) % 128 : Nat) : Int) := by decide +kernel
theorem u8_or128n (x : Nat) (h : x < 256) : bits .or .u8 (x : Int) 128 = ((x % 128 + 128 : Nat) : Int) := u8_or128_all ⟨x, h⟩
theorem u8_not128n (x : Nat) (h : x < 256) : bits .andNot .u8 (x : Int) 128 = ((x % 128 : Nat) : Int) := u8_not128_all ⟨x, h⟩
def varA (p : List UInt8) : Array Value := u8s (p ++ List.replicate (9 - p.length) 0)
theorem varA_zero : varA [] = #[Value.int IntKind.u8 0, Value.int IntKind.u8 0, Value.int IntKind.u8 0, Value.int IntKind.u8 0, Value.int IntKind.u8 0, Value.int IntKind.u8 0, Value.int IntKind.u8 0, Value.int IntKind.u8 0, Value.int IntKind.u8 0] := by
  simp [varA, u8s]
theorem varA_get (p : List UInt8) (i : Nat) (h : p.length ≤ 9) (hi : i < 9) : ∃ v, (varA p)[i]? = some v := by
  refine ⟨_, Array.getElem?_eq_getElem ?_⟩
  unfold varA; rw [u8s_size]; simp; omega
theorem varA_set (p : List UInt8) (c : UInt8) (h : p.length < 9) : (varA p).setIfInBounds p.length (.int .u8 c.toNat) = varA (p ++ [c]) := by
  unfold varA
  rw [show 9 - p.length = (9 - (p ++ [c]).length) + 1 by simp; omega, List.replicate_succ, u8s_set]; simp
theorem varA_at (p : List UInt8) (i : Nat) (hi : i < p.length) : (varA p)[i]? = some (.int .u8 (p[i]).toNat) := by
  unfold varA
  rw [u8s_get _ _ (by simp; omega)]
  simp [hi]

set_option maxRecDepth 100000 in
theorem var_in (n : Nat) (w : World) (hn : n < 9223372036854775808) :
    Calls Try.prog 17 #[.int .i64 n] w fun e w' => e = .returned (.string (bs (varL n))) ∧ Below w.heap.size w w' := by
  have h9 := varL_len n 9 (by have : 128 ^ 9 = 9223372036854775808 := by decide
                              omega) (by omega)
  go_enter Try.func17, Try.ntmps17
  go_wp2
  go_loopw [0, 4] (fun x i wr => ∃ p : List UInt8, ∃ m : Nat, varL n = p ++ varL m ∧ m ≤ n ∧ x = .int .i64 m ∧ i = .int .i64 p.length ∧ wr = w.alloc (.cells (varA p) 63)) (fun x _ _ => (intOf x).toNat)
  case atStart => exact ⟨[], n, rfl, by omega, rfl, rfl, by rw [varA_zero]⟩
  case round =>
    obtain ⟨p, m, he, hm, rfl, rfl, rfl⟩ := hrel
    by_cases hlt : m < 128
    · rw [varL_lt hlt] at he
      have hp : p.length ≤ 8 := by rw [he] at h9; simp at h9; omega
      obtain ⟨v, hv⟩ := varA_get p p.length (by omega) (by omega)
      have hq : Value.int .u8 (m : Int) = .int .u8 (UInt8.ofNat m).toNat := by simp; omega
      have hs : (varA p).setIfInBounds p.length (.int .u8 (m : Int)) = varA (p ++ [UInt8.ofNat m]) := by rw [hq]; exact varA_set p _ (by omega)
      have hl : (p ++ [UInt8.ofNat m]).length = p.length + 1 := by simp
      generalize p ++ [UInt8.ofNat m] = r at *
      have HE := Lib.hid he
      have hsl := run_sliceAt_arr_h (P := Try.prog) (w.alloc (.cells (varA r) 63)) 63 5 9 1 (by kernel_rfl) (fun _ => by simp [go_sem]) ⟨w.heap.size, 0, none⟩ .i64 ((p.length : Int) + 1) (by omega) (by omega)
      have hcv := run_convert_bytes_back (P := Try.prog) (w.alloc (.cells (varA r) 63)) 57 9 5 ⟨w.heap.size, 0, none⟩ 9 r (by kernel_rfl) (by kernel_rfl) (by kernel_rfl) (fun i hi => by
        have := varA_at r i hi
        by_cases h0 : i = 0
        · subst h0; simp [Addr.add]; exact this
        · simp [Addr.add, h0]; exact this)
      rw [hl] at hcv
      clear hl hq he
      go_wp2
      go_ret
      exact ⟨str_ret (by rw [HE.out]; rfl), (Below.refl _ _).alloc (Nat.le_refl _) _⟩
    · rw [varL_ge hlt] at he
      have hp : p.length ≤ 8 := by rw [he] at h9; simp at h9; omega
      have HE := Lib.hid he
      clear he
      obtain ⟨v, hv⟩ := varA_get p p.length (by omega) (by omega)
      have hp7 : p.length < 9 := by omega
      go_wp2
      go_roundw
      case rel => 
        refine ⟨p ++ [UInt8.ofNat (m % 128 + 128)], m / 128, by rw [HE.out]; simp, by omega, by simp, by simp, ?_⟩
        rw [← varA_set p _ hp7, show (m : Int) % 256 = ((m % 256 : Nat) : Int) by simp, u8_or128n _ (by omega)]
        congr 4
        simp; omega
      case measure => simp [intOf]; omega
def varS (n : Int) : ByteArray := if n < 0 then bs [] else bs (varL n.toNat)
theorem varS_neg {n : Int} (h : n < 0) : varS n = bs [] := by unfold varS; rw [if_pos h]
theorem varS_nat (n : Nat) : varS n = bs (varL n) := by unfold varS; rw [if_neg (by omega)]; simp
theorem var_any (n : Int) (w : World) (h2 : n ≤ 9223372036854775807) :
    Calls Try.prog 17 #[.int .i64 n] w fun e w' => e = .returned (.string (varS n)) ∧ Below w.heap.size w w' := by
  by_cases h : n < 0
  · rw [varS_neg h]
    go_enter Try.func17, Try.ntmps17
    go_wp2
    go_ret
    exact ⟨rfl, Below.refl _ _⟩
  · obtain ⟨k, rfl⟩ : ∃ k : Nat, n = k := ⟨n.toNat, by omega⟩
    rw [varS_nat]
    exact var_in k w (by omega)
theorem rvar_any (n : Int) (w : World) (h2 : n ≤ 9223372036854775807) :
    Calls Try.prog 20 #[.int .i64 n] w fun e w' => e = .returned (.string (varS n)) ∧ Below w.heap.size w w' := by
  by_cases h : n < 0
  · rw [varS_neg h]
    go_enter Try.func20, Try.ntmps20
    go_wp2_with fail
    go_ret
    exact ⟨rfl, Below.refl _ _⟩
  · obtain ⟨k, rfl⟩ : ∃ k : Nat, n = k := ⟨n.toNat, by omega⟩
    rw [varS_nat]
    exact rvar_in k w (by omega)
def textS (s : ByteArray) : ByteArray := bs (varL s.size) ++ s
theorem varL_nine (n : Nat) (h : n < 9223372036854775808) : (bs (varL n)).size ≤ 9 := by
  rw [bs_size]
  exact varL_len n 9 (by have : 128 ^ 9 = 9223372036854775808 := by decide
                         omega) (by omega)
end Go.Proofs.Ytkahdmhgfojbiaa
