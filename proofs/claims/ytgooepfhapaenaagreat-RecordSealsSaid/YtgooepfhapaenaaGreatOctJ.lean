/- What octet.Fixed returns. Conditions: the number fits. -/
import Derived.Test.YtgooepfhapaenaaGreatRows
import Derived.Test.YtgooepfhapaenaaGreatOctPlain
import Derived.Deep.WholeRow
namespace Go.Proofs.YtgooepfhapaenaaGreat
open Go.ChangeShapes Go.WideShapes Go.ChangeAt Go.RowKit
set_option linter.unusedVariables false
set_option maxRecDepth 100000
set_option linter.unusedSimpArgs false

/-- Cells of bytes. -/
def u8s (l : List UInt8) : Array Value := (l.map fun b => Value.int .u8 b.toNat).toArray
theorem u8s_get (l : List UInt8) (i : Nat) (h : i < l.length) : (u8s l)[i]? = some (.int .u8 (l[i]).toNat) := by
  simp [u8s, h]
theorem u8s_size (l : List UInt8) : (u8s l).size = l.length := by simp [u8s]
theorem u8s_set (l r : List UInt8) (b c : UInt8) : (u8s (l ++ c :: r)).setIfInBounds l.length (.int .u8 b.toNat) = u8s (l ++ b :: r) := by
  simp [u8s, List.setIfInBounds_toArray]

/-- The array behind so many rounds. -/
def fixA (n size j : Nat) : Array Value := u8s (List.replicate (size - j) 0 ++ (fixL n j ++ List.replicate (8 - size) 0))
theorem fixA_zero (n size : Nat) (h : size ≤ 8) : fixA n size 0 = #[Value.int IntKind.u8 0, Value.int IntKind.u8 0, Value.int IntKind.u8 0, Value.int IntKind.u8 0, Value.int IntKind.u8 0, Value.int IntKind.u8 0, Value.int IntKind.u8 0, Value.int IntKind.u8 0] := by
  simp [fixA, fixL, u8s, show size + (8 - size) = 8 by omega]
theorem fixA_succ (n size j : Nat) (h : j < size) : (fixA n size j).setIfInBounds (size - 1 - j) (.int .u8 (UInt8.ofNat (n / 256 ^ j)).toNat) = fixA n size (j + 1) := by
  unfold fixA
  have e : List.replicate (size - j) (0 : UInt8) = List.replicate (size - 1 - j) 0 ++ [0] := by
    rw [show size - j = (size - 1 - j) + 1 by omega, List.replicate_succ']
  rw [e, List.append_assoc, List.singleton_append]
  have := u8s_set (List.replicate (size - 1 - j) 0) (fixL n j ++ List.replicate (8 - size) 0) (UInt8.ofNat (n / 256 ^ j)) 0
  rw [List.length_replicate] at this
  rw [this, show size - (j + 1) = size - 1 - j by omega]; rfl
theorem fixA_get (n size j i : Nat) (h : size ≤ 8) (hj : j ≤ size) (hi : i < 8) : ∃ v, (fixA n size j)[i]? = some v := by
  refine ⟨_, Array.getElem?_eq_getElem ?_⟩
  unfold fixA; rw [u8s_size]; simp [fixL_length]; omega
theorem fixA_last (n size i : Nat) (hi : i < size) : (fixA n size size)[i]? = some (.int .u8 ((fixL n size)[i]'(by rw [fixL_length]; exact hi)).toNat) := by
  unfold fixA
  rw [u8s_get _ _ (by simp [fixL_length]; omega)]
  simp [List.getElem_append, fixL_length, hi]

set_option maxRecDepth 100000 in
theorem fixed_in (n size : Nat) (w : World) (hn : n < 18446744073709551616) (h1 : 1 ≤ size) (h8 : size ≤ 8) :
    Calls Tryz.prog 40 #[.int .u64 n, .int .i64 size] w fun e w' => e = .returned (.string (bs (fixL n size))) ∧ Below w.heap.size w w' := by
  have d1 : decide ((size : Int) < 1) = false := decide_eq_false (by omega)
  have d2 : decide ((8 : Int) < size) = false := decide_eq_false (by omega)
  go_enter Tryz.func40, Tryz.ntmps40
  go_wp2
  go_loopw [0, 6] (fun x i wr => ∃ j : Nat, j ≤ size ∧ x = .int .u64 ((n / 256 ^ j : Nat) : Int) ∧ i = .int .i64 ((size : Int) - 1 - j) ∧ wr = w.alloc (.cells (fixA n size j) 84)) (fun _ i _ => (intOf i + 1).toNat)
  case atStart => exact ⟨0, by omega, by simp, by simp, by rw [fixA_zero n size h8]⟩
  case round =>
    obtain ⟨j, hj, rfl, rfl, rfl⟩ := hrel
    by_cases hlt : j < size
    · obtain ⟨v, hv⟩ := fixA_get n size j (size - 1 - j) h8 hj (by omega)
      go_wp2
      go_roundw
      case rel => exact ⟨j + 1, by omega, by rw [Nat.pow_succ, ← Nat.div_div_eq_div_mul]; simp, by go_num, by rw [← fixA_succ n size j hlt]; simp⟩
      case measure => simp [intOf]; omega
    · obtain rfl : j = size := by omega
      have hsl := run_sliceAt_arr_h (P := Tryz.prog) (w.alloc (.cells (fixA n j j) 84)) 84 5 8 1 (by kernel_rfl) (fun _ => by simp [go_sem]) ⟨w.heap.size, 0, none⟩ .i64 j (by omega) (by omega)
      have hcv := run_convert_bytes_back (P := Tryz.prog) (w.alloc (.cells (fixA n j j) 84)) 74 9 5 ⟨w.heap.size, 0, none⟩ 8 (fixL n j) (by kernel_rfl) (by kernel_rfl) (by kernel_rfl) (fun i hi => by
        rw [fixL_length] at hi
        have := fixA_last n j i hi
        by_cases h0 : i = 0
        · subst h0; simp [Addr.add]; exact this
        · simp [Addr.add, h0]; exact this)
      rw [fixL_length] at hcv
      go_wp2
      go_ret
      exact ⟨rfl, (Below.refl _ _).alloc (Nat.le_refl _) _⟩
def fixS (n : Nat) (size : Int) : ByteArray := if 1 ≤ size ∧ size ≤ 8 then bs (fixL n size.toNat) else bs []
set_option maxRecDepth 100000 in
theorem fixed_any (x size : Int) (w : World) (h0 : 0 ≤ x) (hx : x < 18446744073709551616) :
    Calls Tryz.prog 40 #[.int .u64 x, .int .i64 size] w fun e w' => e = .returned (.string (fixS x.toNat size)) ∧ Below w.heap.size w w' := by
  by_cases h : 1 ≤ size ∧ size ≤ 8
  · have := fixed_in x.toNat size.toNat w (by omega) (by omega) (by omega)
    rw [Int.toNat_of_nonneg h0, Int.toNat_of_nonneg (by omega)] at this
    unfold fixS; rw [if_pos h]; exact this
  · unfold fixS; rw [if_neg h]
    by_cases h1 : size < 1
    · go_enter Tryz.func40, Tryz.ntmps40
      go_wp2
      go_ret
      exact ⟨rfl, Below.refl _ _⟩
    · have h2 : 8 < size := by omega
      clear h
      go_enter Tryz.func40, Tryz.ntmps40
      go_wp2
      go_ret
      exact ⟨rfl, Below.refl _ _⟩
set_option maxRecDepth 100000 in
theorem rfixed_in (n size : Nat) (w : World) (hn : n < 18446744073709551616) (h1 : 1 ≤ size) (h8 : size ≤ 8) :
    Calls Tryz.prog 49 #[.int .u64 n, .int .i64 size] w fun e w' => e = .returned (.string (bs (fixL n size))) ∧ Below w.heap.size w w' := by
  have d1 : decide ((size : Int) < 1) = false := decide_eq_false (by omega)
  have d2 : decide ((8 : Int) < size) = false := decide_eq_false (by omega)
  go_enter Tryz.func49, Tryz.ntmps49
  go_wp2
  go_loopw [0, 5, 6] (fun x s i wr => ∃ j : Nat, j ≤ size ∧ x = .int .u64 ((n / 256 ^ j : Nat) : Int) ∧ s = .string (bs (fixL n j)) ∧ i = .int .i64 j ∧ Below w.heap.size w wr) (fun _ _ i _ => size - (intOf i).toNat)
  case atStart => exact ⟨0, by omega, by simp, rfl, by simp, Below.refl _ _⟩
  case round =>
    obtain ⟨j, hj, rfl, rfl, rfl, hb⟩ := hrel
    by_cases hlt : j < size
    · have hsz : (bs (fixL n j)).size ≤ 8 := by rw [bs_size, fixL_length]; omega
      have hcv := fun (w : World) (v : Int) => conv_new (P := Tryz.prog) w 74 9 5 v _ rfl (by kernel_rfl) (by kernel_rfl) (by kernel_rfl)
      have hm1 : n / 256 ^ j < 18446744073709551616 := Nat.lt_of_le_of_lt (Nat.div_le_self _ _) hn
      have hm2 : n / 256 ^ (j + 1) = n / 256 ^ j / 256 := by rw [Nat.pow_succ, Nat.div_div_eq_div_mul]
      have hm3 : bs [UInt8.ofNat (n / 256 ^ j % 256)] ++ bs (fixL n j) = bs (fixL n (j + 1)) := by
        rw [bs_append, show fixL n (j + 1) = UInt8.ofNat (n / 256 ^ j) :: fixL n j from rfl]
        rw [show UInt8.ofNat (n / 256 ^ j % 256) = UInt8.ofNat (n / 256 ^ j) by rw [← UInt8.toNat_inj]; simp]; rfl
      generalize n / 256 ^ j = m at *
      have hs1 : (bs [UInt8.ofNat (m % 256)]).size ≤ 1 := by rw [bs_size]; simp
      have HM2 := Lib.hid hm2
      have HM3 := Lib.hid hm3
      clear hm2 hm3
      go_wp2
      go_roundw
      case rel => exact ⟨j + 1, by omega, by rw [HM2.out]; simp, by rw [HM3.out], by go_num, hb.alloc hb.size _⟩
      case measure => simp [intOf]; omega
    · obtain rfl : j = size := by omega
      go_wp2
      go_ret
      exact ⟨rfl, by assumption⟩
set_option maxRecDepth 100000 in
theorem rfixed_any (x size : Int) (w : World) (h0 : 0 ≤ x) (hx : x < 18446744073709551616) :
    Calls Tryz.prog 49 #[.int .u64 x, .int .i64 size] w fun e w' => e = .returned (.string (fixS x.toNat size)) ∧ Below w.heap.size w w' := by
  by_cases h : 1 ≤ size ∧ size ≤ 8
  · have := rfixed_in x.toNat size.toNat w (by omega) (by omega) (by omega)
    rw [Int.toNat_of_nonneg h0, Int.toNat_of_nonneg (by omega)] at this
    unfold fixS; rw [if_pos h]; exact this
  · unfold fixS; rw [if_neg h]
    by_cases h1 : size < 1
    · go_enter Tryz.func49, Tryz.ntmps49
      go_wp2
      go_ret
      exact ⟨rfl, Below.refl _ _⟩
    · have h2 : 8 < size := by omega
      clear h
      go_enter Tryz.func49, Tryz.ntmps49
      go_wp2
      go_ret
      exact ⟨rfl, Below.refl _ _⟩
end Go.Proofs.YtgooepfhapaenaaGreat
/- What octet.Var and the document's Var return. Conditions: the number fits. -/
namespace Go.Proofs.YtgooepfhapaenaaGreat
open Go.ChangeShapes Go.WideShapes Go.ChangeAt Go.RowKit
set_option linter.unusedVariables false
set_option maxRecDepth 100000
set_option linter.unusedSimpArgs false

set_option maxRecDepth 100000 in
theorem rvar_in (n : Nat) : ∀ (w : World), n < 9223372036854775808 →
    Calls Tryz.prog 20 #[.int .i64 n] w fun e w' => e = .returned (.string (bs (varL n))) ∧ Below w.heap.size w w' := by
  induction n using Nat.strongRecOn with
  | ind n ih =>
    intro w hn
    by_cases h : n < 128
    · rw [varL_lt h]
      clear ih
      have hcv := fun (w : World) => conv_new (P := Tryz.prog) w 74 9 5 n (UInt8.ofNat n) (by simp) (by kernel_rfl) (by kernel_rfl) (by kernel_rfl)
      go_enter Tryz.func20, Tryz.ntmps20
      go_wp2_with fail
      go_ret
      exact ⟨rfl, (Below.refl _ _).alloc (Nat.le_refl _) _⟩
    · have ih' := fun w => ih (n / 128) (by omega) w (by omega)
      have hl := varL_len (n / 128) 9 (by have : 128 ^ 9 = 9223372036854775808 := by decide
                                          omega) (by omega)
      have hv : UInt8.ofNat ((n : Int) % 128 + 128).toNat = UInt8.ofNat (n % 128 + 128) := by
        rw [show ((n : Int) % 128 + 128).toNat = n % 128 + 128 by omega]
      rw [show ((n / 128 : Nat) : Int) = (n : Int) / 128 by omega] at ih'
      rw [varL_ge h]
      clear ih
      generalize varL (n / 128) = V at *
      generalize UInt8.ofNat (n % 128 + 128) = c at *
      have hs1 : (bs [c]).size ≤ 1 := by rw [bs_size]; simp
      have hs2 : (bs V).size ≤ 9 := by rw [bs_size]; exact hl
      have IH := fun w => Lib.hid (ih' w)
      clear ih' hl
      have q1 : (n : Int).tmod 128 = (n : Int) % 128 := by rw [Int.tmod_eq_emod_of_nonneg (by omega)]
      have q2 : IntKind.i64.wrap ((n : Int) % 128 + 128) = (n : Int) % 128 + 128 := IntWalk.i64_in _ (by omega)
      have q3 : IntKind.i64.wrap ((n : Int) / 128) = (n : Int) / 128 := IntWalk.i64_in _ (by omega)
      have q4 : IntKind.u8.wrap ((n : Int) % 128 + 128) = (n : Int) % 128 + 128 := IntWalk.u8_in _ (by omega)
      have hcv := fun (w : World) => conv_new (P := Tryz.prog) w 74 9 5 ((n : Int) % 128 + 128) c hv (by kernel_rfl) (by kernel_rfl) (by kernel_rfl)
      have hcd := fun (w : World) => conv_new_drew (P := Tryz.prog) w 74 9 5 ((n : Int) % 128 + 128) c hv (by kernel_rfl) (by kernel_rfl) (by kernel_rfl)
      have hcb := fun (w w1 : World) => conv_new_below (P := Tryz.prog) w w1 74 9 5 ((n : Int) % 128 + 128) c hv (by kernel_rfl) (by kernel_rfl) (by kernel_rfl)
      have HCB := Lib.hid hcb
      have HV := Lib.hid hv
      clear hcb hv
      go_enter Tryz.func20, Tryz.ntmps20
      go_wp2_with fail
      go_region_with (go_at_call 20; (with_reducible refine (IH _).out.mono ?_); rintro e w1 ⟨rfl, hb⟩; first | (have hcw := HCB.out w w1; with_reducible specialize hcw hb) | skip)
      all_goals go_wp2_with fail
      all_goals go_ret
      all_goals refine ⟨str_ret (bs_append _ _), ?_⟩
      all_goals first
        | exact (((Below.refl _ _).alloc (Nat.le_refl _) _).drew).trans (hb.mono (by simp))
        | exact ((((Below.refl _ _).drew).trans hb).alloc hb.size _)
end Go.Proofs.YtgooepfhapaenaaGreat
/- What octet.Var returns, and Text. Conditions: the number fits. -/
namespace Go.Proofs.YtgooepfhapaenaaGreat
open Go.ChangeShapes Go.WideShapes Go.ChangeAt Go.RowKit
set_option linter.unusedVariables false
set_option maxRecDepth 100000
set_option linter.unusedSimpArgs false

theorem u8_or128_all : ∀ x : Fin 256, bits .or .u8 ((x : Nat) : Int) 128 = (((x : Nat) % 128 + 128 : Nat) : Int) := by decide +kernel
theorem u8_not128_all : ∀ x : Fin 256, bits .andNot .u8 ((x : Nat) : Int) 128 = (((x : Nat) % 128 : Nat) : Int) := by decide +kernel
theorem u8_or128n (x : Nat) (h : x < 256) : bits .or .u8 (x : Int) 128 = ((x % 128 + 128 : Nat) : Int) := u8_or128_all ⟨x, h⟩
theorem u8_not128n (x : Nat) (h : x < 256) : bits .andNot .u8 (x : Int) 128 = ((x % 128 : Nat) : Int) := u8_not128_all ⟨x, h⟩
def varA (p : List UInt8) : Array Value := u8s (p ++ List.replicate (9 - p.length) 0)
theorem varA_zero : varA [] = #[Value.int IntKind.u8 0, Value.int IntKind.u8 0, Value.int IntKind.u8 0, Value.int IntKind.u8 0, Value.int IntKind.u8 0, Value.int IntKind.u8 0, Value.int IntKind.u8 0, Value.int IntKind.u8 0, Value.int IntKind.u8 0] := by
  simp [varA, u8s]
theorem varA_get (p : List UInt8) (i : Nat) (h : p.length ≤ 9) (hi : i < 9) : ∃ v, (varA p)[i]? = some v := by
  refine ⟨_, Array.getElem?_eq_getElem ?_⟩
  unfold varA; rw [u8s_size]; simp; omega
theorem varA_set (p : List UInt8) (c : UInt8) (h : p.length < 9) : (varA p).setIfInBounds p.length (.int .u8 c.toNat) = varA (p ++ [c]) := by
  unfold varA
  rw [show 9 - p.length = (9 - (p ++ [c]).length) + 1 by simp; omega, List.replicate_succ, u8s_set]; simp
theorem varA_at (p : List UInt8) (i : Nat) (hi : i < p.length) : (varA p)[i]? = some (.int .u8 (p[i]).toNat) := by
  unfold varA
  rw [u8s_get _ _ (by simp; omega)]
  simp [hi]

set_option maxRecDepth 100000 in
theorem var_in (n : Nat) (w : World) (hn : n < 9223372036854775808) :
    Calls Tryz.prog 42 #[.int .i64 n] w fun e w' => e = .returned (.string (bs (varL n))) ∧ Below w.heap.size w w' := by
  have h9 := varL_len n 9 (by have : 128 ^ 9 = 9223372036854775808 := by decide
                              omega) (by omega)
  go_enter Tryz.func42, Tryz.ntmps42
  go_wp2
  go_loopw [0, 4] (fun x i wr => ∃ p : List UInt8, ∃ m : Nat, varL n = p ++ varL m ∧ m ≤ n ∧ x = .int .i64 m ∧ i = .int .i64 p.length ∧ wr = w.alloc (.cells (varA p) 91)) (fun x _ _ => (intOf x).toNat)
  case atStart => exact ⟨[], n, rfl, by omega, rfl, rfl, by rw [varA_zero]⟩
  case round =>
    obtain ⟨p, m, he, hm, rfl, rfl, rfl⟩ := hrel
    by_cases hlt : m < 128
    · rw [varL_lt hlt] at he
      have hp : p.length ≤ 8 := by rw [he] at h9; simp at h9; omega
      obtain ⟨v, hv⟩ := varA_get p p.length (by omega) (by omega)
      have hq : Value.int .u8 (m : Int) = .int .u8 (UInt8.ofNat m).toNat := by simp; omega
      have hs : (varA p).setIfInBounds p.length (.int .u8 (m : Int)) = varA (p ++ [UInt8.ofNat m]) := by rw [hq]; exact varA_set p _ (by omega)
      have hl : (p ++ [UInt8.ofNat m]).length = p.length + 1 := by simp
      generalize p ++ [UInt8.ofNat m] = r at *
      have HE := Lib.hid he
      have hsl := run_sliceAt_arr_h (P := Tryz.prog) (w.alloc (.cells (varA r) 91)) 91 5 9 1 (by kernel_rfl) (fun _ => by simp [go_sem]) ⟨w.heap.size, 0, none⟩ .i64 ((p.length : Int) + 1) (by omega) (by omega)
      have hcv := run_convert_bytes_back (P := Tryz.prog) (w.alloc (.cells (varA r) 91)) 74 9 5 ⟨w.heap.size, 0, none⟩ 9 r (by kernel_rfl) (by kernel_rfl) (by kernel_rfl) (fun i hi => by
        have := varA_at r i hi
        by_cases h0 : i = 0
        · subst h0; simp [Addr.add]; exact this
        · simp [Addr.add, h0]; exact this)
      rw [hl] at hcv
      clear hl hq he
      go_wp2
      go_ret
      exact ⟨str_ret (by rw [HE.out]; rfl), (Below.refl _ _).alloc (Nat.le_refl _) _⟩
    · rw [varL_ge hlt] at he
      have hp : p.length ≤ 8 := by rw [he] at h9; simp at h9; omega
      have HE := Lib.hid he
      clear he
      obtain ⟨v, hv⟩ := varA_get p p.length (by omega) (by omega)
      have hp7 : p.length < 9 := by omega
      go_wp2
      go_roundw
      case rel => 
        refine ⟨p ++ [UInt8.ofNat (m % 128 + 128)], m / 128, by rw [HE.out]; simp, by omega, by simp, by simp, ?_⟩
        rw [← varA_set p _ hp7, show (m : Int) % 256 = ((m % 256 : Nat) : Int) by simp, u8_or128n _ (by omega)]
        congr 4
        simp; omega
      case measure => simp [intOf]; omega
def varS (n : Int) : ByteArray := if n < 0 then bs [] else bs (varL n.toNat)
theorem varS_neg {n : Int} (h : n < 0) : varS n = bs [] := by unfold varS; rw [if_pos h]
theorem varS_nat (n : Nat) : varS n = bs (varL n) := by unfold varS; rw [if_neg (by omega)]; simp
theorem var_any (n : Int) (w : World) (h2 : n ≤ 9223372036854775807) :
    Calls Tryz.prog 42 #[.int .i64 n] w fun e w' => e = .returned (.string (varS n)) ∧ Below w.heap.size w w' := by
  by_cases h : n < 0
  · rw [varS_neg h]
    go_enter Tryz.func42, Tryz.ntmps42
    go_wp2
    go_ret
    exact ⟨rfl, Below.refl _ _⟩
  · obtain ⟨k, rfl⟩ : ∃ k : Nat, n = k := ⟨n.toNat, by omega⟩
    rw [varS_nat]
    exact var_in k w (by omega)
theorem rvar_any (n : Int) (w : World) (h2 : n ≤ 9223372036854775807) :
    Calls Tryz.prog 20 #[.int .i64 n] w fun e w' => e = .returned (.string (varS n)) ∧ Below w.heap.size w w' := by
  by_cases h : n < 0
  · rw [varS_neg h]
    go_enter Tryz.func20, Tryz.ntmps20
    go_wp2_with fail
    go_ret
    exact ⟨rfl, Below.refl _ _⟩
  · obtain ⟨k, rfl⟩ : ∃ k : Nat, n = k := ⟨n.toNat, by omega⟩
    rw [varS_nat]
    exact rvar_in k w (by omega)
def textS (s : ByteArray) : ByteArray := bs (varL s.size) ++ s
theorem varL_nine (n : Nat) (h : n < 9223372036854775808) : (bs (varL n)).size ≤ 9 := by
  rw [bs_size]
  exact varL_len n 9 (by have : 128 ^ 9 = 9223372036854775808 := by decide
                         omega) (by omega)
end Go.Proofs.YtgooepfhapaenaaGreat
/- What the document's takers return. Conditions: the text is no longer than any text. -/
namespace Go.Proofs.YtgooepfhapaenaaGreat
open Go.ChangeShapes Go.WideShapes Go.ChangeAt Go.RowKit
set_option linter.unusedVariables false
set_option maxRecDepth 100000
set_option linter.unusedSimpArgs false

theorem take_snoc (s : ByteArray) (k : Nat) (h : k < s.size) : s.data.toList.take (k + 1) = s.data.toList.take k ++ [s[k]] := by
  rw [List.take_succ_eq_append_getElem (by simpa using h)]; rfl
def tfE (l : List UInt8) (size : Int) : Nat := if ¬ (1 ≤ size ∧ size ≤ 8) then 1 else if (l.length : Int) < size then 3 else 0
def tfV (l : List UInt8) (size : Int) : Nat := if tfE l size = 0 then bigV (l.take size.toNat) 0 else 0
def tfM (l : List UInt8) (size : Int) : Nat := if tfE l size = 0 then size.toNat else 0
theorem tvE_ne {l : List UInt8} (h : tvE l ≠ 0) : tvV l = 0 ∧ tvM l = 0 := by
  unfold tvV tvM; rw [if_neg h, if_neg h]; exact ⟨rfl, rfl⟩
theorem drop_val (s : ByteArray) (e j : Nat) (hj : j ≤ e) (he : e < s.size) :
    val ((s.data.toList.take (e + 1)).drop j) = (s[j]'(by omega)).toNat % 128 + 128 * val ((s.data.toList.take (e + 1)).drop (j + 1)) := by
  have hlen : j < (s.data.toList.take (e + 1)).length := by rw [List.length_take, data_len]; omega
  rw [List.drop_eq_getElem_cons hlen, List.getElem_take]; rfl
theorem tv_true (s : ByteArray) (k m : Nat) (he : leadN s.data.toList = k) (hk : k < s.size) (h9 : k < 9) (hV : val (s.data.toList.take (k + 1)) = m)
    (hq : ((bs (varL m)).toList == (s.extract 0 (k + 1)).toList) = true) : tvE s.data.toList = 0 ∧ tvV s.data.toList = m ∧ tvM s.data.toList = k + 1 := by
  subst he; subst hV
  rw [bs_toList, Lib.toList_data, extract_list, List.drop_zero, beq_iff_eq] at hq
  have h := (varL_iff s.data.toList (by rw [data_len]; exact hk) h9).1 hq
  have e := tvE_ok (l := s.data.toList) (by rw [data_len]; exact hk) (fun g => g.elim (fun g => by omega) h)
  refine ⟨e, ?_, ?_⟩
  · rw [tvV, if_pos e]
  · rw [tvM, if_pos e]
theorem tv_false (s : ByteArray) (k m : Nat) (he : leadN s.data.toList = k) (hk : k < s.size) (h9 : k < 9) (hV : val (s.data.toList.take (k + 1)) = m)
    (hq : ((bs (varL m)).toList == (s.extract 0 (k + 1)).toList) = false) : tvE s.data.toList = 2 := by
  subst he; subst hV
  rw [bs_toList, Lib.toList_data, extract_list, List.drop_zero, beq_eq_false_iff_ne] at hq
  refine tvE_form (by rw [data_len]; exact hk) (Or.inr ?_)
  by_cases h0 : 0 < leadN s.data.toList ∧ s.data.toList[leadN s.data.toList]? = some 0
  · exact h0
  · exact absurd ((varL_iff s.data.toList (by rw [data_len]; exact hk) h9).2 h0) hq
theorem tv_nine (s : ByteArray) (k : Nat) (hk : k < s.size) (h9 : 9 ≤ k) : ((bs (varL 0)).toList == (s.extract 0 (k + 1)).toList) = false := by
  rw [bs_toList, Lib.toList_data, extract_list, List.drop_zero, beq_eq_false_iff_ne]
  intro h
  have := congrArg List.length h
  rw [List.length_take, data_len, varL_lt (by omega), List.length_singleton] at this
  omega
set_option maxRecDepth 100000 in
theorem rtakeVar_any (s : ByteArray) (w : World) (hs : s.size ≤ 9223372036854775000) :
    Calls Tryz.prog 32 #[.string s] w fun e w' => e = .returned (.tuple #[.int .i64 (tvV s.data.toList), .int .i64 (tvM s.data.toList), .int .i64 (tvE s.data.toList)]) ∧ Below w.heap.size w w' := by
  obtain ⟨e, he⟩ : ∃ e, leadN s.data.toList = e := ⟨_, rfl⟩
  have hle : e ≤ s.size := by rw [← he, ← data_len]; exact leadN_le s.data.toList
  have HGE := Lib.hid (show ∀ k (h : k < s.size), k < e → 128 ≤ (s[k]).toNat from fun k h hk => leadN_ge s.data.toList k (by rw [data_len]; exact h) (by omega))
  have HAT := Lib.hid (show ∀ (h : e < s.size), (s[e]).toNat < 128 from fun h => by subst he; exact leadN_at s.data.toList (by rw [data_len]; omega))
  have HE := Lib.hid he
  clear he
  go_enter Tryz.func32, Tryz.ntmps32
  go_wp2_with fail
  go_loop [5] (fun x => ∃ k : Nat, k ≤ e ∧ x = .int .i64 k) (fun x => s.size - (intOf x).toNat)
  case atStart => exact ⟨0, by omega, rfl⟩
  case round =>
    obtain ⟨k, hk, rfl⟩ := hrel
    by_cases hlt : k < e
    · have hg := HGE.out k (by omega) hlt
      have hk2 : k < s.size := by omega
      go_wp2_with fail
      go_round
      case rel => exact ⟨k + 1, by omega, by go_num⟩
      case measure => simp [intOf]; omega
    · obtain rfl : k = e := by omega
      by_cases hsz : s.size ≤ k
      · have he := HE.out
        have e1 : tvE s.data.toList = 3 := tvE_short (by rw [data_len]; omega)
        have e2 := (tvE_ne (l := s.data.toList) (by omega)).1
        have e3 := (tvE_ne (l := s.data.toList) (by omega)).2
        have E1 := Lib.hid e1
        have E2 := Lib.hid e2
        have E3 := Lib.hid e3
        clear e1 e2 e3 he HGE HAT HE
        go_wp2_with fail
        go_ret3
        exact ⟨by rw [E1.out, E2.out, E3.out]; rfl, Below.refl _ _⟩
      · have hat := HAT.out (by omega)
        have hk2 : k < s.size := by omega
        clear HAT HGE hlt hk
        by_cases h9 : 9 ≤ k
        · have he := HE.out
          have hq := tv_nine s k hk2 h9
          have e1 := tvE_form (l := s.data.toList) (by rw [data_len]; omega) (Or.inl (by omega))
          have e2 := (tvE_ne (l := s.data.toList) (by omega)).1
          have e3 := (tvE_ne (l := s.data.toList) (by omega)).2
          have E1 := Lib.hid e1
          have E2 := Lib.hid e2
          have E3 := Lib.hid e3
          have HQ := Lib.hid hq
          have hvar := fun w => Lib.hid (show Calls Tryz.prog 20 #[.int .i64 0] w fun e w' => e = .returned (.string (bs (varL 0))) ∧ Below w.heap.size w w' from rvar_in 0 w (by omega))
          have d9 : decide ((k : Int) < 9) = false := decide_eq_false (by omega)
          clear e1 e2 e3 he hq HE
          go_wp2_with fail
          refine wp_loop_rounds 1 ?_
          rw [rounds_succ]
          go_wp2_with fail
          have q1 : IntKind.i64.wrap ((k : Int) + 1) = (k : Int) + 1 := IntWalk.i64_in _ (by omega)
          have q2 : (0 : Int) ≤ (k : Int) + 1 := by omega
          have q3 : ((k : Int) + 1).toNat = k + 1 := by omega
          have q4 : (k : Int) + 1 ≤ (s.size : Int) := by omega
          go_region_with (go_at_call 20; (with_reducible refine (hvar _).out.mono ?_); rintro e w1 ⟨rfl, hb⟩)
          clear q1 q2 q3 q4
          all_goals have hq := HQ.out
          all_goals have hq2 : (!((bs (varL 0)).toList == (s.extract 0 (k + 1)).toList)) = true := by rw [hq]; rfl
          all_goals go_wp2_with fail
          all_goals try (exfalso; rename_i h; rw [hq2] at h; cases h; done)
          all_goals go_ret3
          all_goals exact ⟨by rw [E1.out, E2.out, E3.out]; rfl, (Below.refl _ _).drew.trans hb⟩
        · go_wp2_with fail
          go_loop [6, 7] (fun n i => ∃ j : Nat, j ≤ k + 1 ∧ n = .int .i64 ((val ((s.data.toList.take (k + 1)).drop j) : Nat) : Int) ∧ i = .int .i64 ((j : Int) - 1)) (fun _ i => (intOf i + 1).toNat)
          case atStart => exact ⟨k + 1, by omega, by rw [List.drop_eq_nil_of_le (by rw [List.length_take]; omega)]; rfl, by go_num⟩
          case round =>
            obtain ⟨j, hj, rfl, rfl⟩ := hrel
            by_cases hj0 : 0 < j
            · obtain ⟨i, rfl⟩ : ∃ i, j = i + 1 := ⟨j - 1, by omega⟩
              have hv := drop_val s k i (by omega) (by omega)
              have hl := val_lt ((s.data.toList.take (k + 1)).drop (i + 1))
              have hp : 128 ^ ((s.data.toList.take (k + 1)).drop (i + 1)).length ≤ 128 ^ 8 := Nat.pow_le_pow_right (by omega) (by rw [List.length_drop, List.length_take]; omega)
              have e8 : 128 ^ 8 = 72057594037927936 := by decide
              have hm : val ((s.data.toList.take (k + 1)).drop (i + 1)) < 72057594037927936 := by omega
              have hb := (s[i]'(by omega)).toNat_lt
              have HV := Lib.hid hv
              clear hv hl hp e8
              generalize val ((s.data.toList.take (k + 1)).drop (i + 1)) = m at *
              have hi : i < s.size := by omega
              go_wp2_with fail
              go_round
              case rel => exact ⟨i, by omega, by rw [HV.out]; go_num, by go_num⟩
              case measure => simp [intOf]
            · obtain rfl : j = 0 := by omega
              rw [List.drop_zero]
              have hlv := val_lt (s.data.toList.take (k + 1))
              have hp : 128 ^ (s.data.toList.take (k + 1)).length ≤ 128 ^ 9 := Nat.pow_le_pow_right (by omega) (by rw [List.length_take]; omega)
              have e9 : 128 ^ 9 = 9223372036854775808 := by decide
              have hm : val (s.data.toList.take (k + 1)) < 9223372036854775808 := by omega
              generalize hV : val (s.data.toList.take (k + 1)) = m at *
              have HV := Lib.hid hV
              clear hlv hp e9 hV
              have hvar := fun w => Lib.hid (rvar_in m w hm)
              have he := HE.out
              have hV := HV.out
              cases hq : ((bs (varL m)).toList == (s.extract 0 (k + 1)).toList)
              · have e1 := tv_false s k m he hk2 (by omega) hV hq
                have e2 := (tvE_ne (l := s.data.toList) (by omega)).1
                have e3 := (tvE_ne (l := s.data.toList) (by omega)).2
                have E1 := Lib.hid e1
                have E2 := Lib.hid e2
                have E3 := Lib.hid e3
                have HQ := Lib.hid hq
                clear e1 e2 e3 he hV hq HE HV
                have q1 : IntKind.i64.wrap ((k : Int) + 1) = (k : Int) + 1 := IntWalk.i64_in _ (by omega)
                have q2 : (0 : Int) ≤ (k : Int) + 1 := by omega
                have q3 : ((k : Int) + 1).toNat = k + 1 := by omega
                have q4 : (k : Int) + 1 ≤ (s.size : Int) := by omega
                go_wp2_with fail
                go_region_with (go_at_call 20; (with_reducible refine (hvar _).out.mono ?_); rintro e w1 ⟨rfl, hb⟩)
                clear q1 q2 q3 q4
                all_goals have hq := HQ.out
                all_goals have hq2 : (!((bs (varL m)).toList == (s.extract 0 (k + 1)).toList)) = true := by rw [hq]; rfl
                all_goals go_wp2_with fail
                all_goals try (exfalso; rename_i h; rw [hq2] at h; cases h; done)
                all_goals go_ret3
                all_goals exact ⟨by rw [E1.out, E2.out, E3.out]; rfl, (Below.refl _ _).drew.trans hb⟩
              · obtain ⟨e1, e2, e3⟩ := tv_true s k m he hk2 (by omega) hV hq
                have E1 := Lib.hid e1
                have E2 := Lib.hid e2
                have E3 := Lib.hid e3
                have HQ := Lib.hid hq
                clear e1 e2 e3 he hV hq HE HV
                have q1 : IntKind.i64.wrap ((k : Int) + 1) = (k : Int) + 1 := IntWalk.i64_in _ (by omega)
                have q2 : (0 : Int) ≤ (k : Int) + 1 := by omega
                have q3 : ((k : Int) + 1).toNat = k + 1 := by omega
                have q4 : (k : Int) + 1 ≤ (s.size : Int) := by omega
                go_wp2_with fail
                go_region_with (go_at_call 20; (with_reducible refine (hvar _).out.mono ?_); rintro e w1 ⟨rfl, hb⟩)
                clear q1 q2 q3 q4
                all_goals have hq := HQ.out
                all_goals have hq2 : (!((bs (varL m)).toList == (s.extract 0 (k + 1)).toList)) = false := by rw [hq]; rfl
                all_goals go_wp2_with fail
                all_goals try (exfalso; rename_i h; rw [hq2] at h; cases h; done)
                all_goals go_ret3
                all_goals exact ⟨by rw [E1.out, E2.out, E3.out]; simp, (Below.refl _ _).drew.trans hb⟩
end Go.Proofs.YtgooepfhapaenaaGreat
/- What the document's TakeText returns, and the cursor's small methods. Conditions: the text is no longer than any text. -/
namespace Go.Proofs.YtgooepfhapaenaaGreat
open Go.ChangeShapes Go.WideShapes Go.ChangeAt Go.RowKit
set_option linter.unusedVariables false
set_option maxRecDepth 100000
set_option linter.unusedSimpArgs false

def ttE (l : List UInt8) (most : Int) : Nat := if tvE l ≠ 0 then tvE l else if most < tvV l then 9 else if l.length - tvM l < tvV l then 3 else 0
def ttT (l : List UInt8) (most : Int) : ByteArray := if ttE l most = 0 then bs ((l.take (tvM l + tvV l)).drop (tvM l)) else bs []
def ttM (l : List UInt8) (most : Int) : Nat := if ttE l most = 0 then tvM l + tvV l else 0
theorem ttE_ne {l : List UInt8} {most : Int} (h : ttE l most ≠ 0) : ttT l most = bs [] ∧ ttM l most = 0 := by
  unfold ttT ttM; rw [if_neg h, if_neg h]; exact ⟨rfl, rfl⟩
theorem ttE_le (l : List UInt8) (most : Int) : ttM l most ≤ l.length := by
  unfold ttM
  split
  · rename_i h
    unfold ttE at h
    have := tvM_le l
    split at h
    · omega
    · split at h
      · omega
      · split at h <;> omega
  · omega
theorem tvE_cases (l : List UInt8) : tvE l = 0 ∨ tvE l = 2 ∨ tvE l = 3 := by
  unfold tvE; split
  · omega
  · split <;> omega
theorem threeO {a b c : Value} {a' b' c' : Value} (h1 : a = a') (h2 : b = b') (h3 : c = c') : Ending.returned (.tuple #[a, b, c]) = .returned (.tuple #[a', b', c']) := by rw [h1, h2, h3]
theorem twoO {a b : Value} {a' b' : Value} (h1 : a = a') (h2 : b = b') : Ending.returned (.tuple #[a, b]) = .returned (.tuple #[a', b']) := by rw [h1, h2]

/-- A cursor: its bytes, and where it stands. -/
def Cur (w : World) (b : Nat) (s : ByteArray) (k : Nat) : Prop := w.heap[b]? = some (.cells #[.string s, .int .i64 k] 77 (0, 0)) ∧ k ≤ s.size
def rest (s : ByteArray) (k : Nat) : List UInt8 := s.data.toList.drop k
theorem rest_len (s : ByteArray) (k : Nat) : (rest s k).length = s.size - k := by unfold rest; rw [List.length_drop, data_len]

theorem left_nil (w : World) : Calls Tryz.prog 29 #[.pointer none] w fun e w' => e = .returned (.int .i64 0) ∧ w = w' := by
  go_enter Tryz.func29, Tryz.ntmps29
  go_wp2
  go_ret
  exact ⟨rfl, rfl⟩
theorem left_any (b : Nat) (s : ByteArray) (k : Nat) (w : World) (hs : s.size ≤ 9223372036854775000) (hc : Cur w b s k) :
    Calls Tryz.prog 29 #[.pointer (some ⟨b, 0, none⟩)] w fun e w' => e = .returned (.int .i64 ((s.size - k : Nat) : Int)) ∧ ∃ n, w' = w.drewN n := by
  obtain ⟨hb, hk⟩ := hc
  have c0 : w.cell? ⟨b, 0, none⟩ = some (.string s) := cell_of_row w b 0 _ _ _ hb
  have c1 : w.cell? ⟨b, 1, none⟩ = some (.int .i64 k) := cell_of_row w b 1 _ _ _ hb
  have q : IntKind.i64.wrap ((s.size : Int) - k) = ((s.size - k : Nat) : Int) := by rw [IntWalk.i64_in _ (by omega)]; omega
  clear hb
  go_enter Tryz.func29, Tryz.ntmps29
  go_wp2_with fail
  go_quiet (fail)
  go_wp2
  go_ret
  exact ⟨rfl, _, rfl⟩
end Go.Proofs.YtgooepfhapaenaaGreat
/- What the cursor's reader, and the function that it gives, come to. Conditions: the text is no longer than any text. -/
namespace Go.Proofs.YtgooepfhapaenaaGreat
open Go.ChangeShapes Go.WideShapes Go.ChangeAt Go.RowKit
set_option linter.unusedVariables false
set_option maxRecDepth 100000
set_option linter.unusedSimpArgs false

theorem next_nil (w : World) : Calls Tryz.prog 86 #[] w fun e w' => e = .returned (.tuple #[.int .u8 0, .bool false]) ∧ w = w' := by
  go_enter Tryz.func86, Tryz.ntmps86
  go_wp2
  go_ret2
  exact ⟨rfl, rfl⟩
theorem reader_nil (w : World) : Calls Tryz.prog 79 #[.pointer none] w fun e w' => e = .returned (.func (.func 86) #[] #[]) ∧ w = w' := by
  go_enter Tryz.func79, Tryz.ntmps79
  go_wp2
  go_ret
  exact ⟨rfl, rfl⟩
theorem reader_any (b : Nat) (s : ByteArray) (k : Nat) (w : World) (hs : s.size ≤ 9223372036854775000) (hc : Cur w b s k) :
    Calls Tryz.prog 79 #[.pointer (some ⟨b, 0, none⟩)] w fun e w' => ∃ r a : Nat, ∃ t : ByteArray, e = .returned (.func (.func 87) #[] #[.pointer (some ⟨a, 0, none⟩), .pointer (some ⟨r, 0, none⟩)]) ∧
      t.data.toList = rest s k ∧ w.heap.size ≤ a ∧ w.heap.size ≤ r ∧ w'.heap[a]? = some (.cells #[.int .i64 0] 3 (0, 0)) ∧ w'.heap[r]? = some (.cells #[.string t] 9 (0, 0)) ∧ Below w.heap.size w w' := by
  have hmf : ∀ (fn : Fn) (first cap : Array Value) (w : World), (Instr.makeFunc fn first cap).run Tryz.prog w = .ok (.func fn first cap) w := fun _ _ _ _ => rfl
  obtain ⟨hb, hk⟩ := hc
  have c0 : w.cell? ⟨b, 0, none⟩ = some (.string s) := cell_of_row w b 0 _ _ _ hb
  have c1 : w.cell? ⟨b, 1, none⟩ = some (.int .i64 k) := cell_of_row w b 1 _ _ _ hb
  have hbs : b < w.heap.size := lt_of_block hb
  have hl : (rest s k) = (s.extract k s.size).data.toList := by
    rw [extract_list, ← data_len, List.take_length]; rfl
  have HL := Lib.hid hl
  clear hb hl
  go_enter Tryz.func79, Tryz.ntmps79
  go_wp2
  go_region
  go_wp2
  go_ret
  refine ⟨w.heap.size, w.heap.size + 1, s.extract k s.size, rfl, HL.out.symm, by omega, by omega, ?_, ?_, ?_⟩
  · have := blk_new (w.alloc (Obj.cells #[Value.string (s.extract k s.size)] 9)) (Obj.cells #[Value.int IntKind.i64 0] 3)
    rw [World.size_alloc] at this
    exact this
  · exact blk_old _ (blk_new w (Obj.cells #[Value.string (s.extract k s.size)] 9))
  · exact (((Below.refl _ _).alloc (Nat.le_refl _) _).alloc (by simp) _).drew
theorem next_end (a r : Nat) (t : ByteArray) (w : World) (ht : t.size ≤ 9223372036854775000) (ha : w.heap[a]? = some (.cells #[.int .i64 t.size] 3 (0, 0))) (hr : w.heap[r]? = some (.cells #[.string t] 9 (0, 0))) :
    Calls Tryz.prog 87 #[.pointer (some ⟨a, 0, none⟩), .pointer (some ⟨r, 0, none⟩)] w fun e w' => e = .returned (.tuple #[.int .u8 0, .bool false]) ∧ w = w' := by
  have c0 := cell_of_one ha
  have c1 := cell_of_one hr
  clear ha hr
  go_enter Tryz.func87, Tryz.ntmps87
  go_wp2
  go_ret2
  exact ⟨rfl, rfl⟩
theorem next_any (a r i : Nat) (t : ByteArray) (w : World) (ht : t.size ≤ 9223372036854775000) (hi : i < t.size) (ha : w.heap[a]? = some (.cells #[.int .i64 i] 3 (0, 0))) (hr : w.heap[r]? = some (.cells #[.string t] 9 (0, 0))) :
    Calls Tryz.prog 87 #[.pointer (some ⟨a, 0, none⟩), .pointer (some ⟨r, 0, none⟩)] w fun e w' => e = .returned (.tuple #[.int .u8 (t[i]).toNat, .bool true]) ∧ w' = w.setCell ⟨a, 0, none⟩ (.int .i64 ((i : Int) + 1)) := by
  have c0 := cell_of_one ha
  have c1 := cell_of_one hr
  have f0 := free_of_one ha
  clear ha hr
  go_enter Tryz.func87, Tryz.ntmps87
  go_wp2
  go_ret2
  exact ⟨rfl, rfl⟩
end Go.Proofs.YtgooepfhapaenaaGreat
/- What the cursor's groups gives. Conditions: the text is no longer than any text. -/
namespace Go.Proofs.YtgooepfhapaenaaGreat
open Go.ChangeShapes Go.WideShapes Go.ChangeAt Go.RowKit
set_option linter.unusedVariables false
set_option maxRecDepth 100000
set_option linter.unusedSimpArgs false

/-- The array behind so many bytes. -/
def grpA (l : List UInt8) (k : Nat) : Array Value := varA (l.take (min k 9))
theorem grpA_zero (l : List UInt8) : grpA l 0 = varA [] := by simp [grpA]
theorem grpA_set (l : List UInt8) (k : Nat) (h : k < 9) (hk : k < l.length) : (grpA l k).setIfInBounds k (.int .u8 (l[k]).toNat) = grpA l (k + 1) := by
  unfold grpA
  rw [Nat.min_eq_left (by omega), Nat.min_eq_left (by omega), List.take_succ_eq_append_getElem hk]
  have hl : (l.take k).length = k := by rw [List.length_take]; omega
  have := varA_set (l.take k) l[k] (by omega)
  rw [hl] at this
  exact this
theorem grpA_more (l : List UInt8) (k : Nat) (h : 9 ≤ k) : grpA l k = grpA l (k + 1) := by
  unfold grpA; rw [Nat.min_eq_right h, Nat.min_eq_right (by omega)]

/-- What groups gives. -/
def groupsV (l : List UInt8) : Value := if l.length ≤ leadN l then .tuple #[.agg (varA []), .int .i64 0, .bool false] else .tuple #[.agg (grpA l (leadN l + 1)), .int .i64 ((leadN l + 1 : Nat) : Int), .bool true]
theorem groups_results (tmps : Array Value) (w : World) (g : Nat) (cs : Array Value) (hs : cs.size = 9) (hg : w.heap[g]? = some (.cells cs 91 (0, 0))) (hp : tmps.getD 2 undef = .pointer (some ⟨g, 0, none⟩)) :
    (results Tryz.f69 tmps).run Tryz.prog w = .ok (.tuple #[.agg cs, tmps.getD 3 undef, tmps.getD 4 undef]) w := by
  have hl := run_loadVar_row (P := Tryz.prog) w g _ 91 cs (0, 0) (.array 9 5) hg (by kernel_rfl) rfl (by rw [hs]; kernel_rfl)
  have hr : Tryz.f69.results = #[.cell 2 91, .tmp 3, .tmp 4] := rfl
  have hp' : tmps[2]?.getD undef = .pointer (some ⟨g, 0, none⟩) := by simpa using hp
  simp [results, hr, hp', asAddr, hl]
theorem groups_nil (w : World) :
    Calls Tryz.prog 69 #[.pointer none] w fun e w' => e = .returned (.tuple #[.agg (varA []), .int .i64 0, .bool false]) ∧ Below w.heap.size w w' := by
  go_enter Tryz.func69, Tryz.ntmps69
  go_wp2_with (go_at_call 79; (with_reducible refine (reader_nil _).mono ?_); rintro e w1 ⟨rfl, rfl⟩)
  refine wp_loop_rounds 1 ?_
  rw [rounds_succ]
  go_wp2_with (go_at_call 86; (with_reducible refine (next_nil _).mono ?_); rintro e w1 ⟨rfl, rfl⟩)
  have hz : varA [] = #[Value.int IntKind.u8 0, Value.int IntKind.u8 0, Value.int IntKind.u8 0, Value.int IntKind.u8 0, Value.int IntKind.u8 0, Value.int IntKind.u8 0, Value.int IntKind.u8 0, Value.int IntKind.u8 0, Value.int IntKind.u8 0] := varA_zero
  refine bodyPost_ret (v := .tuple #[.agg (varA []), .int .i64 0, .bool false]) (by rw [hz]; simp [results, Tryz.results69, go_sem]) rfl ⟨rfl, (((Below.refl _ _).alloc (Nat.le_refl _) _).alloc (by simp) _)⟩

theorem setRow_heap (w : World) (g : Nat) (cs : Array Value) (t : TypeId) (old : Array Value) (h : w.heap[g]? = some (.cells old t (0, 0))) : (w.setRow g cs).heap[g]? = some (.cells cs t (0, 0)) := by
  simp [World.setRow, Array.getElem?_modify, h]
theorem setRow_below {w w' : World} {B g : Nat} (cs : Array Value) (h : Below B w w') (hB : B ≤ g) : Below B w (w'.setRow g cs) :=
  h.trans ⟨rfl, rfl, rfl, by simp [World.setRow], fun k hk => by simp only [World.setRow, Array.getElem?_modify]; rw [if_neg (by omega)]⟩
theorem u8s_one (l : List UInt8) : (u8s l).all (·.oneCell') = true := by
  simp [u8s, Array.all_eq_true_iff_forall_mem]
  intro b hb; rfl
theorem varA_size (l : List UInt8) (h : l.length ≤ 9) : (varA l).size = 9 := by unfold varA; rw [u8s_size]; simp; omega
theorem grpA_size (l : List UInt8) (k : Nat) : (grpA l k).size = 9 := varA_size _ (by rw [List.length_take]; omega)
/-- The whole array out of its block, and into one. -/
theorem load9 {ops : Array Oper} {rest : List Oper} {o : Oper} {a : Act} {w : World} {Q : Exit → Act → World → Prop} (x : Operand) (ho : o.op = .load 91 x) (hgd : o.guard = none)
    (g : Nat) (cs : Array Value) (hs : cs.size = 9) (hg : w.heap[g]? = some (.cells cs 91 (0, 0))) (hx : a.eval x = .pointer (some ⟨g, 0, none⟩))
    (h : wpList Tryz.prog ops Q rest (a.put o.dst (.agg cs)) w) : wpList Tryz.prog ops Q (o :: rest) a w :=
  wpList_load_row hgd 91 x ho g hx _ cs (0, 0) (.array 9 5) hg (by kernel_rfl) rfl (by rw [hs]; kernel_rfl) h
theorem store9 {ops : Array Oper} {rest : List Oper} {o : Oper} {a : Act} {w : World} {Q : Exit → Act → World → Prop} (x y : Operand) (ho : o.op = .store 91 x y) (hgd : o.guard = none)
    (g : Nat) (old cs : Array Value) (hold : old.size = 9) (hs : cs.size = 9) (h1 : cs.all (·.oneCell') = true) (hg : w.heap[g]? = some (.cells old 91 (0, 0))) (hx : a.eval x = .pointer (some ⟨g, 0, none⟩)) (hy : a.eval y = .agg cs)
    (h : wpList Tryz.prog ops Q rest (a.put o.dst undef) (w.setRow g cs)) : wpList Tryz.prog ops Q (o :: rest) a w :=
  wpList_plain hgd fun _ hK => wp_store_row 91 x y ho g cs hx hy _ old hg (by rw [hs]; kernel_rfl) (by omega) h1 (hK _ _ h)
theorem next_step (a r i B : Nat) (t : ByteArray) (w : World) (ht : t.size ≤ 9223372036854775000) (hi : i < t.size) (hB : B ≤ a) (ha : w.heap[a]? = some (.cells #[.int .i64 i] 3 (0, 0))) (hr : w.heap[r]? = some (.cells #[.string t] 9 (0, 0))) :
    Calls Tryz.prog 87 #[.pointer (some ⟨a, 0, none⟩), .pointer (some ⟨r, 0, none⟩)] w fun e w' => e = .returned (.tuple #[.int .u8 (t[i]).toNat, .bool true]) ∧ w'.heap[a]? = some (.cells #[.int .i64 ((i : Int) + 1)] 3 (0, 0)) ∧ Hid (∀ b, b ≠ a → w'.heap[b]? = w.heap[b]?) ∧ Below B w w' :=
  (next_any a r i t w ht hi ha hr).mono fun e w' h => by
    obtain ⟨h1, h2⟩ := h
    subst h2
    exact ⟨h1, one_setCell ha, fun b hb => Below.heap_setCell _ _ _ _ hb, (Below.refl _ _).setCell hB _⟩

theorem int_str_ne {w : World} {a r : Nat} {n : Int} {t : ByteArray} (hA : w.heap[a]? = some (.cells #[.int .i64 n] 3 (0, 0))) (hR : w.heap[r]? = some (.cells #[.string t] 9 (0, 0))) : r ≠ a := by
  rintro rfl; rw [hA] at hR; simp at hR
/-- What a round of groups finds. -/
def GI (B a r : Nat) (t : ByteArray) (w wr : World) (k : Nat) : Prop :=
  wr.heap[B]? = some (.cells (varA []) 91 (0, 0)) ∧ wr.heap[B + 1]? = some (.cells (grpA t.data.toList k) 91 (0, 0)) ∧
  wr.heap[a]? = some (.cells #[.int .i64 k] 3 (0, 0)) ∧ wr.heap[r]? = some (.cells #[.string t] 9 (0, 0)) ∧ Below B w wr
set_option maxRecDepth 100000 in
set_option maxHeartbeats 2000000 in
theorem groups_any (b : Nat) (s : ByteArray) (k0 : Nat) (w : World) (hs : s.size ≤ 9223372036854775000) (hc : Cur w b s k0) :
    Calls Tryz.prog 69 #[.pointer (some ⟨b, 0, none⟩)] w fun e w' =>
      e = .returned (groupsV (rest s k0)) ∧ Below w.heap.size w w' := by
  have hbs : b < w.heap.size := lt_of_block hc.1
  have hz := varA_zero
  go_enter Tryz.func69, Tryz.ntmps69
  go_wp2_with fail
  rw [← hz]
  have hc2 : Cur ((w.alloc (Obj.cells (varA []) 91)).alloc (Obj.cells (varA []) 91)) b s k0 := ⟨blk_old _ (blk_old _ hc.1), hc.2⟩
  have g0 : ((w.alloc (Obj.cells (varA []) 91)).alloc (Obj.cells (varA []) 91)).heap[w.heap.size]? = some (.cells (varA []) 91 (0, 0)) := blk_old _ (blk_new _ _)
  have g1 : ((w.alloc (Obj.cells (varA []) 91)).alloc (Obj.cells (varA []) 91)).heap[w.heap.size + 1]? = some (.cells (varA []) 91 (0, 0)) := by
    have := blk_new (w.alloc (Obj.cells (varA []) 91)) (Obj.cells (varA []) 91)
    rw [World.size_alloc] at this; exact this
  have hB0 : Below w.heap.size w ((w.alloc (Obj.cells (varA []) 91)).alloc (Obj.cells (varA []) 91)) := (((Below.refl _ _).alloc (Nat.le_refl _) _).alloc (by simp) _)
  have hsz : ((w.alloc (Obj.cells (varA []) 91)).alloc (Obj.cells (varA []) 91)).heap.size = w.heap.size + 2 := by simp
  generalize ((w.alloc (Obj.cells (varA []) 91)).alloc (Obj.cells (varA []) 91)) = wa at *
  refine (reader_any b s k0 wa hs hc2).mono ?_
  rintro e w1 ⟨r, a, t, rfl, ht, hra, hrr, hA, hR, hB⟩
  have hgi : GI w.heap.size a r t w w1 0 := ⟨blk_below hB g0 (by omega), by rw [grpA_zero]; exact blk_below hB g1 (by omega), hA, hR, hB0.trans (hB.mono (by omega))⟩
  have hra2 : w.heap.size + 2 ≤ a := by omega
  have hrr2 : w.heap.size + 2 ≤ r := by omega
  have hts : t.size ≤ 9223372036854775000 := by rw [← data_len, ht, rest_len]; omega
  have HT := Lib.hid ht
  obtain ⟨e, he⟩ : ∃ e, leadN t.data.toList = e := ⟨_, rfl⟩
  have hle : e ≤ t.size := by rw [← he, ← data_len]; exact leadN_le t.data.toList
  have HGE := Lib.hid (show ∀ k (h : k < t.size), k < e → 128 ≤ (t[k]).toNat from fun k h hk => leadN_ge t.data.toList k (by rw [data_len]; exact h) (by omega))
  have HAT := Lib.hid (show ∀ (h : e < t.size), (t[e]).toNat < 128 from fun h => by subst he; exact leadN_at t.data.toList (by rw [data_len]; omega))
  have HE := Lib.hid he
  have HZ := Lib.hid hz
  clear hc hc2 g0 g1 hB0 hsz hra hrr hA hR hB ht he hz hbs
  go_wp2_with fail
  go_loopw [6] (fun m wr => ∃ k : Nat, k ≤ e ∧ m = .int .i64 k ∧ GI w.heap.size a r t w wr k) (fun m _ => t.size + 1 - (intOf m).toNat)
  case atStart => exact ⟨0, by omega, rfl, hgi⟩
  case round =>
    obtain ⟨k, hk, rfl, hG0, hG1, hA, hR, hB⟩ := hrel
    have HG0 := Lib.hid hG0
    have HG1 := Lib.hid hG1
    clear hG0 hG1
    have hne := int_str_ne hA hR
    by_cases hlt : k < e
    · have hg := HGE.out k (by omega) hlt
      have hkt : k < t.size := by omega
      by_cases h9 : k < 9
      · go_wp2_with fail
        refine (next_step a r k w.heap.size t wr hts hkt (by omega) hA hR).mono ?_
        rintro ee w2 ⟨rfl, hA2, hO, hB2⟩
        have hR2 := (hO.out r hne).trans hR
        have hG02 := (hO.out w.heap.size (by omega)).trans HG0.out
        have hG12 := (hO.out (w.heap.size + 1) (by omega)).trans HG1.out
        have hB3 := hB.trans hB2
        obtain ⟨v, hv⟩ := varA_get (t.data.toList.take (min k 9)) k (by rw [List.length_take]; omega) h9
        have c := (blk_cell hG12 k).trans hv
        have f := blk_free hG12 k
        have hG13 := blk_set hG12 k (.int .u8 (t[k]).toNat)
        have hgs : (grpA t.data.toList k).setIfInBounds k (.int .u8 (t[k]).toNat) = grpA t.data.toList (k + 1) := grpA_set t.data.toList k h9 (by rw [data_len]; exact hkt)
        rw [hgs] at hG13
        have hA3 := blk_far (p := ⟨w.heap.size + 1, k, none⟩) (.int .u8 (t[k]).toNat) hA2 (by show a ≠ w.heap.size + 1; omega)
        have hR3 := blk_far (p := ⟨w.heap.size + 1, k, none⟩) (.int .u8 (t[k]).toNat) hR2 (by show r ≠ w.heap.size + 1; omega)
        have hG03 := blk_far (p := ⟨w.heap.size + 1, k, none⟩) (.int .u8 (t[k]).toNat) hG02 (by show w.heap.size ≠ w.heap.size + 1; omega)
        have hB4 := hB3.setCell (p := ⟨w.heap.size + 1, k, none⟩) (by show w.heap.size ≤ w.heap.size + 1; omega) (.int .u8 (t[k]).toNat)
        have HH := Lib.hid (show GI w.heap.size a r t w (w2.setCell ⟨w.heap.size + 1, k, none⟩ (.int .u8 (t[k]).toNat)) (k + 1) from ⟨hG03, hG13, hA3, hR3, hB4⟩)
        clear hG03 hG13 hA3 hR3 hB4 hgs hv hA2 hO hB2 hR2 hG02 hG12 hA hR HG0 HG1
        go_wp2_with fail
        go_roundw
        case rel => exact ⟨k + 1, by omega, by go_num, HH.out⟩
        case measure => simp [intOf]; omega
      · go_wp2_with fail
        refine (next_step a r k w.heap.size t wr hts hkt (by omega) hA hR).mono ?_
        rintro ee w2 ⟨rfl, hA2, hO, hB2⟩
        have hR2 := (hO.out r hne).trans hR
        have hG02 := (hO.out w.heap.size (by omega)).trans HG0.out
        have hG12 := (hO.out (w.heap.size + 1) (by omega)).trans HG1.out
        have hB3 := hB.trans hB2
        have hgm := grpA_more t.data.toList k (by omega)
        rw [hgm] at hG12
        have HH := Lib.hid (show GI w.heap.size a r t w w2 (k + 1) from ⟨hG02, hG12, hA2, hR2, hB3⟩)
        clear hgm hA2 hO hB2 hR2 hG02 hG12 hA hR HG0 HG1
        go_wp2_with fail
        go_roundw
        case rel => exact ⟨k + 1, by omega, by go_num, HH.out⟩
        case measure => simp [intOf]; omega
    · obtain rfl : k = e := by omega
      by_cases hkt : k < t.size
      · have hat := HAT.out hkt
        by_cases h9 : k < 9
        · go_wp2_with fail
          refine (next_step a r k w.heap.size t wr hts hkt (by omega) hA hR).mono ?_
          rintro ee w2 ⟨rfl, hA2, hO, hB2⟩
          have hR2 := (hO.out r hne).trans hR
          have hG02 := (hO.out w.heap.size (by omega)).trans HG0.out
          have hG12 := (hO.out (w.heap.size + 1) (by omega)).trans HG1.out
          have hB3 := hB.trans hB2
          obtain ⟨v, hv⟩ := varA_get (t.data.toList.take (min k 9)) k (by rw [List.length_take]; omega) h9
          have c := (blk_cell hG12 k).trans hv
          have f := blk_free hG12 k
          have hG13 := blk_set hG12 k (.int .u8 (t[k]).toNat)
          have hgs : (grpA t.data.toList k).setIfInBounds k (.int .u8 (t[k]).toNat) = grpA t.data.toList (k + 1) := grpA_set t.data.toList k h9 (by rw [data_len]; exact hkt)
          rw [hgs] at hG13
          have hA3 := blk_far (p := ⟨w.heap.size + 1, k, none⟩) (.int .u8 (t[k]).toNat) hA2 (by show a ≠ w.heap.size + 1; omega)
          have hR3 := blk_far (p := ⟨w.heap.size + 1, k, none⟩) (.int .u8 (t[k]).toNat) hR2 (by show r ≠ w.heap.size + 1; omega)
          have hG03 := blk_far (p := ⟨w.heap.size + 1, k, none⟩) (.int .u8 (t[k]).toNat) hG02 (by show w.heap.size ≠ w.heap.size + 1; omega)
          have hB4 := hB3.setCell (p := ⟨w.heap.size + 1, k, none⟩) (by show w.heap.size ≤ w.heap.size + 1; omega) (.int .u8 (t[k]).toNat)
          have HS3 := Lib.hid hG13
          have HS4 := Lib.hid hG03
          have hR0 := setRow_heap _ _ (grpA t.data.toList (k + 1)) _ _ hG03
          have HB5 := Lib.hid (setRow_below (grpA t.data.toList (k + 1)) hB4 (Nat.le_refl _))
          have HR0 := Lib.hid hR0
          clear hG03 hG13 hA3 hR3 hB4 hgs hv hA2 hO hB2 hR2 hG02 hG12 hA hR HG0 HG1 hR0
          go_wp2_with (first | (refine load9 (.tmp 5) rfl rfl (w.heap.size + 1) _ (grpA_size _ _) HS3.out (by simp [Act.eval]) ?_) | (refine store9 (.tmp 2) (.tmp 29) rfl rfl w.heap.size _ _ (varA_size _ (by simp)) (grpA_size t.data.toList (k + 1)) (u8s_one _) HS4.out (by simp [Act.eval, Act.put]) (by simp [Act.eval, Act.put]) ?_))
          refine bodyPost_ret (groups_results _ _ w.heap.size (grpA t.data.toList (k + 1)) (grpA_size _ _) HR0.out rfl) rfl ⟨?_, HB5.out⟩
          have he := HE.out
          have hgv : groupsV (rest s k0) = .tuple #[.agg (grpA t.data.toList (k + 1)), .int .i64 ((k + 1 : Nat) : Int), .bool true] := by
            rw [← HT.out, groupsV, he, if_neg (by rw [data_len]; omega)]
          rw [hgv]; rfl
        · go_wp2_with fail
          refine (next_step a r k w.heap.size t wr hts hkt (by omega) hA hR).mono ?_
          rintro ee w2 ⟨rfl, hA2, hO, hB2⟩
          have hR2 := (hO.out r hne).trans hR
          have hG02 := (hO.out w.heap.size (by omega)).trans HG0.out
          have hG12 := (hO.out (w.heap.size + 1) (by omega)).trans HG1.out
          have hB3 := hB.trans hB2
          have hgm := grpA_more t.data.toList k (by omega)
          rw [hgm] at hG12
          have hR0 := setRow_heap _ _ (grpA t.data.toList (k + 1)) _ _ hG02
          have HB5 := Lib.hid (setRow_below (grpA t.data.toList (k + 1)) hB3 (Nat.le_refl _))
          have HR0 := Lib.hid hR0
          have HS3 := Lib.hid hG12
          have HS4 := Lib.hid hG02
          clear hgm hA2 hO hB2 hR2 hG02 hG12 hA hR HG0 HG1 hR0
          go_wp2_with (first | (refine load9 (.tmp 5) rfl rfl (w.heap.size + 1) _ (grpA_size _ _) HS3.out (by simp [Act.eval]) ?_) | (refine store9 (.tmp 2) (.tmp 29) rfl rfl w.heap.size _ _ (varA_size _ (by simp)) (grpA_size t.data.toList (k + 1)) (u8s_one _) HS4.out (by simp [Act.eval, Act.put]) (by simp [Act.eval, Act.put]) ?_))
          refine bodyPost_ret (groups_results _ _ w.heap.size (grpA t.data.toList (k + 1)) (grpA_size _ _) HR0.out rfl) rfl ⟨?_, HB5.out⟩
          have he := HE.out
          have hgv : groupsV (rest s k0) = .tuple #[.agg (grpA t.data.toList (k + 1)), .int .i64 ((k + 1 : Nat) : Int), .bool true] := by
            rw [← HT.out, groupsV, he, if_neg (by rw [data_len]; omega)]
          rw [hgv]; rfl
      · have hkt2 : k = t.size := by omega
        have hA' : wr.heap[a]? = some (.cells #[.int .i64 t.size] 3 (0, 0)) := by rw [← hkt2]; exact hA
        go_wp2_with fail
        refine (next_end a r t wr hts hA' hR).mono ?_
        rintro ee w2 ⟨rfl, rfl⟩
        have hR0 := setRow_heap _ _ (varA []) _ _ HG0.out
        have HB5 := Lib.hid (setRow_below (varA []) hB (Nat.le_refl _))
        have HR0 := Lib.hid hR0
        have HK := Lib.hid hkt2
        clear hR0 hA hA' hR HG1 hkt2
        go_wp2_with ((refine store9 (.tmp 2) (.tmp 19) rfl rfl w.heap.size _ (varA []) (varA_size _ (by simp)) (varA_size _ (by simp)) (u8s_one _) HG0.out (by simp [Act.eval, Act.put]) (by simp [Act.eval, Act.put, varA_zero]) ?_))
        refine bodyPost_ret (groups_results _ _ w.heap.size (varA []) (varA_size _ (by simp)) HR0.out rfl) rfl ⟨?_, HB5.out⟩
        have he := HE.out
        have hgv : groupsV (rest s k0) = .tuple #[.agg (varA []), .int .i64 0, .bool false] := by
          rw [← HT.out, groupsV, he, if_pos (by rw [data_len, HK.out]; omega)]
        rw [hgv]; rfl
end Go.Proofs.YtgooepfhapaenaaGreat
/- What the cursor's number gives. Conditions: the text is no longer than any text. -/
namespace Go.Proofs.YtgooepfhapaenaaGreat
open Go.ChangeShapes Go.WideShapes Go.ChangeAt Go.RowKit
set_option linter.unusedVariables false
set_option maxRecDepth 100000
set_option linter.unusedSimpArgs false

theorem store9n {ops : Array Oper} {rest : List Oper} {o : Oper} {a : Act} {w : World} {Q : Exit → Act → World → Prop} (x y : Operand) (ho : o.op = .store 91 x y) (hgd : o.guard = none)
    (old cs : Array Value) (hold : old.size = 9) (hs : cs.size = 9) (h1 : cs.all (·.oneCell') = true) (hx : a.eval x = .pointer (some ⟨w.heap.size, 0, none⟩)) (hy : a.eval y = .agg cs)
    (h : wpList Tryz.prog ops Q rest (a.put o.dst undef) (w.alloc (.cells cs 91))) : wpList Tryz.prog ops Q (o :: rest) a (w.alloc (.cells old 91)) :=
  store9 x y ho hgd w.heap.size old cs hold hs h1 (blk_new _ _) hx hy (by rw [World.setRow_alloc_new]; exact h)
theorem grpA_at (l : List UInt8) (k i : Nat) (h : i < k) (h9 : i < 9) (hi : i < l.length) : (grpA l k)[i]? = some (.int .u8 (l[i]).toNat) := by
  unfold grpA
  rw [varA_at _ _ (by rw [List.length_take]; omega), List.getElem_take]
theorem i64_or7 (x y : Nat) (hx : x < 72057594037927936) (hy : y < 128) : bits .or .i64 ((x : Int) * 128) (y : Int) = ((x * 128 + y : Nat) : Int) := by
  have := bits_join .i64 63 (by decide) (fun n h0 h1 => IntWalk.i64_in _ (by omega)) 7 ((x : Int) * 128) (y : Int) (by omega) (by omega) (by omega) (by omega) (by omega) (by omega)
  rw [this]; omega

set_option maxRecDepth 100000 in
set_option maxHeartbeats 2000000 in
theorem number_gen (p : Value) (l : List UInt8) (w : World) (H : Calls Tryz.prog 69 #[p] w fun e w' => e = .returned (groupsV l) ∧ Below w.heap.size w w') :
    Calls Tryz.prog 53 #[p] w fun e w' => e = .returned (.tuple #[.int .i64 (tvV l), .int .i64 (tvM l), .int .i64 (tvE l)]) ∧ Below w.heap.size w w' := by
  have hz := varA_zero
  by_cases h1 : l.length ≤ leadN l
  · have e1 := tvE_short h1
    obtain ⟨e2, e3⟩ := tvE_ne (l := l) (by omega)
    rw [e1, e2, e3]
    rw [groupsV, if_pos h1] at H
    have HH := Lib.hid H
    have HZ := Lib.hid hz
    clear e1 e2 e3 H hz
    go_enter Tryz.func53, Tryz.ntmps53
    go_wp2_with fail
    refine HH.out.mono ?_
    rintro e w1 ⟨rfl, hb⟩
    go_wp2_with (refine store9n (.tmp 5) (.tmp 13) rfl rfl _ (varA []) rfl (varA_size _ (by simp)) (u8s_one _) (by simp [Act.eval, Act.put]) (by simp [Act.eval, Act.put]) ?_)
    go_ret3
    exact ⟨rfl, hb.alloc hb.size _⟩
  · rw [groupsV, if_neg h1] at H
    by_cases h9 : 9 ≤ leadN l
    · have e1 := tvE_form (l := l) (by omega) (Or.inl h9)
      obtain ⟨e2, e3⟩ := tvE_ne (l := l) (by omega)
      rw [e1, e2, e3]
      generalize leadN l = e at *
      have HH := Lib.hid H
      have hsz := grpA_size l (e + 1)
      have HZ := Lib.hid hz
      clear e1 e2 e3 H hz hsz
      go_enter Tryz.func53, Tryz.ntmps53
      go_wp2_with fail
      refine HH.out.mono ?_
      rintro ee w1 ⟨rfl, hb⟩
      go_wp2_with (refine store9n (.tmp 5) (.tmp 13) rfl rfl _ (grpA l (e + 1)) rfl (grpA_size _ _) (u8s_one _) (by simp [Act.eval, Act.put]) (by simp [Act.eval, Act.put]) ?_)
      go_ret3
      exact ⟨rfl, hb.alloc hb.size _⟩
    · obtain ⟨e, he⟩ : ∃ e, leadN l = e := ⟨_, rfl⟩
      rw [he] at H h1 h9
      have hel : e < l.length := by omega
      have hat := grpA_at l (e + 1) e (by omega) (by omega) hel
      by_cases h0 : 0 < e ∧ l[e]? = some 0
      · have e1 := tvE_form (l := l) (by omega) (Or.inr (by rw [he]; exact h0))
        obtain ⟨e2, e3⟩ := tvE_ne (l := l) (by omega)
        rw [e1, e2, e3]
        have hv : l[e] = 0 := by have := h0.2; rw [List.getElem?_eq_getElem hel] at this; injection this
        rw [hv] at hat
        have he0 := h0.1
        have HH := Lib.hid H
        clear e1 e2 e3 H hz he h0 hv
        go_enter Tryz.func53, Tryz.ntmps53
        go_wp2_with fail
        refine HH.out.mono ?_
        rintro ee w1 ⟨rfl, hb⟩
        go_wp2_with (refine store9n (.tmp 5) (.tmp 13) rfl rfl _ (grpA l (e + 1)) rfl (grpA_size _ _) (u8s_one _) (by simp [Act.eval, Act.put]) (by simp [Act.eval, Act.put]) ?_)
        go_ret3
        exact ⟨rfl, hb.alloc hb.size _⟩
      · have HL := Lib.hid (fun i (h : i < e + 1) => grpA_at l (e + 1) i h (by omega) (Nat.lt_of_lt_of_le h hel))
        have e1 := tvE_ok (l := l) (by omega) (fun g => g.elim (fun g => by omega) (fun g => h0 (by rw [he] at g; exact g)))
        have e2 : tvV l = val (l.take (e + 1)) := by rw [tvV, if_pos e1, he]
        have e3 : tvM l = e + 1 := by rw [tvM, if_pos e1, he]
        rw [e1, e2, e3]
        have hne : 0 < e → (((l[e]).toNat : Int) == 0) = false := by
          intro h
          have : l[e] ≠ 0 := fun g => h0 ⟨h, by rw [List.getElem?_eq_getElem hel, g]⟩
          have h3 : (l[e]).toNat ≠ 0 := fun g => this (by rw [← UInt8.toNat_inj]; simpa using g)
          simp; omega
        have HH := Lib.hid H
        have hlt : ∀ j, 1 ≤ j → val ((l.take (e + 1)).drop j) < 72057594037927936 := fun j hj => by
          have hl := val_lt ((l.take (e + 1)).drop j)
          have hp : 128 ^ ((l.take (e + 1)).drop j).length ≤ 128 ^ 8 := Nat.pow_le_pow_right (by omega) (by rw [List.length_drop, List.length_take]; omega)
          have e8 : 128 ^ 8 = 72057594037927936 := by decide
          omega
        have HT := Lib.hid hlt
        have hx := (l[e]).toNat_lt
        clear e1 e2 e3 H hz he h0 hlt
        by_cases he0 : 0 < e
        · have hne2 := hne he0
          generalize (l[e]).toNat = x at *
          clear hne
          go_enter Tryz.func53, Tryz.ntmps53
          go_wp2_with fail
          refine HH.out.mono ?_
          rintro ee w1 ⟨rfl, hb⟩
          have g9 : decide ((9 : Int) < (e : Int) + 1) = false := decide_eq_false (by omega)
          have g1 : decide ((1 : Int) < (e : Int) + 1) = true := decide_eq_true (by omega)
          go_wp2_with (refine store9n (.tmp 5) (.tmp 13) rfl rfl _ (grpA l (e + 1)) rfl (grpA_size _ _) (u8s_one _) (by simp [Act.eval, Act.put]) (by simp [Act.eval, Act.put]) ?_)
          go_loop [8, 9] (fun n i => ∃ j : Nat, j ≤ e + 1 ∧ n = .int .i64 ((val ((l.take (e + 1)).drop j) : Nat) : Int) ∧ i = .int .i64 ((j : Int) - 1)) (fun _ i => (intOf i + 1).toNat)
          case atStart => exact ⟨e + 1, by omega, by rw [List.drop_eq_nil_of_le (by rw [List.length_take]; omega)]; rfl, by go_num⟩
          case round =>
            obtain ⟨j, hj, rfl, rfl⟩ := hrel
            by_cases hj0 : 0 < j
            · obtain ⟨i, rfl⟩ : ∃ i, j = i + 1 := ⟨j - 1, by omega⟩
              have hm := HT.out (i + 1) (by omega)
              have hci := HL.out i (by omega)
              have hv : val ((l.take (e + 1)).drop i) = (l[i]).toNat % 128 + 128 * val ((l.take (e + 1)).drop (i + 1)) := by
                have hlen : i < (l.take (e + 1)).length := by rw [List.length_take]; omega
                rw [List.drop_eq_getElem_cons hlen, List.getElem_take]; rfl
              have hu := (l[i]).toNat_lt
              have HV := Lib.hid hv
              clear hv
              generalize val ((l.take (e + 1)).drop (i + 1)) = m at *
              generalize (l[i]).toNat = y at *
              have hb1 := u8_not128n y hu
              have hb2 := i64_or7 m (y % 128) hm (by omega)
              rw [show ((y % 128 : Nat) : Int) = (y : Int) % 128 by omega] at hb1 hb2
              have HB2 := Lib.hid hb2
              clear hb2
              go_wp2
              go_round
              case rel => exact ⟨i, by omega, by rw [HV.out, HB2.out, Nat.mul_comm m, Nat.add_comm], by go_num⟩
              case measure => simp [intOf]
            · obtain rfl : j = 0 := by omega
              rw [List.drop_zero]
              go_wp2
              go_ret3
              exact ⟨rfl, hb.alloc hb.size _⟩
        · obtain rfl : e = 0 := by omega
          have H1 := HH.out
          rw [show ((0 + 1 : Nat) : Int) = 1 by rfl, show 0 + 1 = 1 by rfl] at H1
          have hl1 := HL.out
          have ht1 := HT.out
          rw [show 0 + 1 = 1 by rfl] at ht1
          have HL := Lib.hid (show ∀ (i : Nat) (h : i < 1), (grpA l 1)[i]? = some (Value.int IntKind.u8 (l[i]'(by omega)).toNat) from fun i h => hl1 i h)
          have HT := Lib.hid ht1
          have HH := Lib.hid H1
          clear hne hat H1 hl1 ht1
          go_enter Tryz.func53, Tryz.ntmps53
          go_wp2_with fail
          refine HH.out.mono ?_
          rintro ee w1 ⟨rfl, hb⟩
          go_wp2_with (refine store9n (.tmp 5) (.tmp 13) rfl rfl _ (grpA l (1)) rfl (grpA_size _ _) (u8s_one _) (by simp [Act.eval, Act.put]) (by simp [Act.eval, Act.put]) ?_)
          go_loop [8, 9] (fun n i => ∃ j : Nat, j ≤ 1 ∧ n = .int .i64 ((val ((l.take (1)).drop j) : Nat) : Int) ∧ i = .int .i64 ((j : Int) - 1)) (fun _ i => (intOf i + 1).toNat)
          case atStart => exact ⟨1, by omega, by rw [List.drop_eq_nil_of_le (by rw [List.length_take]; omega)]; rfl, by go_num⟩
          case round =>
            obtain ⟨j, hj, rfl, rfl⟩ := hrel
            by_cases hj0 : 0 < j
            · obtain ⟨i, rfl⟩ : ∃ i, j = i + 1 := ⟨j - 1, by omega⟩
              have hm := HT.out (i + 1) (by omega)
              have hci := HL.out i (by omega)
              have hv : val ((l.take (1)).drop i) = (l[i]).toNat % 128 + 128 * val ((l.take (1)).drop (i + 1)) := by
                have hlen : i < (l.take (1)).length := by rw [List.length_take]; omega
                rw [List.drop_eq_getElem_cons hlen, List.getElem_take]; rfl
              have hu := (l[i]).toNat_lt
              have HV := Lib.hid hv
              clear hv
              generalize val ((l.take (1)).drop (i + 1)) = m at *
              generalize (l[i]).toNat = y at *
              have hb1 := u8_not128n y hu
              have hb2 := i64_or7 m (y % 128) hm (by omega)
              rw [show ((y % 128 : Nat) : Int) = (y : Int) % 128 by omega] at hb1 hb2
              have HB2 := Lib.hid hb2
              clear hb2
              go_wp2
              go_round
              case rel => exact ⟨i, by omega, by rw [HV.out, HB2.out, Nat.mul_comm m, Nat.add_comm], by go_num⟩
              case measure => simp [intOf]
            · obtain rfl : j = 0 := by omega
              rw [List.drop_zero]
              go_wp2
              go_ret3
              exact ⟨rfl, hb.alloc hb.size _⟩
end Go.Proofs.YtgooepfhapaenaaGreat
/- What the cursor's methods come to. Conditions: the text is no longer than any text. -/
namespace Go.Proofs.YtgooepfhapaenaaGreat
open Go.ChangeShapes Go.WideShapes Go.ChangeAt Go.RowKit
set_option linter.unusedVariables false
set_option maxRecDepth 100000
set_option linter.unusedSimpArgs false

theorem leadN_nil : tvV [] = 0 ∧ tvM [] = 0 ∧ tvE [] = 3 := by
  have e := tvE_short (l := []) (by simp)
  obtain ⟨e2, e3⟩ := tvE_ne (l := []) (by omega)
  exact ⟨e2, e3, e⟩
theorem number_nil (w : World) : Calls Tryz.prog 53 #[.pointer none] w fun e w' => e = .returned (.tuple #[.int .i64 0, .int .i64 0, .int .i64 3]) ∧ Below w.heap.size w w' := by
  have h := number_gen (.pointer none) [] w (by rw [groupsV, if_pos (by simp)]; exact groups_nil w)
  rw [leadN_nil.1, leadN_nil.2.1, leadN_nil.2.2] at h
  exact h
theorem number_any (b : Nat) (s : ByteArray) (k : Nat) (w : World) (hs : s.size ≤ 9223372036854775000) (hc : Cur w b s k) :
    Calls Tryz.prog 53 #[.pointer (some ⟨b, 0, none⟩)] w fun e w' => e = .returned (.tuple #[.int .i64 (tvV (rest s k)), .int .i64 (tvM (rest s k)), .int .i64 (tvE (rest s k))]) ∧ Below w.heap.size w w' :=
  number_gen _ _ w (groups_any b s k w hs hc)
theorem var_nil (w : World) : Calls Tryz.prog 25 #[.pointer none] w fun e w' => e = .returned (.tuple #[.int .i64 0, .int .i64 3]) ∧ Below w.heap.size w w' := by
  go_enter Tryz.func25, Tryz.ntmps25
  go_wp2_with (go_at_call 53; (with_reducible refine (number_nil _).mono ?_); rintro e w1 ⟨rfl, hb⟩)
  go_ret2
  exact ⟨rfl, by assumption⟩

theorem cur_below {w w1 : World} {B b : Nat} {s : ByteArray} {k : Nat} (h : Cur w b s k) (hb : Below B w w1) (hB : b < B) : Cur w1 b s k := ⟨blk_below hb h.1 hB, h.2⟩
theorem cur_set {w : World} {b : Nat} {s : ByteArray} {k j : Nat} (h : Cur w b s k) (hj : j ≤ s.size) : Cur (w.setCell ⟨b, 1, none⟩ (.int .i64 j)) b s j := ⟨blk_set h.1 1 _, hj⟩
theorem cur_cells {w : World} {b : Nat} {s : ByteArray} {k : Nat} (h : Cur w b s k) : w.cell? ⟨b, 0, none⟩ = some (.string s) ∧ w.cell? ⟨b, 1, none⟩ = some (.int .i64 k) ∧ w.frozen? ⟨b, 1, none⟩ = false :=
  ⟨blk_cell h.1 0, blk_cell h.1 1, blk_free h.1 1⟩

set_option maxRecDepth 100000 in
theorem var_cur (b : Nat) (s : ByteArray) (k B : Nat) (w : World) (hs : s.size ≤ 9223372036854775000) (hB : B ≤ b) (hc : Cur w b s k) :
    Calls Tryz.prog 25 #[.pointer (some ⟨b, 0, none⟩)] w fun e w' => e = .returned (.tuple #[.int .i64 (tvV (rest s k)), .int .i64 (tvE (rest s k))]) ∧ Cur w' b s (k + tvM (rest s k)) ∧ Below B w w' := by
  have hbs : b < w.heap.size := lt_of_block hc.1
  have hn := number_any b s k w hs hc
  have hM := tvM_le (rest s k)
  rw [rest_len] at hM
  have hks := hc.2
  by_cases h0 : tvE (rest s k) = 0
  · rw [h0] at hn ⊢
    have HN := Lib.hid hn
    generalize tvV (rest s k) = v at *
    generalize tvM (rest s k) = m at *
    clear hn h0
    go_enter Tryz.func25, Tryz.ntmps25
    go_wp2_with fail
    refine HN.out.mono ?_
    rintro e w1 ⟨rfl, hb⟩
    have hc1 := cur_below hc hb hbs
    obtain ⟨c0, c1, f1⟩ := cur_cells hc1
    have HC := Lib.hid (cur_set (j := k + m) hc1 (by omega))
    have HB := Lib.hid (((hb.mono (B' := B) (by omega))).setCell (p := ⟨b, 1, none⟩) hB (.int .i64 ((k + m : Nat) : Int)))
    clear hc1 hc
    go_wp2_with fail
    go_ret2
    exact ⟨rfl, by simpa using HC.out, by simpa using HB.out⟩
  · obtain ⟨e2, e3⟩ := tvE_ne h0
    rw [e2, e3] at hn
    rw [e2, e3]
    have HN := Lib.hid hn
    generalize tvE (rest s k) = te at *
    have c5 : ((te : Int) != 0) = true := by simp; omega
    have c6 : ((te : Int) == 0) = false := by simp; omega
    have HC := Lib.hid hc
    clear hn e2 e3 hc
    go_enter Tryz.func25, Tryz.ntmps25
    go_wp2_with fail
    refine HN.out.mono ?_
    rintro e w1 ⟨rfl, hb⟩
    go_wp2_with fail
    go_ret2
    exact ⟨rfl, by rw [Nat.add_zero]; exact cur_below HC.out hb hbs, hb.mono (by omega)⟩
end Go.Proofs.YtgooepfhapaenaaGreat
/- What the cursor's Text and Fixed come to. Conditions: the text is no longer than any text. -/
namespace Go.Proofs.YtgooepfhapaenaaGreat
open Go.ChangeShapes Go.WideShapes Go.ChangeAt Go.RowKit
set_option linter.unusedVariables false
set_option maxRecDepth 100000
set_option linter.unusedSimpArgs false

theorem ext_rest (s : ByteArray) (k a b : Nat) : bs (((rest s k).take (a + b)).drop a) = s.extract (k + a) (k + a + b) := by
  rw [← bs_of (s.extract _ _), extract_list, rest]
  congr 1
  rw [List.take_drop, List.drop_drop]
  congr 2; omega

theorem below_drewN {B : Nat} {a w : World} (h : Below B a w) (n : Nat) : Below B a (w.drewN n) := ⟨h.os, h.tape, h.output, h.size, h.block⟩
/-- What a round of Fixed finds. -/
def FI (B b a r : Nat) (s t : ByteArray) (k : Nat) (w wr : World) (i : Nat) : Prop :=
  Cur wr b s k ∧ wr.heap[a]? = some (.cells #[.int .i64 i] 3 (0, 0)) ∧ wr.heap[r]? = some (.cells #[.string t] 9 (0, 0)) ∧ Below B w wr
theorem bigV_snoc (t : ByteArray) (i : Nat) (h : i < t.size) : bigV (t.data.toList.take (i + 1)) 0 = bigV (t.data.toList.take i) 0 * 256 + t[i].toNat := by
  rw [take_snoc t i h, bigV_append]; rfl
theorem u64_or8 (x y : Nat) (hx : x < 72057594037927936) (hy : y < 256) : bits .or .u64 ((x : Int) * 256) (y : Int) = ((x * 256 + y : Nat) : Int) := by
  have := bits_join .u64 64 (by decide) (fun n h0 h1 => IntWalk.u64_in _ (by omega)) 8 ((x : Int) * 256) (y : Int) (by omega) (by omega) (by omega) (by omega) (by omega) (by omega)
  rw [this]; omega
set_option maxRecDepth 100000 in
theorem fixed_in_cur (b : Nat) (s : ByteArray) (k B size : Nat) (w : World) (hs : s.size ≤ 9223372036854775000) (hB : B ≤ b) (hc : Cur w b s k) (h1 : 1 ≤ size) (h8 : size ≤ 8) :
    Calls Tryz.prog 70 #[.pointer (some ⟨b, 0, none⟩), .int .i64 size] w fun e w' => e = .returned (.tuple #[.int .u64 (tfV (rest s k) size), .int .i64 (tfE (rest s k) size)]) ∧ Cur w' b s (k + tfM (rest s k) size) ∧ Below B w w' := by
  have hbs : b < w.heap.size := lt_of_block hc.1
  have d1 : decide ((size : Int) < 1) = false := decide_eq_false (by omega)
  have d2 : decide ((8 : Int) < size) = false := decide_eq_false (by omega)
  have hks := hc.2
  have HC0 := Lib.hid hc
  go_enter Tryz.func70, Tryz.ntmps70
  go_wp2_with fail
  refine (reader_any b s k w hs hc).mono ?_
  rintro e w1 ⟨r, a, t, rfl, ht, hra, hrr, hA, hR, hb⟩
  have hfi : FI B b a r s t k w w1 0 := ⟨cur_below hc hb hbs, hA, hR, hb.mono (by omega)⟩
  have hts : t.size = s.size - k := by rw [← data_len, ht, rest_len]
  have hts2 : t.size ≤ 9223372036854775000 := by omega
  have HT := Lib.hid ht
  have HTS := Lib.hid hts
  clear hc hA hR hb ht hts
  go_wp2_with fail
  go_loopw [7, 19] (fun n i wr => ∃ j : Nat, j ≤ size ∧ j ≤ t.size ∧ n = .int .u64 ((bigV (t.data.toList.take j) 0 : Nat) : Int) ∧ i = .int .i64 j ∧ FI B b a r s t k w wr j) (fun _ i _ => size - (intOf i).toNat)
  case atStart => exact ⟨0, by omega, by omega, rfl, rfl, hfi⟩
  case round =>
    obtain ⟨j, hj, hjt, rfl, rfl, hC, hA, hR, hBW⟩ := hrel
    have hne := int_str_ne hA hR
    by_cases hlt : j < size
    · by_cases hjs : j < t.size
      · have hl := bigV_lt (t.data.toList.take j) 0
        have hp : 256 ^ (t.data.toList.take j).length ≤ 256 ^ 7 := Nat.pow_le_pow_right (by omega) (by simp; omega)
        have e7 : 256 ^ 7 = 72057594037927936 := by decide
        have hm : bigV (t.data.toList.take j) 0 < 72057594037927936 := by omega
        have HV := Lib.hid (bigV_snoc t j hjs)
        clear hl hp e7
        generalize bigV (t.data.toList.take j) 0 = m at *
        have hu := (t[j]).toNat_lt
        go_wp2_with fail
        refine (next_step a r j B t wr hts2 hjs (by omega) hA hR).mono ?_
        rintro ee w2 ⟨rfl, hA2, hO, hB2⟩
        have hba : b ≠ a := by omega
        have hfi2 : FI B b a r s t k w w2 (j + 1) := ⟨⟨(hO.out b hba).trans hC.1, hks⟩, hA2, (hO.out r hne).trans hR, hBW.trans hB2⟩
        have HF := Lib.hid hfi2
        generalize hy : (t[j]).toNat = y at *
        have hb3 := u64_or8 m y hm (by omega)
        clear hfi2 hA2 hO hB2 hC hA hR hBW
        go_wp2_with fail
        go_roundw
        case rel => exact ⟨j + 1, by omega, by omega, by rw [HV.out]; simp, by go_num, HF.out⟩
        case measure => simp [intOf]; omega
      · have hjt2 : j = t.size := by omega
        have hA' : wr.heap[a]? = some (.cells #[.int .i64 t.size] 3 (0, 0)) := by rw [← hjt2]; exact hA
        have HE := Lib.hid hjt2
        go_wp2_with fail
        refine (next_end a r t wr hts2 hA' hR).mono ?_
        rintro ee w2 ⟨rfl, rfl⟩
        have HC := Lib.hid hC
        clear hA hA' hR hC hjt2 hfi
        go_wp2_with fail
        go_ret2
        have e1 : tfE (rest s k) size = 3 := by
          unfold tfE
          rw [if_neg (by omega), if_pos (by rw [rest_len, ← HTS.out]; have := HE.out; omega)]
        have e2 : tfV (rest s k) size = 0 := by unfold tfV; rw [e1]; rfl
        have e3 : tfM (rest s k) size = 0 := by unfold tfM; rw [e1]; rfl
        exact ⟨by rw [e1, e2]; rfl, by rw [e3, Nat.add_zero]; exact HC.out, by assumption⟩
    · obtain rfl : j = size := by omega
      have e1 : tfE (rest s k) j = 0 := by
        unfold tfE
        rw [if_neg (by omega), if_neg (by rw [rest_len, ← HTS.out]; omega)]
      have e2 : tfV (rest s k) j = bigV (t.data.toList.take j) 0 := by unfold tfV; rw [e1, HT.out]; simp
      have e3 : tfM (rest s k) j = j := by unfold tfM; rw [e1]; simp
      obtain ⟨c0, c1, f1⟩ := cur_cells hC
      have hq : k + j ≤ s.size := by have := HTS.out; omega
      have HC := Lib.hid (cur_set (j := k + j) hC hq)
      have HB := Lib.hid (hBW.setCell (p := ⟨b, 1, none⟩) hB (.int .i64 ((k + j : Nat) : Int)))
      have E1 := Lib.hid e1
      have E2 := Lib.hid e2
      have E3 := Lib.hid e3
      clear e1 e2 e3 hA hR hC hfi
      go_wp2_with fail
      go_ret2
      exact ⟨by rw [E1.out, E2.out]; rfl, by rw [E3.out]; simpa using HC.out, by simpa using HB.out⟩
theorem fixed_cur (b : Nat) (s : ByteArray) (k B : Nat) (size : Int) (w : World) (hs : s.size ≤ 9223372036854775000) (hB : B ≤ b) (hc : Cur w b s k) :
    Calls Tryz.prog 70 #[.pointer (some ⟨b, 0, none⟩), .int .i64 size] w fun e w' => e = .returned (.tuple #[.int .u64 (tfV (rest s k) size), .int .i64 (tfE (rest s k) size)]) ∧ Cur w' b s (k + tfM (rest s k) size) ∧ Below B w w' := by
  by_cases h : 1 ≤ size ∧ size ≤ 8
  · obtain ⟨n, rfl⟩ : ∃ n : Nat, size = n := ⟨size.toNat, by omega⟩
    exact fixed_in_cur b s k B n w hs hB hc (by omega) (by omega)
  · have e1 : tfE (rest s k) size = 1 := by unfold tfE; rw [if_pos h]
    have e2 : tfV (rest s k) size = 0 := by unfold tfV; rw [e1]; rfl
    have e3 : tfM (rest s k) size = 0 := by unfold tfM; rw [e1]; rfl
    rw [e1, e2, e3]
    have HC := Lib.hid hc
    clear e1 e2 e3 hc
    by_cases h1 : size < 1
    · go_enter Tryz.func70, Tryz.ntmps70
      go_wp2_with fail
      go_ret2
      exact ⟨rfl, HC.out, Below.refl _ _⟩
    · have h2 : 8 < size := by omega
      clear h
      go_enter Tryz.func70, Tryz.ntmps70
      go_wp2_with fail
      go_ret2
      exact ⟨rfl, HC.out, Below.refl _ _⟩
theorem left_cur (b : Nat) (s : ByteArray) (k B : Nat) (w : World) (hs : s.size ≤ 9223372036854775000) (hc : Cur w b s k) :
    Calls Tryz.prog 29 #[.pointer (some ⟨b, 0, none⟩)] w fun e w' => e = .returned (.int .i64 ((s.size - k : Nat) : Int)) ∧ Cur w' b s k ∧ Below B w w' :=
  (left_any b s k w hs hc).mono fun e w' h => by
    obtain ⟨h1, n, rfl⟩ := h
    exact ⟨h1, ⟨hc.1, hc.2⟩, below_drewN (Below.refl _ _) n⟩
theorem curnew_any (s : ByteArray) (w : World) :
    Calls Tryz.prog 24 #[.string s] w fun e w' => e = .returned (.pointer (some ⟨w.heap.size, 0, none⟩)) ∧ Cur w' w.heap.size s 0 ∧ Below w.heap.size w w' := by
  go_enter Tryz.func24, Tryz.ntmps24
  go_wp2
  go_ret
  exact ⟨rfl, ⟨blk_new _ _, by omega⟩, (Below.refl _ _).alloc (Nat.le_refl _) _⟩
end Go.Proofs.YtgooepfhapaenaaGreat
/- The cursor's Var and Fixed: nothing but the cursor's own block turns (OctI's and OctJ's walks, with that said). Conditions: the text is no longer than any text. -/
namespace Go.Proofs.YtgooepfhapaenaaGreat
open Go.ChangeShapes Go.WideShapes Go.ChangeAt Go.RowKit
set_option linter.unusedVariables false
set_option linter.unusedSimpArgs false

set_option maxRecDepth 100000 in
theorem var_only (b : Nat) (s : ByteArray) (k : Nat) (w : World) (hs : s.size ≤ 9223372036854775000) (hc : Cur w b s k) :
    Calls Tryz.prog 25 #[.pointer (some ⟨b, 0, none⟩)] w fun e w' => e = .returned (.tuple #[.int .i64 (tvV (rest s k)), .int .i64 (tvE (rest s k))]) ∧ Cur w' b s (k + tvM (rest s k)) ∧ Only b w w' := by
  have hbs : b < w.heap.size := lt_of_block hc.1
  have hn := number_any b s k w hs hc
  have hM := tvM_le (rest s k)
  rw [rest_len] at hM
  have hks := hc.2
  by_cases h0 : tvE (rest s k) = 0
  · rw [h0] at hn ⊢
    have HN := Lib.hid hn
    generalize tvV (rest s k) = v at *
    generalize tvM (rest s k) = m at *
    clear hn h0
    go_enter Tryz.func25, Tryz.ntmps25
    go_wp2_with fail
    refine HN.out.mono ?_
    rintro e w1 ⟨rfl, hb⟩
    have hc1 := cur_below hc hb hbs
    obtain ⟨c0, c1, f1⟩ := cur_cells hc1
    have HC := Lib.hid (cur_set (j := k + m) hc1 (by omega))
    have HB := Lib.hid ((Only.of b hb).setCell 1 (.int .i64 ((k + m : Nat) : Int)))
    clear hc1 hc
    go_wp2_with fail
    go_ret2
    exact ⟨rfl, by simpa using HC.out, by simpa using HB.out⟩
  · obtain ⟨e2, e3⟩ := tvE_ne h0
    rw [e2, e3] at hn
    rw [e2, e3]
    have HN := Lib.hid hn
    generalize tvE (rest s k) = te at *
    have c5 : ((te : Int) != 0) = true := by simp; omega
    have c6 : ((te : Int) == 0) = false := by simp; omega
    have HC := Lib.hid hc
    clear hn e2 e3 hc
    go_enter Tryz.func25, Tryz.ntmps25
    go_wp2_with fail
    refine HN.out.mono ?_
    rintro e w1 ⟨rfl, hb⟩
    go_wp2_with fail
    go_ret2
    exact ⟨rfl, by rw [Nat.add_zero]; exact cur_below HC.out hb hbs, Only.of b hb⟩
set_option maxRecDepth 100000 in
theorem fixed_only (b : Nat) (s : ByteArray) (k size : Nat) (w : World) (hs : s.size ≤ 9223372036854775000) (hc : Cur w b s k) (h1 : 1 ≤ size) (h8 : size ≤ 8) :
    Calls Tryz.prog 70 #[.pointer (some ⟨b, 0, none⟩), .int .i64 size] w fun e w' => e = .returned (.tuple #[.int .u64 (tfV (rest s k) size), .int .i64 (tfE (rest s k) size)]) ∧ Cur w' b s (k + tfM (rest s k) size) ∧ Only b w w' := by
  have hbs : b < w.heap.size := lt_of_block hc.1
  have d1 : decide ((size : Int) < 1) = false := decide_eq_false (by omega)
  have d2 : decide ((8 : Int) < size) = false := decide_eq_false (by omega)
  have hks := hc.2
  have HC0 := Lib.hid hc
  go_enter Tryz.func70, Tryz.ntmps70
  go_wp2_with fail
  refine (reader_any b s k w hs hc).mono ?_
  rintro e w1 ⟨r, a, t, rfl, ht, hra, hrr, hA, hR, hb⟩
  have hfi : FI w.heap.size b a r s t k w w1 0 := ⟨cur_below hc hb hbs, hA, hR, hb.mono (by omega)⟩
  have hts : t.size = s.size - k := by rw [← data_len, ht, rest_len]
  have hts2 : t.size ≤ 9223372036854775000 := by omega
  have HT := Lib.hid ht
  have HTS := Lib.hid hts
  clear hc hA hR hb ht hts
  go_wp2_with fail
  go_loopw [7, 19] (fun n i wr => ∃ j : Nat, j ≤ size ∧ j ≤ t.size ∧ n = .int .u64 ((bigV (t.data.toList.take j) 0 : Nat) : Int) ∧ i = .int .i64 j ∧ FI w.heap.size b a r s t k w wr j) (fun _ i _ => size - (intOf i).toNat)
  case atStart => exact ⟨0, by omega, by omega, rfl, rfl, hfi⟩
  case round =>
    obtain ⟨j, hj, hjt, rfl, rfl, hC, hA, hR, hBW⟩ := hrel
    have hne := int_str_ne hA hR
    by_cases hlt : j < size
    · by_cases hjs : j < t.size
      · have hl := bigV_lt (t.data.toList.take j) 0
        have hp : 256 ^ (t.data.toList.take j).length ≤ 256 ^ 7 := Nat.pow_le_pow_right (by omega) (by simp; omega)
        have e7 : 256 ^ 7 = 72057594037927936 := by decide
        have hm : bigV (t.data.toList.take j) 0 < 72057594037927936 := by omega
        have HV := Lib.hid (bigV_snoc t j hjs)
        clear hl hp e7
        generalize bigV (t.data.toList.take j) 0 = m at *
        have hu := (t[j]).toNat_lt
        go_wp2_with fail
        refine (next_step a r j w.heap.size t wr hts2 hjs (by omega) hA hR).mono ?_
        rintro ee w2 ⟨rfl, hA2, hO, hB2⟩
        have hba : b ≠ a := by omega
        have hfi2 : FI w.heap.size b a r s t k w w2 (j + 1) := ⟨⟨(hO.out b hba).trans hC.1, hks⟩, hA2, (hO.out r hne).trans hR, hBW.trans hB2⟩
        have HF := Lib.hid hfi2
        generalize hy : (t[j]).toNat = y at *
        have hb3 := u64_or8 m y hm (by omega)
        clear hfi2 hA2 hO hB2 hC hA hR hBW
        go_wp2_with fail
        go_roundw
        case rel => exact ⟨j + 1, by omega, by omega, by rw [HV.out]; simp, by go_num, HF.out⟩
        case measure => simp [intOf]; omega
      · have hjt2 : j = t.size := by omega
        have hA' : wr.heap[a]? = some (.cells #[.int .i64 t.size] 3 (0, 0)) := by rw [← hjt2]; exact hA
        have HE := Lib.hid hjt2
        go_wp2_with fail
        refine (next_end a r t wr hts2 hA' hR).mono ?_
        rintro ee w2 ⟨rfl, rfl⟩
        have HC := Lib.hid hC
        clear hA hA' hR hC hjt2 hfi
        go_wp2_with fail
        go_ret2
        have e1 : tfE (rest s k) size = 3 := by
          unfold tfE
          rw [if_neg (by omega), if_pos (by rw [rest_len, ← HTS.out]; have := HE.out; omega)]
        have e2 : tfV (rest s k) size = 0 := by unfold tfV; rw [e1]; rfl
        have e3 : tfM (rest s k) size = 0 := by unfold tfM; rw [e1]; rfl
        exact ⟨by rw [e1, e2]; rfl, by rw [e3, Nat.add_zero]; exact HC.out, Only.of b (by assumption)⟩
    · obtain rfl : j = size := by omega
      have e1 : tfE (rest s k) j = 0 := by
        unfold tfE
        rw [if_neg (by omega), if_neg (by rw [rest_len, ← HTS.out]; omega)]
      have e2 : tfV (rest s k) j = bigV (t.data.toList.take j) 0 := by unfold tfV; rw [e1, HT.out]; simp
      have e3 : tfM (rest s k) j = j := by unfold tfM; rw [e1]; simp
      obtain ⟨c0, c1, f1⟩ := cur_cells hC
      have hq : k + j ≤ s.size := by have := HTS.out; omega
      have HC := Lib.hid (cur_set (j := k + j) hC hq)
      have HB := Lib.hid ((Only.of b hBW).setCell 1 (.int .i64 ((k + j : Nat) : Int)))
      have E1 := Lib.hid e1
      have E2 := Lib.hid e2
      have E3 := Lib.hid e3
      clear e1 e2 e3 hA hR hC hfi
      go_wp2_with fail
      go_ret2
      exact ⟨by rw [E1.out, E2.out]; rfl, by rw [E3.out]; simpa using HC.out, by simpa using HB.out⟩
end Go.Proofs.YtgooepfhapaenaaGreat
