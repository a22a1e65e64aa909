/- The law OctetBack of the repository answers true for every input. No conditions. -/
import Derived.Test.YtflbogaknjdfjaaOctAwake
import Derived.Test.YtflbogaknjdfjaaArgs
import Derived.Deep.DeepCutAuto
import Derived.Deep.LoopGhost
import Derived.Test.YtflbogaknjdfjaaRows
import Derived.WalkKit
import Derived.ProofKit
import Derived.OpenShut
import Derived.Below
import Derived.ShutString
import Derived.Carry
import Derived.Test.YtflbogaknjdfjaaArgs
namespace Go.Proofs.Ytflbogaknjdfjaa.octetBack
open Go.ChangeShapes Go.WideShapes Go.ChangeAt Go.RowKit
open Go.ChangeMaps (open_string shut_string)
set_option linter.unusedVariables false
set_option linter.unusedSimpArgs false

theorem own : ownKnob Try.prog.godebug = none := by kernel_rfl
theorem laidOut : laidOutB Try.prog = true := by kernel_rfl
theorem op3 : Opens Try.prog 3 (.int .i64) := opens_int Try.underlying3
theorem op50 : Opens Try.prog 50 (.slice (.int .i64)) := opens_slice Try.underlying50 (by kernel_rfl) (by decide) op3
theorem op9 : Opens Try.prog 9 .str := opens_str Try.underlying9
theorem op51 : Opens Try.prog 51 (.slice .str) := opens_slice Try.underlying51 (by kernel_rfl) (by decide) op9

theorem and_max (v : Int) : ∃ N : Nat, bits .and .i64 v 9223372036854775807 = (N : Int) ∧ N < 9223372036854775808 := by
  refine ⟨(BitVec.ofInt 64 v &&& BitVec.ofInt 64 9223372036854775807).toNat, ?_, ?_⟩
  · have h : (BitVec.ofInt 64 v &&& BitVec.ofInt 64 9223372036854775807).toNat ≤ 9223372036854775807 := by
      rw [BitVec.toNat_and]
      exact Nat.and_le_right
    show IntKind.i64.wrap (((BitVec.ofInt 64 v &&& BitVec.ofInt 64 9223372036854775807).toNat : Nat) : Int) = _
    exact IntWalk.i64_in _ (by omega)
  · have h : (BitVec.ofInt 64 v &&& BitVec.ofInt 64 9223372036854775807).toNat ≤ 9223372036854775807 := by
      rw [BitVec.toNat_and]
      exact Nat.and_le_right
    omega
theorem and_seven (v : Int) : ∃ N : Nat, bits .and .i64 v 7 = (N : Int) ∧ N < 8 := by
  have h : (BitVec.ofInt 64 v &&& BitVec.ofInt 64 7).toNat ≤ 7 := by
    rw [BitVec.toNat_and]
    exact Nat.and_le_right
  refine ⟨(BitVec.ofInt 64 v &&& BitVec.ofInt 64 7).toNat, ?_, by omega⟩
  show IntKind.i64.wrap (((BitVec.ofInt 64 v &&& BitVec.ofInt 64 7).toNat : Nat) : Int) = _
  exact IntWalk.i64_in _ (by omega)
theorem u64_nat (v : Int) : ∃ N : Nat, IntKind.u64.wrap v = (N : Int) ∧ N < 18446744073709551616 :=
  ⟨(IntKind.u64.wrap v).toNat, by rw [IntKind.wrap_u64]; omega, by rw [IntKind.wrap_u64]; omega⟩
section
variable (NF UF : Nat → Nat) (TF : Nat → ByteArray) (z L : Nat)
/-- What is put for one number, and all that is put for the first ones, and for so many from one on. -/
def part (i : Nat) : List UInt8 := varL (NF i) ++ (fixL (UF i) z ++ (if i < L then varL (TF i).size ++ (TF i).data.toList else []))
def encL : Nat → List UInt8 | 0 => [] | k + 1 => encL k ++ part NF UF TF z L k
def encT : Nat → Nat → List UInt8 | _, 0 => [] | k, m + 1 => part NF UF TF z L k ++ encT (k + 1) m
theorem encL_add (k m : Nat) : encL NF UF TF z L (k + m) = encL NF UF TF z L k ++ encT NF UF TF z L k m := by
  induction m generalizing k with
  | zero => simp [encT]
  | succ m ih =>
    rw [show k + (m + 1) = (k + 1) + m by omega, ih (k + 1)]
    simp [encL, encT]
end
theorem part_text (NF UF : Nat → Nat) (TF : Nat → ByteArray) (z L k : Nat) (h : k < L) : bs (encL NF UF TF z L k) ++ bs (varL (NF k)) ++ bs (fixL (UF k) z) ++ textS (TF k) = bs (encL NF UF TF z L (k + 1)) := by
  have e : textS (TF k) = bs (varL (TF k).size ++ (TF k).data.toList) := by rw [← bs_append, bs_of]; rfl
  rw [e, bs_append, bs_append, bs_append, show encL NF UF TF z L (k + 1) = encL NF UF TF z L k ++ part NF UF TF z L k from rfl, part, if_pos h]
  simp
theorem part_none (NF UF : Nat → Nat) (TF : Nat → ByteArray) (z L k : Nat) (h : ¬ k < L) : bs (encL NF UF TF z L k) ++ bs (varL (NF k)) ++ bs (fixL (UF k) z) = bs (encL NF UF TF z L (k + 1)) := by
  rw [bs_append, bs_append, show encL NF UF TF z L (k + 1) = encL NF UF TF z L k ++ part NF UF TF z L k from rfl, part, if_neg h]
  simp
theorem encL_len (NF UF : Nat → Nat) (TF : Nat → ByteArray) (z L k : Nat) (h : (encL NF UF TF z L k).length ≤ k * 130) (hv : (varL (NF k)).length ≤ 9) (hz : z ≤ 8) (ht : k < L → (TF k).size ≤ 100) : (encL NF UF TF z L (k + 1)).length ≤ (k + 1) * 130 := by
  rw [show encL NF UF TF z L (k + 1) = encL NF UF TF z L k ++ part NF UF TF z L k from rfl, part]
  simp only [List.length_append, fixL_length]
  split
  · rename_i hk
    have h3 := ht hk
    have h4 := varL_len (TF k).size 9 (by have : 128 ^ 9 = 9223372036854775808 := by decide
                                          omega) (by omega)
    rw [List.length_append, data_len]
    omega
  · simp; omega
theorem rest_at (l r : List UInt8) : rest (bs (l ++ r)) l.length = r := by
  unfold rest; rw [bs_list]; simp
theorem takes_var (b B : Nat) (l r : List UInt8) (N : Nat) (S : ByteArray) (w : World) (hN : N < 9223372036854775808) (hS : S = bs (l ++ (varL N ++ r))) (hs : S.size ≤ 9223372036854775000) (hB : B ≤ b) (hc : Cur w b S l.length) :
    Calls Try.prog 16 #[.pointer (some ⟨b, 0, none⟩)] w fun e w' => e = .returned (.tuple #[.int .i64 N, .int .i64 0]) ∧ Cur w' b S (l ++ varL N).length ∧ Below B w w' := by
  have h := var_cur b S l.length B w hs hB hc
  have hr : rest S l.length = varL N ++ r := by rw [hS, rest_at]
  rw [hr, tvV_varL _ _ hN, tvE_varL _ _ hN, tvM_varL _ _ hN, ← List.length_append] at h
  exact h
theorem takes_fixed (b B : Nat) (l r : List UInt8) (U z : Nat) (S : ByteArray) (w : World) (h1 : 1 ≤ z) (h8 : z ≤ 8) (hS : S = bs (l ++ (fixL U z ++ r))) (hs : S.size ≤ 9223372036854775000) (hB : B ≤ b) (hc : Cur w b S l.length) :
    Calls Try.prog 14 #[.pointer (some ⟨b, 0, none⟩), .int .i64 z] w fun e w' => e = .returned (.tuple #[.int .u64 ((U % 256 ^ z : Nat) : Int), .int .i64 0]) ∧ Cur w' b S (l ++ fixL U z).length ∧ Below B w w' := by
  have h := fixed_cur b S l.length B z w hs hB hc
  have hr : rest S l.length = fixL U z ++ r := by rw [hS, rest_at]
  have e1 : tfE (fixL U z ++ r) z = 0 := by
    unfold tfE
    rw [if_neg (by omega), if_neg (by rw [List.length_append, fixL_length]; omega)]
  have e2 : tfV (fixL U z ++ r) z = U % 256 ^ z := by
    unfold tfV
    have ht : (fixL U z ++ r).take z = fixL U z := by
      have := List.take_left (l₁ := fixL U z) (l₂ := r)
      rw [fixL_length] at this; exact this
    rw [if_pos e1, Int.toNat_natCast, ht, bigV_fixL, Nat.zero_mul, Nat.zero_add]
  have e3 : tfM (fixL U z ++ r) z = (fixL U z).length := by
    unfold tfM
    rw [if_pos e1, Int.toNat_natCast, fixL_length]
  rw [hr, e1, e2, e3, ← List.length_append] at h
  exact h
theorem takes_text (b B : Nat) (l r : List UInt8) (t : ByteArray) (S : ByteArray) (w : World) (ht : t.size ≤ 100) (hS : S = bs (l ++ ((varL t.size ++ t.data.toList) ++ r))) (hs : S.size ≤ 9223372036854775000) (hB : B ≤ b) (hc : Cur w b S l.length) :
    Calls Try.prog 18 #[.pointer (some ⟨b, 0, none⟩), .int .i64 100] w fun e w' => e = .returned (.tuple #[.string t, .int .i64 0]) ∧ Cur w' b S (l ++ (varL t.size ++ t.data.toList)).length ∧ Below B w w' := by
  have h := text_cur b S l.length B 100 w hs hB hc
  have hr : rest S l.length = varL t.data.toList.length ++ (t.data.toList ++ r) := by rw [hS, rest_at, data_len, List.append_assoc]
  obtain ⟨h1, h2, h3⟩ := tt_text t.data.toList r 100 (by rw [data_len]; omega) (by rw [data_len]; omega)
  rw [hr, h1, h2, h3, bs_of, data_len] at h
  have e : (l ++ (varL t.size ++ t.data.toList)).length = l.length + ((varL t.size).length + t.size) := by rw [List.length_append, List.length_append, data_len]
  rw [e]
  exact h

set_option maxRecDepth 100000 in
set_option maxHeartbeats 4000000 in
theorem walk (a0 : Option Addr) (len0 cap0 : Nat) (a1 : Option Addr) (len1 cap1 : Nat) (a2 : Int) (w : World) (w0 : Has w (.slice (.int .i64)) [.slice a0 len0 cap0]) (w1 : Has w (.slice .str) [.slice a1 len1 cap1]) (w2 : (Lit.int .i64 a2).wf = true) :
    Calls Try.prog 5 #[.slice a0 len0 cap0, .slice a1 len1 cap1, .int .i64 a2] w fun e w' => e = .returned (.bool true) ∧ Below w.heap.size w w' := by
  obtain ⟨hlc0, hcm0, hcase0⟩ := has_ints w0
  obtain ⟨hlc1, hcm1, hcase1⟩ := has_strs w1
  unfold maxLen at hcm0 hcm1
  clear w0 w1 w2
  by_cases hg1 : 20 < len0
  · go_enter Try.func5, Try.ntmps5
    go_wp2_with (go_at_call 6; refine (awake_any _).mono ?_; rintro e w' ⟨rfl, hb⟩)
    go_ret
    exact ⟨rfl, by assumption⟩
  by_cases hg2 : 20 < len1
  · go_enter Try.func5, Try.ntmps5
    go_wp2_with (go_at_call 6; refine (awake_any _).mono ?_; rintro e w' ⟨rfl, hb⟩)
    go_ret
    exact ⟨rfl, by assumption⟩
  obtain ⟨z0, hz0, hz1⟩ := and_seven a2
  have d1 : decide ((20 : Int) < len0) = false := decide_eq_false (by omega)
  have d2 : decide ((20 : Int) < len1) = false := decide_eq_false (by omega)
  -- the arguments' cells
  obtain ⟨b0, off0, ZF, hA0, hE0⟩ : ∃ b off, ∃ Z : Nat → Int, (0 < len0 → a0 = some ⟨b, off, none⟩) ∧ ∀ i, i < len0 → b < w.heap.size ∧ (Lit.int .i64 (Z i)).wf = true ∧ w.cell? ⟨b, off + i, none⟩ = some (.int .i64 (Z i)) := by
    rcases hcase0 with h0 | ⟨b, off, Z, h0, hA, hb, hE⟩
    · exact ⟨0, 0, fun _ => 0, fun h => absurd h (by omega), fun i hi => absurd hi (by omega)⟩
    · exact ⟨b, off, Z, fun _ => hA, fun i hi => ⟨hb, (hE i hi).1, (hE i hi).2⟩⟩
  obtain ⟨b1, off1, TF, hA1, hE1⟩ : ∃ b off, ∃ Z : Nat → ByteArray, (0 < len1 → a1 = some ⟨b, off, none⟩) ∧ ∀ i, i < len1 → b < w.heap.size ∧ (Z i).size ≤ maxLen ∧ w.cell? ⟨b, off + i, none⟩ = some (.string (Z i)) := by
    rcases hcase1 with h0 | ⟨b, off, Z, h0, hA, hb, hE⟩
    · exact ⟨0, 0, fun _ => ByteArray.empty, fun h => absurd h (by omega), fun i hi => absurd hi (by omega)⟩
    · exact ⟨b, off, Z, fun _ => hA, fun i hi => ⟨hb, (hE i hi).1, (hE i hi).2⟩⟩
  obtain ⟨NF, hNF⟩ : ∃ NF : Nat → Nat, ∀ i, bits .and .i64 (ZF i) 9223372036854775807 = (NF i : Int) ∧ NF i < 9223372036854775808 :=
    ⟨fun i => (and_max (ZF i)).choose, fun i => (and_max (ZF i)).choose_spec⟩
  obtain ⟨UF, hUF⟩ : ∃ UF : Nat → Nat, ∀ i, IntKind.u64.wrap (ZF i) = (UF i : Int) ∧ UF i < 18446744073709551616 :=
    ⟨fun i => (u64_nat (ZF i)).choose, fun i => (u64_nat (ZF i)).choose_spec⟩
  have HA0 := Lib.hid hA0
  have HE0 := Lib.hid hE0
  have HA1 := Lib.hid hA1
  have HE1 := Lib.hid hE1
  have HNF := Lib.hid hNF
  have HUF := Lib.hid hUF
  clear hA0 hE0 hA1 hE1 hNF hUF hcase0 hcase1
  go_enter Try.func5, Try.ntmps5
  go_wp2_with fail
  go_loopg [8, 9] len0 (fun g s i wr => ∃ k : Nat, k ≤ len0 ∧ g = len0 - k ∧ i = .int .i64 k ∧ s = .string (bs (encL NF UF TF (z0 + 1) len1 k)) ∧ (encL NF UF TF (z0 + 1) len1 k).length ≤ k * 130 ∧ (∀ i, i < k → i < len1 → (TF i).size ≤ 100) ∧ Below w.heap.size w wr)
  case atStart => exact ⟨0, by omega, rfl, rfl, rfl, by simp [encL], fun i hi => absurd hi (by omega), Below.refl _ _⟩
  case round =>
    obtain ⟨k, hk, rfl, rfl, rfl, hlen, hT, hb⟩ := hrel
    have HTT := Lib.hid hT
    clear hT
    by_cases hlt : k < len0
    · obtain ⟨hbl, f0, c0⟩ := HE0.out k hlt
      obtain rfl : a0 = some ⟨b0, off0, none⟩ := HA0.out (by omega)
      have hn := HNF.out k
      have hu := HUF.out k
      have hv := fun w => var_in (NF k) w hn.2
      have hf := fun w => fixed_in (UF k) (z0 + 1) w hu.2 (by omega) (by omega)
      rw [← hn.1] at hv
      rw [← hu.1, show ((z0 + 1 : Nat) : Int) = 1 + (z0 : Int) by omega] at hf
      have hY := varL_nine (NF k) hn.2
      have hZ : (bs (fixL (UF k) (z0 + 1))).size ≤ 8 := by rw [bs_size, fixL_length]; omega
      have hX : (bs (encL NF UF TF (z0 + 1) len1 k)).size ≤ 2600 := by rw [bs_size]; omega
      have HENC := Lib.hid (show encL NF UF TF (z0 + 1) len1 (k + 1) = encL NF UF TF (z0 + 1) len1 k ++ part NF UF TF (z0 + 1) len1 k from rfl)
      have HPL := Lib.hid (show (varL (NF k)).length ≤ 9 from by rw [← bs_size]; exact hY)
      have c := c0
      rw [← (bcell hb).1 b0 _ hbl] at c
      clear hn hu f0
      generalize ZF k = v at *
      have HV := fun w => Lib.hid (hv w)
      have HF := fun w => Lib.hid (hf w)
      clear hv hf
      have CK := Lib.hid (fun (w1 : World) (hb1 : ∀ i, i < wr.heap.size → w1.heap[i]? = wr.heap[i]?) => (World.cell?_of_block (w := wr) (w' := w1) (a := ⟨b0, off0 + k, none⟩) (hb1 b0 (Nat.lt_of_lt_of_le hbl hb.size))).trans c)
      have i1 : (0 : Int) ≤ (k : Int) := by omega
      have i2 : (k : Int) < (len0 : Int) := by omega
      go_upto_region 8 with (fail)
      go_cut [8] (fun s wx => s = .string (bs (encL NF UF TF (z0 + 1) len1 k) ++ bs (varL (NF k)) ++ bs (fixL (UF k) (z0 + 1))) ∧ Below wr.heap.size wr wx)
      case first =>
        go_region_with (first | (go_at_call 9; (with_reducible refine (HV _).out.mono ?_); rintro e w1 ⟨rfl, hb1⟩; have ck := CK.out w1 hb1.block) | (go_at_call 7; (with_reducible refine (HF _).out.mono ?_); rintro e w2 ⟨rfl, hb2⟩))
        all_goals go_wp2_with fail
        all_goals go_meet
        all_goals exact ⟨rfl, ((Below.refl _ _).drew.trans hb1).trans (hb2.mono hb1.size)⟩
      case rest =>
        obtain ⟨rfl, hb3⟩ := hcut
        have hb4 := hb.trans (hb3.mono hb.size)
        clear i1 i2 CK HV HF c c0 hb hb3
        have E9 := Lib.hid (encL_len NF UF TF (z0 + 1) len1 k hlen HPL.out (by omega))
        have hXYZ : (bs (encL NF UF TF (z0 + 1) len1 k) ++ bs (varL (NF k)) ++ bs (fixL (UF k) (z0 + 1))).size ≤ 2620 := by rw [ByteArray.size_append, ByteArray.size_append]; omega
        by_cases hl1 : k < len1
        · obtain ⟨hbt, ft, ct0⟩ := HE1.out k hl1
          obtain rfl : a1 = some ⟨b1, off1, none⟩ := HA1.out (by omega)
          have PT := Lib.hid (part_text NF UF TF (z0 + 1) len1 k hl1)
          have ct := ct0
          rw [← (bcell hb4).1 b1 _ hbt] at ct
          unfold maxLen at ft
          by_cases ht : 100 < (TF k).size
          · generalize TF k = tx at *
            clear E9 PT
            go_wp2_with (go_at_call 6; refine (awake_any _).mono ?_; rintro e w' ⟨rfl, hb5⟩)
            go_ret
            exact ⟨rfl, hb4.trans (hb5.mono hb4.size)⟩
          · have E8 := Lib.hid (E9.out (fun _ => by omega))
            have htx := fun w => Lib.hid (text_any (TF k) w (by omega))
            have hts : (textS (TF k)).size ≤ 109 := by unfold textS; rw [ByteArray.size_append]; have := varL_nine (TF k).size (by omega); omega
            have HT2 := Lib.hid (show ∀ i, i < k + 1 → i < len1 → (TF i).size ≤ 100 from fun i hi hj => by
              rcases Nat.lt_or_ge i k with h | h
              · exact HTT.out i h hj
              · obtain rfl : i = k := by omega
                omega)
            clear E9
            generalize hYY : bs (encL NF UF TF (z0 + 1) len1 k) ++ bs (varL (NF k)) ++ bs (fixL (UF k) (z0 + 1)) = XYZ at *
            generalize hTS : textS (TF k) = TS at *
            generalize hTK : TF k = tx at *
            have HYY := Lib.hid hYY
            clear hYY hTS hTK
            go_wp2_with (go_at_call 11; (with_reducible refine (htx _).out.mono ?_); rintro e w3 ⟨rfl, hb5⟩)
            go_roundg (len0 - (k + 1))
            case measure => omega
            case rel => exact ⟨k + 1, by omega, rfl, by go_num, by rw [PT.out], E8.out, HT2.out, hb4.trans (hb5.mono hb4.size)⟩
        · have PT := Lib.hid (part_none NF UF TF (z0 + 1) len1 k hl1)
          have E8 := Lib.hid (E9.out (fun h => absurd h hl1))
          have HT2 := Lib.hid (show ∀ i, i < k + 1 → i < len1 → (TF i).size ≤ 100 from fun i hi hj => by
              rcases Nat.lt_or_ge i k with h | h
              · exact HTT.out i h hj
              · exact absurd hj (by omega))
          clear E9
          generalize hYY : bs (encL NF UF TF (z0 + 1) len1 k) ++ bs (varL (NF k)) ++ bs (fixL (UF k) (z0 + 1)) = XYZ at *
          have HYY := Lib.hid hYY
          clear hYY
          go_wp2_with fail
          go_roundg (len0 - (k + 1))
          case measure => omega
          case rel => exact ⟨k + 1, by omega, rfl, by go_num, by rw [PT.out], E8.out, HT2.out, hb4⟩
    · obtain rfl : k = len0 := by omega
      have HS := Lib.hid (show ∀ j, j < k → encL NF UF TF (z0 + 1) len1 k = encL NF UF TF (z0 + 1) len1 j ++ (part NF UF TF (z0 + 1) len1 j ++ encT NF UF TF (z0 + 1) len1 (j + 1) (k - j - 1)) from fun j hj => by
        have := encL_add NF UF TF (z0 + 1) len1 j (k - j)
        rw [show j + (k - j) = k by omega] at this
        rw [this, show k - j = (k - j - 1) + 1 by omega]; rfl)
      have hSs : (bs (encL NF UF TF (z0 + 1) len1 k)).size ≤ 2600 := by rw [bs_size]; omega
      go_wp2_with fail
      refine (new_any _ _).mono ?_; rintro e w1 ⟨rfl, hc, hb1⟩
      have hbc := hb.size
      have hb2 := hb.trans (hb1.mono hb.size)
      have HC := Lib.hid hc
      generalize wr.heap.size = bc at *
      clear hc hb hb1 hlen
      go_wp2_with fail
      go_loopg [11] k (fun g i wx => ∃ j : Nat, j ≤ k ∧ g = k - j ∧ i = .int .i64 j ∧ Cur wx bc (bs (encL NF UF TF (z0 + 1) len1 k)) (encL NF UF TF (z0 + 1) len1 j).length ∧ Below w.heap.size w wx)
      case atStart => exact ⟨0, by omega, rfl, rfl, HC.out, hb2⟩
      case round =>
        obtain ⟨j, hj, rfl, rfl, hc, hb⟩ := hrel
        by_cases hjk : j < k
        · have hsj := HS.out j hjk
          obtain ⟨hbl, f0, c0⟩ := HE0.out j hjk
          obtain rfl : a0 = some ⟨b0, off0, none⟩ := HA0.out (by omega)
          have hn := HNF.out j
          have hu := HUF.out j
          have hn2 : ((NF j : Int) != bits .and .i64 (ZF j) 9223372036854775807) = false := by rw [hn.1]; simp
          have hu2 : ((UF j : Int) != IntKind.u64.wrap (ZF j)) = false := by rw [hu.1]; simp
          have hNext : encL NF UF TF (z0 + 1) len1 (j + 1) = encL NF UF TF (z0 + 1) len1 j ++ (varL (NF j) ++ (fixL (UF j) (z0 + 1) ++ (if j < len1 then varL (TF j).size ++ (TF j).data.toList else []))) := rfl
          rw [part] at hsj
          have hNN := hn.2
          have hUU := hu.2
          have c := c0
          rw [← (bcell hb).1 b0 _ hbl] at c
          have hb0 : b0 < w.heap.size := hbl
          have HNext := Lib.hid hNext
          clear hn hu f0 hNext c0
          generalize ZF j = v at *
          generalize NF j = N at *
          generalize UF j = U at *
          generalize encT NF UF TF (z0 + 1) len1 (j + 1) (k - j - 1) = tail at *
          have hS : bs (encL NF UF TF (z0 + 1) len1 k) = bs (encL NF UF TF (z0 + 1) len1 j ++ (varL N ++ (fixL U (z0 + 1) ++ ((if j < len1 then varL (TF j).size ++ (TF j).data.toList else []) ++ tail)))) := by
            rw [hsj]; simp only [List.append_assoc]
          clear hsj
          generalize bs (encL NF UF TF (z0 + 1) len1 k) = S at *
          generalize encL NF UF TF (z0 + 1) len1 j = l at *
          have hS2 : S = bs ((l ++ varL N) ++ (fixL U (z0 + 1) ++ ((if j < len1 then varL (TF j).size ++ (TF j).data.toList else []) ++ tail))) := by rw [hS]; simp only [List.append_assoc]
          have hS3 : S = bs (((l ++ varL N) ++ fixL U (z0 + 1)) ++ ((if j < len1 then varL (TF j).size ++ (TF j).data.toList else []) ++ tail)) := by rw [hS]; simp only [List.append_assoc]
          have HV := Lib.hid (takes_var bc w.heap.size l _ N S wr hNN hS (by omega) hbc hc)
          have HF := Lib.hid (fun wy (h : Cur wy bc S (l ++ varL N).length) => by
            have := takes_fixed bc w.heap.size (l ++ varL N) _ U (z0 + 1) S wy (by omega) (by omega) hS2 (by omega) hbc h
            rw [show ((z0 + 1 : Nat) : Int) = 1 + (z0 : Int) by omega] at this
            exact this)
          have HS3 := Lib.hid hS3
          clear hS hS2 hS3 hc
          go_wp2_with fail
          refine HV.out.mono ?_; rintro e w2 ⟨rfl, hc2, hb3⟩
          have HC2 := Lib.hid hc2
          clear hc2
          go_wp2_with fail
          refine (HF.out _ HC2.out).mono ?_; rintro e w3 ⟨rfl, hc3, hb4⟩
          have HC3 := Lib.hid hc3
          have hb5 := (hb.trans hb3).trans hb4
          rw [← (bcell hb3).1 b0 _ hb0, ← (bcell hb4).1 b0 _ hb0] at c
          clear hc3 hb hb3 hb4
          have hz8 : (((1 + (z0 : Int)) == 8) = true ∧ (((U % 256 ^ (z0 + 1) : Nat) : Int) != IntKind.u64.wrap v) = false) ∨ ((1 + (z0 : Int)) == 8) = false := by
            by_cases h7 : z0 = 7
            · left
              have hmod : U % 256 ^ (z0 + 1) = U := by
                subst h7
                exact Nat.mod_eq_of_lt (by have : 256 ^ (7 + 1) = 18446744073709551616 := by decide
                                           omega)
              rw [hmod]
              exact ⟨by simp; omega, hu2⟩
            · right; simp; omega
          generalize U % 256 ^ (z0 + 1) = vb at *
          clear hUU hNN hu2
          by_cases hl1 : j < len1
          · obtain ⟨hbt, ft, ct0⟩ := HE1.out j hl1
            obtain rfl : a1 = some ⟨b1, off1, none⟩ := HA1.out (by omega)
            have ct := ct0
            rw [← (bcell hb5).1 b1 _ hbt] at ct
            have ht := HTT.out j hjk hl1
            have hs3 := HS3.out
            have hnx := HNext.out
            rw [if_pos hl1] at hs3 hnx
            have HT := Lib.hid (takes_text bc w.heap.size ((l ++ varL N) ++ fixL U (z0 + 1)) tail (TF j) S w3 ht hs3 (by omega) hbc HC3.out)
            have HNX := Lib.hid (show (((l ++ varL N) ++ fixL U (z0 + 1)) ++ (varL (TF j).size ++ (TF j).data.toList)).length = (encL NF UF TF (z0 + 1) len1 (j + 1)).length from by rw [hnx]; simp only [List.append_assoc])
            generalize TF j = tx at *
            have e1 := beq_self_eq_true tx.toList
            have e2 : (!(tx.toList == tx.toList)) = false := by rw [e1]; rfl
            clear hs3 hnx HS3 HNext ft ct0
            rcases hz8 with ⟨g1, g2⟩ | g1
            all_goals go_wp2_with fail
            all_goals
              refine HT.out.mono ?_; rintro e w4 ⟨rfl, hc4, b6⟩
              have hb7 := hb5.trans b6
              have ct4 := ct
              rw [← (bcell b6).1 b1 _ hbt] at ct4
              rw [HNX.out] at hc4
              have HC4 := Lib.hid hc4
              clear hc4
              go_wp2_with fail
              go_roundg (k - (j + 1))
              case measure => omega
              case rel => exact ⟨j + 1, by omega, rfl, by go_num, HC4.out, hb7⟩
          · have hnx := HNext.out
            rw [if_neg hl1, List.append_nil] at hnx
            have HNX := Lib.hid (show ((l ++ varL N) ++ fixL U (z0 + 1)).length = (encL NF UF TF (z0 + 1) len1 (j + 1)).length from by rw [hnx]; simp only [List.append_assoc])
            have hc4 := HC3.out
            rw [HNX.out] at hc4
            have HC4 := Lib.hid hc4
            clear hnx HS3 HNext hc4
            rcases hz8 with ⟨g1, g2⟩ | g1
            all_goals
              go_wp2_with fail
              go_roundg (k - (j + 1))
              case measure => omega
              case rel => exact ⟨j + 1, by omega, rfl, by go_num, HC4.out, hb5⟩
        · obtain rfl : j = k := by omega
          have hl := left_cur bc (bs (encL NF UF TF (z0 + 1) len1 j)) (encL NF UF TF (z0 + 1) len1 j).length w.heap.size wr (by omega) hc
          rw [bs_size, Nat.sub_self] at hl
          have HL := Lib.hid hl
          generalize bs (encL NF UF TF (z0 + 1) len1 j) = S at *
          clear hl hc
          go_wp2_with fail
          refine HL.out.mono ?_; rintro e w2 ⟨rfl, _, b3⟩
          go_wp2_with fail
          refine (awake_any _).mono ?_; rintro e w3 ⟨rfl, b4⟩
          have hb5 := hb.trans b3
          go_wp2_with fail
          go_ret
          exact ⟨rfl, hb5.trans (b4.mono hb5.size)⟩

set_option maxRecDepth 100000 in
theorem lifted (os : Os) (started : os.Started) (H : Type) (enc : TypeId × Value → H) :
    ReturnsInHanded {} Try.checked os 5 .any (Rows.octetBackSpec.pre6 enc Try.prog Try.f5 Rows.octetBackRow.domain false) (Rows.octetBackSpec.post enc Try.prog Try.f5 false true false false) := by
  refine returnsInHanded_of_change (C := Try.checked) own started (by kernel_rfl) Try.func5
    (ChangeSpec.witness6 (enc := enc) (C := Try.checked) false ⟨#[], #[.slice none 0 0, .slice none 0 0, .int .i64 0], []⟩ 8 (by kernel_rfl) (by kernel_rfl) (by kernel_rfl) (by kernel_rfl)) ?_
  intro W base args ds gs before hval0 hW hcnd _
  have hval : ∀ (j : Nat) t v, Try.f5.params[j]? = some t → args[j]? = some v → Value.okWide Try.prog W .any base t v := hval0
  have hW' := hW
  obtain ⟨p, q, hA0, hV, rfl, hfz, hnd⟩ := hW
  have hA : DataW.TrodAll enc Try.prog W 0 (fun _ => true) true Try.f5.params.toList args.toList ds p := hA0
  rw [Try.params5] at hA hval
  obtain ⟨v0, vs0, d0, ds0, p0, q0, hargs, rfl, rfl, h0, r0⟩ := trodAll_cons hA
  obtain ⟨v1, vs1, d1, ds1, p1, q1, rfl, rfl, rfl, h1, r1⟩ := trodAll_cons r0
  obtain ⟨v2, vs2, d2, ds2, p2, q2, rfl, rfl, rfl, h2, r2⟩ := trodAll_cons r1
  obtain ⟨rfl, rfl, rfl⟩ := trodAll_nil r2
  obtain rfl : args = #[v0, v1, v2] := by cases args; simp_all
  obtain ⟨rfl, rfl⟩ := trodVars_none hV
  obtain ⟨a0, len0, cap0, rfl⟩ := okWide_slice Try.underlying50 (hval 0 50 v0 rfl rfl)
  have k0 := h0
  have lt0 : ∀ x ∈ p0, x.block < W.heap.size := by obtain ⟨m, hm⟩ := k0; exact DataW.trod_lt m _ _ _ hm
  have w0 : Has W (.slice (.int .i64)) [.slice a0 len0 cap0] := by obtain ⟨m, hm⟩ := h0; exact op50 _ _ _ _ _ _ _ _ _ hm
  obtain ⟨a1, len1, cap1, rfl⟩ := okWide_slice Try.underlying51 (hval 1 51 v1 rfl rfl)
  have k1 := h1
  have lt1 : ∀ x ∈ p1, x.block < W.heap.size := by obtain ⟨m, hm⟩ := k1; exact DataW.trod_lt m _ _ _ hm
  have w1 : Has W (.slice .str) [.slice a1 len1 cap1] := by obtain ⟨m, hm⟩ := h1; exact op51 _ _ _ _ _ _ _ _ _ hm
  obtain ⟨a2, rfl, rfl, rfl, w2⟩ := open_int Try.underlying3 (hval 2 3 v2 rfl rfl) h2
  clear hA0 hval0
  refine (walk a0 len0 cap0 a1 len1 cap1 a2 W w0 w1 w2).mono fun e W' ⟨he, bel⟩ => ?_
  subst he
  exact ⟨_, rfl, _, _, _, [], _, [], hW', trodAll_mk1 (shut_bool Try.underlying4 _), (trodAll_cons_mk (Below.trod laidOut (by kernel_rfl) (of_decide_eq_true (by kernel_rfl)) k0 bel lt0) (trodAll_cons_mk (Below.trod laidOut (by kernel_rfl) (of_decide_eq_true (by kernel_rfl)) k1 bel lt1) (trodAll_cons_mk (shut_int Try.underlying3 w2) trodAll_mk0))), rfl, bel.frame _, fun h => by cases h⟩

theorem over : Rows.octetBackRow.holds Try.pinned (OpenSpec.ofChange Rows.octetBackSpec) :=
  OpenClaim.holds_of_wide 5 Try.f5 rfl rfl rfl rfl rfl rfl rfl ⟨rfl, rfl, rfl, rfl, rfl⟩ rfl rfl rfl rfl rfl (by kernel_rfl) Try.func5 (by kernel_rfl)
    (of_decide_eq_true (by kernel_rfl)) (by unfold Func.isWrapper; first | (rw [if_pos (by decide +kernel)]; kernel_rfl) | (rw [if_neg (by decide +kernel)]; exact ⟨rfl, rfl⟩))
    (fun os started H enc _ => lifted os started H enc)

/-- ████ THE STATEMENT ████ -/
theorem proved : Rows.OctetBackSaid := over
end Go.Proofs.Ytflbogaknjdfjaa.octetBack
