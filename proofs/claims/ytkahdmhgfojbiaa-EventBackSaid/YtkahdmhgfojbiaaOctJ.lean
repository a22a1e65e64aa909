/- What the cursor's Text and Fixed come to. Conditions: the text is no longer than any text. -/
import Derived.Test.YtkahdmhgfojbiaaOctI
namespace Go.Proofs.Ytkahdmhgfojbiaa
open Go.ChangeShapes Go.WideShapes Go.ChangeAt Go.RowKit
set_option linter.unusedVariables false
set_option maxRecDepth 100000
set_option linter.unusedSimpArgs false

theorem ext_rest (s : ByteArray) (k a b : Nat) : bs (((rest s k).take (a + b)).drop a) = s.extract (k + a) (k + a + b) := by
  rw [← bs_of (s.extract _ _), extract_list, rest]
  congr 1
  rw [List.take_drop, List.drop_drop]
  congr 2; omega

theorem below_drewN {B : Nat} {a w : World} (h : Below B a w) (n : Nat) : Below B a (w.drewN n) := ⟨h.os, h.tape, h.output, h.size, h.block⟩
/-- What a round of Fixed finds. -/
def FI (B b a r : Nat) (s t : ByteArray) (k : Nat) (w wr : World) (i : Nat) : Prop :=
  Cur wr b s k ∧ wr.heap[a]? = some (.cells #[.int .i64 i] 3 (0, 0)) ∧ wr.heap[r]? = some (.cells #[.string t] 9 (0, 0)) ∧ Below B w wr
theorem bigV_snoc (t : ByteArray) (i : Nat) (h : i < t.size) : bigV (t.data.toList.take (i + 1)) 0 = bigV (t.data.toList.take i) 0 * 256 + t[i].toNat := by
  rw [take_snoc t i h, bigV_append]; rfl
theorem u64_or8 (x y : Nat) (hx : x < 72057594037927936) (hy : y < 256) : bits .or .u64 ((x : Int) * 256) (y : Int) = ((x * 256 + y : Nat) : Int) := by
  have := bits_join .u64 64 (by decide) (fun n h0 h1 => IntWalk.u64_in _ (by omega)) 8 ((x : Int) * 256) (y : Int) (by omega) (by omega) (by omega) (by omega) (by omega) (by omega)
  rw [this]; omega
set_option maxRecDepth 100000 in
theorem fixed_in_cur (b : Nat) (s : ByteArray) (k B size : Nat) (w : World) (hs : s.size ≤ 9223372036854775000) (hB : B ≤ b) (hc : Cur w b s k) (h1 : 1 ≤ size) (h8 : size ≤ 8) :
    Calls Try.prog 30 #[.pointer (some ⟨b, 0, none⟩), .int .i64 size] w fun e w' => e = .returned (.tuple #[.int .u64 (tfV (rest s k) size), .int .i64 (tfE (rest s k) size)]) ∧ Cur w' b s (k + tfM (rest s k) size) ∧ Below B w w' := by
  have hbs : b < w.heap.size := lt_of_block hc.1
  have d1 : decide ((size : Int) < 1) = false := decide_eq_false (by omega)
  have d2 : decide ((8 : Int) < size) = false := decide_eq_false (by omega)
  have hks := hc.2
  have HC0 := Lib.hid hc
  go_enter Try.func30, Try.ntmps30
  go_wp2_with fail
  refine (reader_any b s k w hs hc).mono ?_
  rintro e w1 ⟨r, a, t, rfl, ht, hra, hrr, hA, hR, hb⟩
  have hfi : FI B b a r s t k w w1 0 := ⟨cur_below hc hb hbs, hA, hR, hb.mono (by omega)⟩
  have hts : t.size = s.size - k := by rw [← data_len, ht, rest_len]
  have hts2 : t.size ≤ 9223372036854775000 := by omega
  have HT := Lib.hid ht
  have HTS := Lib.hid hts
  clear hc hA hR hb ht hts
  go_wp2_with fail
  go_loopw [7, 19] (fun n i wr => ∃ j : Nat, j ≤ size ∧ j ≤ t.size ∧ n = .int .u64 ((bigV (t.data.toList.take j) 0 : Nat) : Int) ∧ i = .int .i64 j ∧ FI B b a r s t k w wr j) (fun _ i _ => size - (intOf i).toNat)
  case atStart => exact ⟨0, by omega, by omega, rfl, rfl, hfi⟩
  case round =>
    obtain ⟨j, hj, hjt, rfl, rfl, hC, hA, hR, hBW⟩ := hrel
    have hne := int_str_ne hA hR
    by_cases hlt : j < size
    · by_cases hjs : j < t.size
      · have hl := bigV_lt (t.data.toList.take j) 0
        have hp : 256 ^ (t.data.toList.take j).length ≤ 256 ^ 7 := Nat.pow_le_pow_right (by omega) (by simp; omega)
        have e7 : 256 ^ 7 = 72057594037927936 := by decide
        have hm : bigV (t.data.toList.take j) 0 < 72057594037927936 := by omega
        have HV := Lib.hid (bigV_snoc t j hjs)
        clear hl hp e7
        generalize bigV (t.data.toList.take j) 0 = m at *
        have hu := (t[j]).toNat_lt
        go_wp2_with fail
        refine (next_step a r j B t wr hts2 hjs (by omega) hA hR).mono ?_
        rintro ee w2 ⟨rfl, hA2, hO, hB2⟩
        have hba : b ≠ a := by omega
        have hfi2 : FI B b a r s t k w w2 (j + 1) := ⟨⟨(hO.out b hba).trans hC.1, hks⟩, hA2, (hO.out r hne).trans hR, hBW.trans hB2⟩
        have HF := Lib.hid hfi2
        generalize hy : (t[j]).toNat = y at *
        have hb3 := u64_or8 m y hm (by omega)
        clear hfi2 hA2 hO hB2 hC hA hR hBW
        go_wp2_with fail
        go_roundw
        case rel => exact ⟨j + 1, by omega, by omega, by rw [HV.out]; simp, by go_num, HF.out⟩
        case measure => simp [intOf]; omega
      · have hjt2 : j = t.size := by omega
        have hA' : wr.heap[a]? = some (.cells #[.int .i64 t.size] 3 (0, 0)) := by rw [← hjt2]; exact hA
        have HE := Lib.hid hjt2
        go_wp2_with fail
        refine (next_end a r t wr hts2 hA' hR).mono ?_
        rintro ee w2 ⟨rfl, rfl⟩
        have HC := Lib.hid hC
        clear hA hA' hR hC hjt2 hfi
        go_wp2_with fail
        go_ret2
        have e1 : tfE (rest s k) size = 3 := by
          unfold tfE
          rw [if_neg (by omega), if_pos (by rw [rest_len, ← HTS.out]; have := HE.out; omega)]
        have e2 : tfV (rest s k) size = 0 := by unfold tfV; rw [e1]; rfl
        have e3 : tfM (rest s k) size = 0 := by unfold tfM; rw [e1]; rfl
        exact ⟨by rw [e1, e2]; rfl, by rw [e3, Nat.add_zero]; exact HC.out, by assumption⟩
    · obtain rfl : j = size := by omega
      have e1 : tfE (rest s k) j = 0 := by
        unfold tfE
        rw [if_neg (by omega), if_neg (by rw [rest_len, ← HTS.out]; omega)]
      have e2 : tfV (rest s k) j = bigV (t.data.toList.take j) 0 := by unfold tfV; rw [e1, HT.out]; simp
      have e3 : tfM (rest s k) j = j := by unfold tfM; rw [e1]; simp
      obtain ⟨c0, c1, f1⟩ := cur_cells hC
      have hq : k + j ≤ s.size := by have := HTS.out; omega
      have HC := Lib.hid (cur_set (j := k + j) hC hq)
      have HB := Lib.hid (hBW.setCell (p := ⟨b, 1, none⟩) hB (.int .i64 ((k + j : Nat) : Int)))
      have E1 := Lib.hid e1
      have E2 := Lib.hid e2
      have E3 := Lib.hid e3
      clear e1 e2 e3 hA hR hC hfi
      go_wp2_with fail
      go_ret2
      exact ⟨by rw [E1.out, E2.out]; rfl, by rw [E3.out]; simpa using HC.out, by simpa using HB.out⟩
theorem fixed_cur (b : Nat) (s : ByteArray) (k B : Nat) (size : Int) (w : World) (hs : s.size ≤ 9223372036854775000) (hB : B ≤ b) (hc : Cur w b s k) :
    Calls Try.prog 30 #[.pointer (some ⟨b, 0, none⟩), .int .i64 size] w fun e w' => e = .returned (.tuple #[.int .u64 (tfV (rest s k) size), .int .i64 (tfE (rest s k) size)]) ∧ Cur w' b s (k + tfM (rest s k) size) ∧ Below B w w' := by
  by_cases h : 1 ≤ size ∧ size ≤ 8
  · obtain ⟨n, rfl⟩ : ∃ n : Nat, size = n := ⟨size.toNat, by omega⟩
    exact fixed_in_cur b s k B n w hs hB hc (by omega) (by omega)
  · have e1 : tfE (rest s k) size = 1 := by unfold tfE; rw [if_pos h]
    have e2 : tfV (rest s k) size = 0 := by unfold tfV; rw [e1]; rfl
    have e3 : tfM (rest s k) size = 0 := by unfold tfM; rw [e1]; rfl
    rw [e1, e2, e3]
    have HC := Lib.hid hc
    clear e1 e2 e3 hc
    by_cases h1 : size < 1
    · go_enter Try.func30, Try.ntmps30
      go_wp2_with fail
      go_ret2
      exact ⟨rfl, HC.out, Below.refl _ _⟩
    · have h2 : 8 < size := by omega
      clear h
      go_enter Try.func30, Try.ntmps30
      go_wp2_with fail
      go_ret2
      exact ⟨rfl, HC.out, Below.refl _ _⟩
theorem left_cur (b : Nat) (s : ByteArray) (k B : Nat) (w : World) (hs : s.size ≤ 9223372036854775000) (hc : Cur w b s k) :
    Calls Try.prog 32 #[.pointer (some ⟨b, 0, none⟩)] w fun e w' => e = .returned (.int .i64 ((s.size - k : Nat) : Int)) ∧ Cur w' b s k ∧ Below B w w' :=
  (left_any b s k w hs hc).mono fun e w' h => by
    obtain ⟨h1, n, rfl⟩ := h
    exact ⟨h1, ⟨hc.1, hc.2⟩, below_drewN (Below.refl _ _) n⟩
theorem curnew_any (s : ByteArray) (w : World) :
    Calls Try.prog 25 #[.string s] w fun e w' => e = .returned (.pointer (some ⟨w.heap.size, 0, none⟩)) ∧ Cur w' w.heap.size s 0 ∧ Below w.heap.size w w' := by
  go_enter Try.func25, Try.ntmps25
  go_wp2
  go_ret
  exact ⟨rfl, ⟨blk_new _ _, by omega⟩, (Below.refl _ _).alloc (Nat.le_refl _) _⟩
end Go.Proofs.Ytkahdmhgfojbiaa
