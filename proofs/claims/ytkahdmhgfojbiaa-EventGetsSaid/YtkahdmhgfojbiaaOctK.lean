/- The cursor's Var and Fixed: nothing but the cursor's own block turns (OctI's and OctJ's walks, with that said). Conditions: the text is no longer than any text. -/
import Derived.Test.YtkahdmhgfojbiaaOctJ
namespace Go.Proofs.Ytkahdmhgfojbiaa
open Go.ChangeShapes Go.WideShapes Go.ChangeAt Go.RowKit
set_option linter.unusedVariables false
set_option linter.unusedSimpArgs false

set_option maxRecDepth 100000 in
theorem var_only (b : Nat) (s : ByteArray) (k : Nat) (w : World) (hs : s.size ≤ 9223372036854775000) (hc : Cur w b s k) :
    Calls Try.prog 31 #[.pointer (some ⟨b, 0, none⟩)] w fun e w' => e = .returned (.tuple #[.int .i64 (tvV (rest s k)), .int .i64 (tvE (rest s k))]) ∧ Cur w' b s (k + tvM (rest s k)) ∧ Only b w w' := by
  have hbs : b < w.heap.size := lt_of_block hc.1
  have hn := number_any b s k w hs hc
  have hM := tvM_le (rest s k)
  rw [rest_len] at hM
  have hks := hc.2
  by_cases h0 : tvE (rest s k) = 0
  · rw [h0] at hn ⊢
    have HN := Lib.hid hn
    generalize tvV (rest s k) = v at *
    generalize tvM (rest s k) = m at *
    clear hn h0
    go_enter Try.func31, Try.ntmps31
    go_wp2_with fail
    refine HN.out.mono ?_
    rintro e w1 ⟨rfl, hb⟩
    have hc1 := cur_below hc hb hbs
    obtain ⟨c0, c1, f1⟩ := cur_cells hc1
    have HC := Lib.hid (cur_set (j := k + m) hc1 (by omega))
    have HB := Lib.hid ((Only.of b hb).setCell 1 (.int .i64 ((k + m : Nat) : Int)))
    clear hc1 hc
    go_wp2_with fail
    go_ret2
    exact ⟨rfl, by simpa using HC.out, by simpa using HB.out⟩
  · obtain ⟨e2, e3⟩ := tvE_ne h0
    rw [e2, e3] at hn
    rw [e2, e3]
    have HN := Lib.hid hn
    generalize tvE (rest s k) = te at *
    have c5 : ((te : Int) != 0) = true := by simp; omega
    have c6 : ((te : Int) == 0) = false := by simp; omega
    have HC := Lib.hid hc
    clear hn e2 e3 hc
    go_enter Try.func31, Try.ntmps31
    go_wp2_with fail
    refine HN.out.mono ?_
    rintro e w1 ⟨rfl, hb⟩
    go_wp2_with fail
    go_ret2
    exact ⟨rfl, by rw [Nat.add_zero]; exact cur_below HC.out hb hbs, Only.of b hb⟩
set_option maxRecDepth 100000 in
theorem fixed_only (b : Nat) (s : ByteArray) (k size : Nat) (w : World) (hs : s.size ≤ 9223372036854775000) (hc : Cur w b s k) (h1 : 1 ≤ size) (h8 : size ≤ 8) :
    Calls Try.prog 30 #[.pointer (some ⟨b, 0, none⟩), .int .i64 size] w fun e w' => e = .returned (.tuple #[.int .u64 (tfV (rest s k) size), .int .i64 (tfE (rest s k) size)]) ∧ Cur w' b s (k + tfM (rest s k) size) ∧ Only b w w' := by
  have hbs : b < w.heap.size := lt_of_block hc.1
  have d1 : decide ((size : Int) < 1) = false := decide_eq_false (by omega)
  have d2 : decide ((8 : Int) < size) = false := decide_eq_false (by omega)
  have hks := hc.2
  have HC0 := Lib.hid hc
  go_enter Try.func30, Try.ntmps30
  go_wp2_with fail
  refine (reader_any b s k w hs hc).mono ?_
  rintro e w1 ⟨r, a, t, rfl, ht, hra, hrr, hA, hR, hb⟩
  have hfi : FI w.heap.size b a r s t k w w1 0 := ⟨cur_below hc hb hbs, hA, hR, hb.mono (by omega)⟩
  have hts : t.size = s.size - k := by rw [← data_len, ht, rest_len]
  have hts2 : t.size ≤ 9223372036854775000 := by omega
  have HT := Lib.hid ht
  have HTS := Lib.hid hts
  clear hc hA hR hb ht hts
  go_wp2_with fail
  go_loopw [7, 19] (fun n i wr => ∃ j : Nat, j ≤ size ∧ j ≤ t.size ∧ n = .int .u64 ((bigV (t.data.toList.take j) 0 : Nat) : Int) ∧ i = .int .i64 j ∧ FI w.heap.size b a r s t k w wr j) (fun _ i _ => size - (intOf i).toNat)
  case atStart => exact ⟨0, by omega, by omega, rfl, rfl, hfi⟩
  case round =>
    obtain ⟨j, hj, hjt, rfl, rfl, hC, hA, hR, hBW⟩ := hrel
    have hne := int_str_ne hA hR
    by_cases hlt : j < size
    · by_cases hjs : j < t.size
      · have hl := bigV_lt (t.data.toList.take j) 0
        have hp : 256 ^ (t.data.toList.take j).length ≤ 256 ^ 7 := Nat.pow_le_pow_right (by omega) (by simp; omega)
        have e7 : 256 ^ 7 = 72057594037927936 := by decide
        have hm : bigV (t.data.toList.take j) 0 < 72057594037927936 := by omega
        have HV := Lib.hid (bigV_snoc t j hjs)
        clear hl hp e7
        generalize bigV (t.data.toList.take j) 0 = m at *
        have hu := (t[j]).toNat_lt
        go_wp2_with fail
        refine (next_step a r j w.heap.size t wr hts2 hjs (by omega) hA hR).mono ?_
        rintro ee w2 ⟨rfl, hA2, hO, hB2⟩
        have hba : b ≠ a := by omega
        have hfi2 : FI w.heap.size b a r s t k w w2 (j + 1) := ⟨⟨(hO.out b hba).trans hC.1, hks⟩, hA2, (hO.out r hne).trans hR, hBW.trans hB2⟩
        have HF := Lib.hid hfi2
        generalize hy : (t[j]).toNat = y at *
        have hb3 := u64_or8 m y hm (by omega)
        clear hfi2 hA2 hO hB2 hC hA hR hBW
        go_wp2_with fail
        go_roundw
        case rel => exact ⟨j + 1, by omega, by omega, by rw [HV.out]; simp, by go_num, HF.out⟩
        case measure => simp [intOf]; omega
      · have hjt2 : j = t.size := by omega
        have hA' : wr.heap[a]? = some (.cells #[.int .i64 t.size] 3 (0, 0)) := by rw [← hjt2]; exact hA
        have HE := Lib.hid hjt2
        go_wp2_with fail
        refine (next_end a r t wr hts2 hA' hR).mono ?_
        rintro ee w2 ⟨rfl, rfl⟩
        have HC := Lib.hid hC
        clear hA hA' hR hC hjt2 hfi
        go_wp2_with fail
        go_ret2
        have e1 : tfE (rest s k) size = 3 := by
          unfold tfE
          rw [if_neg (by omega), if_pos (by rw [rest_len, ← HTS.out]; have := HE.out; omega)]
        have e2 : tfV (rest s k) size = 0 := by unfold tfV; rw [e1]; rfl
        have e3 : tfM (rest s k) size = 0 := by unfold tfM; rw [e1]; rfl
        exact ⟨by rw [e1, e2]; rfl, by rw [e3, Nat.add_zero]; exact HC.out, Only.of b (by assumption)⟩
    · obtain rfl : j = size := by omega
      have e1 : tfE (rest s k) j = 0 := by
        unfold tfE
        rw [if_neg (by omega), if_neg (by rw [rest_len, ← HTS.out]; omega)]
      have e2 : tfV (rest s k) j = bigV (t.data.toList.take j) 0 := by unfold tfV; rw [e1, HT.out]; simp
      have e3 : tfM (rest s k) j = j := by unfold tfM; rw [e1]; simp
      obtain ⟨c0, c1, f1⟩ := cur_cells hC
      have hq : k + j ≤ s.size := by have := HTS.out; omega
      have HC := Lib.hid (cur_set (j := k + j) hC hq)
      have HB := Lib.hid ((Only.of b hBW).setCell 1 (.int .i64 ((k + j : Nat) : Int)))
      have E1 := Lib.hid e1
      have E2 := Lib.hid e2
      have E3 := Lib.hid e3
      clear e1 e2 e3 hA hR hC hfi
      go_wp2_with fail
      go_ret2
      exact ⟨by rw [E1.out, E2.out]; rfl, by rw [E3.out]; simpa using HC.out, by simpa using HB.out⟩
end Go.Proofs.Ytkahdmhgfojbiaa
