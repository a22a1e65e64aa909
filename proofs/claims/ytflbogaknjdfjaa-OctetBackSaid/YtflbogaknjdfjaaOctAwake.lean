/- The law's own guard holds. No conditions. -/
import Derived.Test.YtflbogaknjdfjaaOctJ
namespace Go.Proofs.Ytflbogaknjdfjaa
open Go.ChangeShapes Go.WideShapes Go.ChangeAt Go.RowKit
set_option linter.unusedVariables false
set_option linter.unusedSimpArgs false

theorem varL_300 : varL 300 = [172, 2] := by rw [varL_ge (by omega), varL_lt (by omega)]; rfl
theorem varL_2 : varL 2 = [2] := varL_lt (by omega)
def awS : ByteArray := bs [172, 2, 1, 2, 2, 97, 98]
theorem aw_rest0 : rest awS 0 = varL 300 ++ [1, 2, 2, 97, 98] := by rw [varL_300]; rfl
theorem aw_rest4 : rest awS 4 = varL 2 ++ [97, 98] := by rw [varL_2]; rfl
theorem aw1 (b B : Nat) (w : World) (hB : B ≤ b) (hc : Cur w b awS 0) :
    Calls Try.prog 16 #[.pointer (some ⟨b, 0, none⟩)] w fun e w' => e = .returned (.tuple #[.int .i64 300, .int .i64 0]) ∧ Cur w' b awS 2 ∧ Below B w w' := by
  have h := var_cur b awS 0 B w (by decide) hB hc
  rw [aw_rest0, tvV_varL _ _ (by omega), tvE_varL _ _ (by omega), tvM_varL _ _ (by omega), varL_300] at h
  exact h
theorem aw2 (b B : Nat) (w : World) (hB : B ≤ b) (hc : Cur w b awS 2) :
    Calls Try.prog 14 #[.pointer (some ⟨b, 0, none⟩), .int .i64 2] w fun e w' => e = .returned (.tuple #[.int .u64 258, .int .i64 0]) ∧ Cur w' b awS 4 ∧ Below B w w' := by
  have h := fixed_cur b awS 2 B 2 w (by decide) hB hc
  rw [show tfV (rest awS 2) 2 = 258 by decide, show tfE (rest awS 2) 2 = 0 by decide, show tfM (rest awS 2) 2 = 2 by decide] at h
  exact h
theorem tt_text (l r : List UInt8) (most : Int) (hl : l.length < 9223372036854775808) (h : (l.length : Int) ≤ most) : ttT (varL l.length ++ (l ++ r)) most = bs l ∧ ttE (varL l.length ++ (l ++ r)) most = 0 ∧ ttM (varL l.length ++ (l ++ r)) most = (varL l.length).length + l.length := by
  have e : ttE (varL l.length ++ (l ++ r)) most = 0 := by
    unfold ttE
    rw [tvE_varL _ _ hl, tvV_varL _ _ hl, tvM_varL _ _ hl, if_neg (by omega), if_neg (by omega), if_neg (by simp)]
  refine ⟨?_, e, ?_⟩
  · unfold ttT
    rw [if_pos e, tvV_varL _ _ hl, tvM_varL _ _ hl, List.take_append, List.take_of_length_le (by omega), List.drop_append, List.drop_eq_nil_of_le (by omega)]
    simp
  · unfold ttM; rw [if_pos e, tvV_varL _ _ hl, tvM_varL _ _ hl]
theorem aw3 (b B : Nat) (w : World) (hB : B ≤ b) (hc : Cur w b awS 4) :
    Calls Try.prog 18 #[.pointer (some ⟨b, 0, none⟩), .int .i64 2] w fun e w' => e = .returned (.tuple #[.string (bs [97, 98]), .int .i64 0]) ∧ Cur w' b awS 7 ∧ Below B w w' := by
  have h := text_cur b awS 4 B 2 w (by decide) hB hc
  obtain ⟨h1, h2, h3⟩ := tt_text [97, 98] [] 2 (by decide) (by decide)
  rw [aw_rest4] at h
  simp only [List.append_nil, List.length_cons, List.length_nil, Nat.zero_add, Nat.reduceAdd] at h1 h2 h3
  rw [h1, h2, h3, varL_2] at h
  exact h
theorem aw4 (b B : Nat) (w : World) (hB : B ≤ b) (hc : Cur w b awS 7) :
    Calls Try.prog 16 #[.pointer (some ⟨b, 0, none⟩)] w fun e w' => e = .returned (.tuple #[.int .i64 0, .int .i64 3]) ∧ Cur w' b awS 7 ∧ Below B w w' := by
  have h := var_cur b awS 7 B w (by decide) hB hc
  rw [show rest awS 7 = [] from rfl, leadN_nil.1, leadN_nil.2.1, leadN_nil.2.2] at h
  exact h
theorem aw5 (b B : Nat) (w : World) (hc : Cur w b awS 7) :
    Calls Try.prog 20 #[.pointer (some ⟨b, 0, none⟩)] w fun e w' => e = .returned (.int .i64 0) ∧ Cur w' b awS 7 ∧ Below B w w' :=
  left_cur b awS 7 B w (by decide) hc
theorem awv (w : World) : Calls Try.prog 9 #[.int .i64 300] w fun e w' => e = .returned (.string (bs [172, 2])) ∧ Below w.heap.size w w' := by
  have h := var_any 300 w (by omega)
  rw [show varS 300 = bs [172, 2] by rw [show varS 300 = bs (varL 300) from varS_nat 300, varL_300]] at h
  exact h
theorem awf (w : World) : Calls Try.prog 7 #[.int .u64 258, .int .i64 2] w fun e w' => e = .returned (.string (bs [1, 2])) ∧ Below w.heap.size w w' := by
  have h := fixed_any 258 2 w (by omega) (by omega)
  rw [show fixS (258 : Int).toNat 2 = bs [1, 2] by decide] at h
  exact h
theorem awt (w : World) : Calls Try.prog 11 #[.string { data := #[97, 98] }] w fun e w' => e = .returned (.string (bs [2, 97, 98])) ∧ Below w.heap.size w w' := by
  have h := text_any (bs [97, 98]) w (by decide)
  rw [show textS (bs [97, 98]) = bs [2, 97, 98] by unfold textS; rw [show (bs [97, 98]).size = 2 from rfl, varL_2, bs_append]; rfl] at h
  exact h
theorem aw_sum : bs [172, 2] ++ bs [1, 2] ++ bs [2, 97, 98] = awS := by rw [bs_append, bs_append]; rfl

set_option maxRecDepth 100000 in
set_option maxHeartbeats 1000000 in
theorem awake_any (w : World) :
    Calls Try.prog 6 #[] w fun e w' => e = .returned (.bool true) ∧ Below w.heap.size w w' := by
  have s1 : (bs [172, 2]).size ≤ 2 := by decide
  have s2 : (bs [1, 2]).size ≤ 2 := by decide
  have s3 : (bs [2, 97, 98]).size ≤ 3 := by decide
  have s4 : (bs [172, 2] ++ bs [1, 2]).size ≤ 4 := by decide
  have hs := aw_sum
  go_enter Try.func6, Try.ntmps6
  go_wp2_with fail
  refine (awv _).mono ?_; rintro e w1 ⟨rfl, b1⟩
  go_wp2_with fail
  refine (awf _).mono ?_; rintro e w2 ⟨rfl, b2⟩
  go_wp2_with fail
  refine (awt _).mono ?_; rintro e w3 ⟨rfl, b3⟩
  go_wp2_with fail
  refine (new_any _ _).mono ?_; rintro e w4 ⟨rfl, hc, b4⟩
  have hB : w.heap.size ≤ w3.heap.size := by have := b1.size; have := b2.size; have := b3.size; omega
  have hb := ((b1.trans (b2.mono b1.size)).trans (b3.mono (by have := b1.size; have := b2.size; omega))).trans (b4.mono hB)
  generalize w3.heap.size = b at *
  clear b1 b2 b3 b4
  have HC := Lib.hid hc; clear hc
  go_wp2_with fail
  refine (aw1 b w.heap.size w4 hB HC.out).mono ?_; rintro e w5 ⟨rfl, hc, b5⟩
  have HC := Lib.hid hc; clear hc
  go_wp2_with fail
  refine (aw2 b w.heap.size w5 hB HC.out).mono ?_; rintro e w6 ⟨rfl, hc, b6⟩
  have HC := Lib.hid hc; clear hc
  go_wp2_with fail
  refine (aw3 b w.heap.size w6 hB HC.out).mono ?_; rintro e w7 ⟨rfl, hc, b7⟩
  have HC := Lib.hid hc; clear hc
  go_wp2_with fail
  refine (aw4 b w.heap.size w7 hB HC.out).mono ?_; rintro e w8 ⟨rfl, hc, b8⟩
  have HC := Lib.hid hc; clear hc
  go_wp2_with fail
  refine (awv w8).mono ?_; rintro e w9 ⟨rfl, b9⟩
  have hbs : b < w8.heap.size := lt_of_block HC.out.1
  have hc := cur_below HC.out b9 hbs
  have HC := Lib.hid hc; clear hc
  have g1 : ((bs [172, 2]).toList == [172, 2]) = true := by rw [bs_toList]; decide
  have g2 : ((bs [97, 98]).toList == [97, 98]) = true := by rw [bs_toList]; decide
  have hb9 := b9.mono (show w.heap.size ≤ w8.heap.size by omega)
  go_wp2_with fail
  refine (aw5 b w.heap.size w9 HC.out).mono ?_; rintro e w10 ⟨rfl, hc, b10⟩
  clear hc
  go_wp2_with fail
  go_ret
  exact ⟨rfl, (((((hb.trans b5).trans b6).trans b7).trans b8).trans hb9).trans b10⟩
end Go.Proofs.Ytflbogaknjdfjaa
