/- What the cursor's methods come to. Conditions: the text is no longer than any text. -/
import Derived.Test.YtkahdmhgfojbiaaOctH
namespace Go.Proofs.Ytkahdmhgfojbiaa
open Go.ChangeShapes Go.WideShapes Go.ChangeAt Go.RowKit
set_option linter.unusedVariables false
set_option maxRecDepth 100000
set_option linter.unusedSimpArgs false

theorem leadN_nil : tvV [] = 0 ∧ tvM [] = 0 ∧ tvE [] = 3 := by
  have e := tvE_short (l := []) (by simp)
  obtain ⟨e2, e3⟩ := tvE_ne (l := []) (by omega)
  exact ⟨e2, e3, e⟩
theorem number_nil (w : World) : Calls Try.prog 38 #[.pointer none] w fun e w' => e = .returned (.tuple #[.int .i64 0, .int .i64 0, .int .i64 3]) ∧ Below w.heap.size w w' := by
  have h := number_gen (.pointer none) [] w (by rw [groupsV, if_pos (by simp)]; exact groups_nil w)
  rw [leadN_nil.1, leadN_nil.2.1, leadN_nil.2.2] at h
  exact h
theorem number_any (b : Nat) (s : ByteArray) (k : Nat) (w : World) (hs : s.size ≤ 9223372036854775000) (hc : Cur w b s k) :
    Calls Try.prog 38 #[.pointer (some ⟨b, 0, none⟩)] w fun e w' => e = .returned (.tuple #[.int .i64 (tvV (rest s k)), .int .i64 (tvM (rest s k)), .int .i64 (tvE (rest s k))]) ∧ Below w.heap.size w w' :=
  number_gen _ _ w (groups_any b s k w hs hc)
theorem var_nil (w : World) : Calls Try.prog 31 #[.pointer none] w fun e w' => e = .returned (.tuple #[.int .i64 0, .int .i64 3]) ∧ Below w.heap.size w w' := by
  go_enter Try.func31, Try.ntmps31
  go_wp2_with (go_at_call 38; (with_reducible refine (number_nil _).mono ?_); rintro e w1 ⟨rfl, hb⟩)
  go_ret2
  exact ⟨rfl, by assumption⟩

theorem cur_below {w w1 : World} {B b : Nat} {s : ByteArray} {k : Nat} (h : Cur w b s k) (hb : Below B w w1) (hB : b < B) : Cur w1 b s k := ⟨blk_below hb h.1 hB, h.2⟩
theorem cur_set {w : World} {b : Nat} {s : ByteArray} {k j : Nat} (h : Cur w b s k) (hj : j ≤ s.size) : Cur (w.setCell ⟨b, 1, none⟩ (.int .i64 j)) b s j := ⟨blk_set h.1 1 _, hj⟩
theorem cur_cells {w : World} {b : Nat} {s : ByteArray} {k : Nat} (h : Cur w b s k) : w.cell? ⟨b, 0, none⟩ = some (.string s) ∧ w.cell? ⟨b, 1, none⟩ = some (.int .i64 k) ∧ w.frozen? ⟨b, 1, none⟩ = false :=
  ⟨blk_cell h.1 0, blk_cell h.1 1, blk_free h.1 1⟩

set_option maxRecDepth 100000 in
theorem var_cur (b : Nat) (s : ByteArray) (k B : Nat) (w : World) (hs : s.size ≤ 9223372036854775000) (hB : B ≤ b) (hc : Cur w b s k) :
    Calls Try.prog 31 #[.pointer (some ⟨b, 0, none⟩)] w fun e w' => e = .returned (.tuple #[.int .i64 (tvV (rest s k)), .int .i64 (tvE (rest s k))]) ∧ Cur w' b s (k + tvM (rest s k)) ∧ Below B w w' := by
  have hbs : b < w.heap.size := lt_of_block hc.1
  have hn := number_any b s k w hs hc
  have hM := tvM_le (rest s k)
  rw [rest_len] at hM
  have hks := hc.2
  by_cases h0 : tvE (rest s k) = 0
  · rw [h0] at hn ⊢
    have HN := Lib.hid hn
    generalize tvV (rest s k) = v at *
    generalize tvM (rest s k) = m at *
    clear hn h0
    go_enter Try.func31, Try.ntmps31
    go_wp2_with fail
    refine HN.out.mono ?_
    rintro e w1 ⟨rfl, hb⟩
    have hc1 := cur_below hc hb hbs
    obtain ⟨c0, c1, f1⟩ := cur_cells hc1
    have HC := Lib.hid (cur_set (j := k + m) hc1 (by omega))
    have HB := Lib.hid (((hb.mono (B' := B) (by omega))).setCell (p := ⟨b, 1, none⟩) hB (.int .i64 ((k + m : Nat) : Int)))
    clear hc1 hc
    go_wp2_with fail
    go_ret2
    exact ⟨rfl, by simpa using HC.out, by simpa using HB.out⟩
  · obtain ⟨e2, e3⟩ := tvE_ne h0
    rw [e2, e3] at hn
    rw [e2, e3]
    have HN := Lib.hid hn
    generalize tvE (rest s k) = te at *
    have c5 : ((te : Int) != 0) = true := by simp; omega
    have c6 : ((te : Int) == 0) = false := by simp; omega
    have HC := Lib.hid hc
    clear hn e2 e3 hc
    go_enter Try.func31, Try.ntmps31
    go_wp2_with fail
    refine HN.out.mono ?_
    rintro e w1 ⟨rfl, hb⟩
    go_wp2_with fail
    go_ret2
    exact ⟨rfl, by rw [Nat.add_zero]; exact cur_below HC.out hb hbs, hb.mono (by omega)⟩
end Go.Proofs.Ytkahdmhgfojbiaa
