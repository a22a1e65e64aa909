/- What must come of package dec, whatever the arguments are. Conditions: none. -/
import Derived.Test.YtfklchjhnocnhaaDoorDecE
namespace Go.Proofs.YtfklchjhnocnhaaDoor
open Go.ChangeShapes Go.WideShapes Go.ChangeAt Go.RowKit
set_option linter.unusedVariables false
set_option maxRecDepth 100000
set_option linter.unusedSimpArgs false

theorem decL_12 : decL 12 = [49, 50] := by rw [decL_ge (by omega), decL_lt (by omega)]; rfl
theorem aw_m12 : parE [45, 49, 50] = 0 ∧ parV [45, 49, 50] = -12 := by
  have e : textL (-12) = [45, 49, 50] := by unfold textL; rw [if_pos (by omega), show (-12 : Int).natAbs = 12 from rfl, decL_12]
  rw [← e]; exact par_text _ (by unfold inI; omega)
theorem aw_m0 : parE [45, 48] = 2 ∧ parV [45, 48] = 0 := by
  refine par_bad fun h => ?_
  have h2 := (par_ok h).1
  have h3 := valD_textL (parV [45, 48])
  rw [h2] at h3
  have h4 : valD [45, 48] = 0 := by unfold valD; rfl
  rw [h4] at h3
  rw [← h3] at h2
  have : textL 0 = [48] := by unfold textL; rw [if_neg (by omega), show (0 : Int).natAbs = 0 from rfl, decL_lt (by omega)]; rfl
  rw [this] at h2
  cases h2
theorem text_1 : textL 1 = [49] := by unfold textL; rw [if_neg (by omega), show (1 : Int).natAbs = 1 from rfl, decL_lt (by omega)]; rfl
theorem text_m2 : textL (-2) = [45, 50] := by unfold textL; rw [if_pos (by omega), show (-2 : Int).natAbs = 2 from rfl, decL_lt (by omega)]; rfl
theorem aw_list : plE [49, 44, 45, 50] 2 = 0 ∧ plV [49, 44, 45, 50] 2 = [1, -2] := by
  have e : listL [1, -2] = [49, 44, 45, 50] := by
    unfold listL
    simp [text_1, text_m2, joinS]
  have h := pl_back [1, -2] (by simp) (by intro n hn; simp at hn; unfold inI; omega)
  rw [e] at h
  exact h
theorem aw_none : plE [] 0 = 2 ∧ plV [] 0 = [] := by
  have e : plE [] 0 = 2 := by
    unfold plE; rw [if_neg]
    rintro ⟨_, h⟩
    simp [splitS] at h
  exact ⟨e, by unfold plV; rw [e]; rfl⟩
def minT : ByteArray := ⟨#[45, 57, 50, 50, 51, 51, 55, 50, 48, 51, 54, 56, 53, 52, 55, 55, 53, 56, 48, 56]⟩
theorem aw_min : bs (textL (-9223372036854775808)) = minT := by
  have e : textL (-9223372036854775808) = minT.data.toList := by
    unfold textL
    rw [if_pos (by omega), show (-9223372036854775808 : Int).natAbs = 9223372036854775808 from rfl]
    refine congrArg (45 :: ·) ?_
    repeat (rw [decL_ge (by omega)])
    rw [decL_lt (by omega)]
    rfl
  rw [e, bs_of]
set_option maxHeartbeats 1000000 in
theorem dec_awake (w : World) (ht : Tb w) : Calls Tryd.prog 6 #[] w fun e w' => e = .returned (.bool true) ∧ Below w.heap.size w w' := by
  have P1 := fun w (h : Tb w) => dparse_any (ByteArray.mk #[45, 49, 50]) w (by decide) h
  rw [show (ByteArray.mk #[45, 49, 50]).data.toList = [45, 49, 50] from rfl, aw_m12.1, aw_m12.2] at P1
  have P2 := fun w (h : Tb w) => dparse_any (ByteArray.mk #[45, 48]) w (by decide) h
  rw [show (ByteArray.mk #[45, 48]).data.toList = [45, 48] from rfl, aw_m0.1, aw_m0.2] at P2
  have L1 := fun w (h : Tb w) => dplist_any (ByteArray.mk #[49, 44, 45, 50]) 2 w (by decide) h
  rw [show (ByteArray.mk #[49, 44, 45, 50]).data.toList = [49, 44, 45, 50] from rfl] at L1
  unfold PlR at L1
  rw [aw_list.1, aw_list.2] at L1
  have L2 := fun w (h : Tb w) => dplist_any (ByteArray.mk #[]) 0 w (by decide) h
  rw [show (ByteArray.mk #[]).data.toList = [] from rfl] at L2
  unfold PlR at L2
  rw [aw_none.1, aw_none.2] at L2
  have T1 := fun w (h : Tb w) => dtext_any (-9223372036854775808) (by unfold inI; omega) w h
  rw [aw_min, show minT = ByteArray.mk #[45, 57, 50, 50, 51, 51, 55, 50, 48, 51, 54, 56, 53, 52, 55, 55, 53, 56, 48, 56] from rfl] at T1
  have X1 := fun w => dhex_any (ByteArray.mk #[97, 122]) w (by decide)
  rw [show bs (hexL (ByteArray.mk #[97, 122]).data.toList) = ByteArray.mk #[54, 49, 55, 97] from rfl] at X1
  have P1 := Lib.hid P1
  have P2 := Lib.hid P2
  have L1 := Lib.hid L1
  have L2 := Lib.hid L2
  have T1 := Lib.hid T1
  have X1 := Lib.hid X1
  have HT := Lib.hid ht
  clear ht
  go_enter Tryd.func6, Tryd.ntmps6
  go_wp2_with fail
  refine (P1.out _ HT.out).mono ?_; rintro e w2 ⟨rfl, b2⟩
  have HT2 := Lib.hid (tb_below HT.out b2)
  go_wp2_with fail
  refine (P2.out _ HT2.out).mono ?_; rintro e w3 ⟨rfl, b3⟩
  have HT3 := Lib.hid (tb_below HT2.out b3)
  go_wp2_with fail
  refine (L1.out _ HT3.out).mono ?_; rintro e w4 ⟨v1, rfl, r1, b4⟩
  have HT4 := Lib.hid (tb_below HT3.out b4)
  go_wp2_with fail
  refine (L2.out _ HT4.out).mono ?_; rintro e w5 ⟨v2, rfl, r2, b5⟩
  have HB5 := Lib.hid (((b2.trans (b3.mono b2.size)).trans (b4.mono (Nat.le_trans b2.size b3.size))).trans (b5.mono (Nat.le_trans b2.size (Nat.le_trans b3.size b4.size))))
  have hr1 := (r1.below b5).more b5.size
  have hrA := hr1.below (w' := w5.alloc (.cells #[.int .i64 1, .int .i64 (-2)] 3)) ((Below.refl _ _).alloc (Nat.le_refl _) _)
  have hrB : Rd (w5.alloc (.cells #[.int .i64 1, .int .i64 (-2)] 3)) (w5.heap.size + 1) (.slice (some ⟨w5.heap.size, 0, none⟩) 2 2) (ints [1, -2]) :=
    ⟨some ⟨w5.heap.size, 0, none⟩, 2, rfl, by simp [ints], by decide, fun _ => ⟨w5.heap.size, 0, rfl, by omega, fun j x hj => by
      rw [blk_cell (blk_new w5 (.cells #[.int .i64 1, .int .i64 (-2)] 3))]
      rcases j with _ | _ | j <;> simp_all [ints]⟩⟩
  have SM := Lib.hid (isame_true v1 _ [1, -2] (w5.heap.size + 1) _ (by simp) (hrA.more (by omega)) hrB)
  have hb6 := Lib.hid (HB5.out.alloc HB5.out.size (.cells #[.int .i64 1, .int .i64 (-2)] 3))
  clear r1 r2 b2 b3 b4 b5 hr1 hrA hrB
  go_wp2_with fail
  refine SM.out.mono ?_; rintro e w6 ⟨rfl, n6, rfl⟩
  go_wp2_with fail
  refine (T1.out _ (tb_below HT.out (below_drewN0 hb6.out n6))).mono ?_; rintro e w7 ⟨rfl, b7⟩
  go_wp2_with fail
  refine (X1.out _).mono ?_; rintro e w8 ⟨rfl, b8⟩
  have HB8 := Lib.hid (((below_drewN0 hb6.out n6).trans (b7.mono hb6.out.size)).trans (b8.mono (Nat.le_trans hb6.out.size b7.size)))
  clear b7 b8
  go_wp2_with fail
  go_ret
  exact ⟨rfl, HB8.out⟩
end Go.Proofs.YtfklchjhnocnhaaDoor
