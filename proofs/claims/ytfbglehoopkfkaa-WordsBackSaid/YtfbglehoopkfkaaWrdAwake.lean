/- What must come of package words, whatever the arguments are; texts that came in. Conditions: none. -/
import Derived.Test.YtfbglehoopkfkaaWrd
import Derived.Test.YtfbglehoopkfkaaCame
namespace Go.Proofs.Ytfbglehoopkfkaa
open Go.ChangeShapes Go.WideShapes Go.ChangeAt Go.RowKit
set_option linter.unusedVariables false
set_option maxRecDepth 100000
set_option linter.unusedSimpArgs false

theorem sames (v1 v2 : Value) (l : List (List UInt8)) (B : Nat) (w : World) (hn : l.length ≤ 1000000) (h1 : Rd w B v1 (strs l)) (h2 : Rd w B v2 (strs l)) :
    Calls Try.prog 9 #[v1, v2] w fun e w' => e = .returned (.bool true) ∧ Below w.heap.size w w' := by
  rw [strs_maps] at h1 h2
  refine (same_true v1 v2 (l.map bs) B w (by simpa using hn) h1 h2).mono ?_
  rintro e w' ⟨rfl, n, rfl⟩
  exact ⟨rfl, ⟨rfl, rfl, rfl, Nat.le_refl _, fun _ _ => rfl⟩⟩
theorem aw_words : wordsL [32, 97, 9, 32, 98, 35, 99] = [[97], [98]] := by decide
theorem aw_lines : linesL [97, 10, 10, 98] = [[97], [], [98]] := by decide
set_option maxHeartbeats 1000000 in
theorem words_awake (w : World) : Calls Try.prog 6 #[] w fun e w' => e = .returned (.bool true) ∧ Below w.heap.size w w' := by
  have F1 := Lib.hid fun (w : World) h => wfind_any (.slice (some ⟨w.heap.size, 0, none⟩) 2 2) (ByteArray.mk #[98]) [[97], [98]] (w.alloc (.cells #[.string ⟨#[97]⟩, .string ⟨#[98]⟩] 9)) (by decide) h
  have C1 := fun w => wcut_any (ByteArray.mk #[120, 61, 121, 61, 122]) 61 w (by decide)
  rw [show bs (cutA (ByteArray.mk #[120, 61, 121, 61, 122]).data.toList 61) = ByteArray.mk #[120] from rfl, show bs (cutB (ByteArray.mk #[120, 61, 121, 61, 122]).data.toList 61) = ByteArray.mk #[121, 61, 122] from rfl, show (findA (61 : UInt8) (ByteArray.mk #[120, 61, 121, 61, 122]).data.toList).isSome = true from rfl, show (((61 : UInt8).toNat : Nat) : Int) = 61 from rfl] at C1
  have C1 := Lib.hid C1
  have W1 := fun w => wwords_any (ByteArray.mk #[32, 97, 9, 32, 98, 35, 99]) w (by decide)
  have L1 := fun w => wlines_any (ByteArray.mk #[97, 10, 10, 98]) w (by decide)
  unfold StrsR at W1 L1
  rw [show (ByteArray.mk #[32, 97, 9, 32, 98, 35, 99]).data.toList = [32, 97, 9, 32, 98, 35, 99] from rfl, aw_words] at W1
  rw [show (ByteArray.mk #[97, 10, 10, 98]).data.toList = [97, 10, 10, 98] from rfl, aw_lines] at L1
  have W1 := Lib.hid W1
  have L1 := Lib.hid L1
  go_enter Try.func6, Try.ntmps6
  go_wp2_with fail
  have hr0 := rd_lit w [[97], [98]] #[.string ⟨#[97]⟩, .string ⟨#[98]⟩] rfl (by decide)
  refine (F1.out w (by simpa using hr0)).mono ?_; rintro e w1 ⟨rfl, b1⟩
  have HB1 := Lib.hid (((Below.refl _ w).alloc (Nat.le_refl _) (.cells #[.string ⟨#[97]⟩, .string ⟨#[98]⟩] 9)).trans (b1.mono (by simp)))
  clear b1 hr0
  go_wp2_with fail
  refine (C1.out _).mono ?_; rintro e w2 ⟨rfl, b2⟩
  have HB2 := Lib.hid (HB1.out.trans (b2.mono HB1.out.size))
  clear b2
  go_wp2_with fail
  refine (W1.out _).mono ?_; rintro e w3 ⟨v3, rfl, r3, b3⟩
  have HB3 := Lib.hid (HB2.out.trans (b3.mono HB2.out.size))
  have hq3 := (r3.below (w' := w3.alloc (.cells #[.string ⟨#[97]⟩, .string ⟨#[98]⟩] 9)) ((Below.refl _ _).alloc (Nat.le_refl _) _)).more (show w3.heap.size ≤ w3.heap.size + 1 by omega)
  have S3 := Lib.hid (sames v3 _ [[97], [98]] (w3.heap.size + 1) _ (by decide) hq3 (rd_lit w3 [[97], [98]] #[.string ⟨#[97]⟩, .string ⟨#[98]⟩] rfl (by decide)))
  have HB3b := Lib.hid (HB3.out.alloc HB3.out.size (.cells #[.string ⟨#[97]⟩, .string ⟨#[98]⟩] 9))
  clear r3 b3 hq3
  go_wp2_with fail
  refine S3.out.mono ?_; rintro e w4 ⟨rfl, b4⟩
  have HB4 := Lib.hid (HB3b.out.trans (b4.mono HB3b.out.size))
  clear b4 S3
  go_wp2_with fail
  refine (L1.out _).mono ?_; rintro e w5 ⟨v5, rfl, r5, b5⟩
  have HB5 := Lib.hid (HB4.out.trans (b5.mono HB4.out.size))
  have hq5 := (r5.below (w' := w5.alloc (.cells #[.string ⟨#[97]⟩, .string ⟨#[]⟩, .string ⟨#[98]⟩] 9)) ((Below.refl _ _).alloc (Nat.le_refl _) _)).more (show w5.heap.size ≤ w5.heap.size + 1 by omega)
  have S5 := Lib.hid (sames v5 _ [[97], [], [98]] (w5.heap.size + 1) _ (by decide) hq5 (rd_lit w5 [[97], [], [98]] #[.string ⟨#[97]⟩, .string ⟨#[]⟩, .string ⟨#[98]⟩] rfl (by decide)))
  have HB5b := Lib.hid (HB5.out.alloc HB5.out.size (.cells #[.string ⟨#[97]⟩, .string ⟨#[]⟩, .string ⟨#[98]⟩] 9))
  clear r5 b5 hq5
  go_wp2_with fail
  refine S5.out.mono ?_; rintro e w6 ⟨rfl, b6⟩
  have HB6 := Lib.hid (HB5b.out.trans (b6.mono HB5b.out.size))
  clear b6 S5
  go_wp2_with fail
  have T1 := wtext_any (.slice (some ⟨w6.heap.size, 0, none⟩) 1 1) [[97]] _ (by decide) (by decide) (rd_lit w6 [[97]] #[.string ⟨#[97]⟩] rfl (by decide) |>.more (by simp))
  rw [show bs (textW [[97]]) = ByteArray.mk #[97, 10] from rfl] at T1
  refine T1.mono ?_; rintro e w7 ⟨rfl, b7⟩
  have HB7 := Lib.hid ((HB6.out.alloc HB6.out.size (.cells #[.string ⟨#[97]⟩] 9)).trans (b7.mono (by have := HB6.out.size; simp; omega)))
  clear b7 T1
  go_wp2_with fail
  go_ret
  exact ⟨rfl, HB7.out⟩
end Go.Proofs.Ytfbglehoopkfkaa
