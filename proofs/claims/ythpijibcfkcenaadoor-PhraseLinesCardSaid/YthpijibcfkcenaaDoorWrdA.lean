/- words' Join, Text, Find and Cut. Conditions: texts of at most 100,000 bytes, lists of at most 1,000 texts, of at most 100,000 bytes together. -/
import Derived.Test.YthpijibcfkcenaaDoorWrdRef
import Derived.Test.YthpijibcfkcenaaDoorBldK
import Derived.Lib.Bytealg
namespace Go.Proofs.YthpijibcfkcenaaDoor
open Go.ChangeShapes Go.WideShapes Go.ChangeAt Go.RowKit
set_option linter.unusedVariables false
set_option maxRecDepth 100000
set_option linter.unusedSimpArgs false

/-- The library's number of a byte's first place. -/
theorem ix_find (c : UInt8) (l : List UInt8) : (findA c l = none ∧ Lib.indexByte l c = -1) ∨ (∃ k : Nat, k < l.length ∧ findA c l = some k ∧ Lib.indexByte l c = (k : Int)) := by
  induction l with
  | nil => exact Or.inl ⟨rfl, rfl⟩
  | cons a l ih =>
    by_cases h : a = c
    · refine Or.inr ⟨0, by simp, by simp [findA, h], ?_⟩
      unfold Lib.indexByte; simp [h]
    · have hb : (a == c) = false := by simpa using h
      rcases ih with ⟨h1, h2⟩ | ⟨k, h1, h2, h3⟩
      · refine Or.inl ⟨by simp [findA, h, h1], ?_⟩
        unfold Lib.indexByte; rw [h2, hb]; rfl
      · refine Or.inr ⟨k + 1, by simp; omega, by simp [findA, h, h2], ?_⟩
        unfold Lib.indexByte; rw [h3, hb]
        have : ((k : Int) == -1) = false := beq_false_of_ne (by omega)
        rw [this]; simp
theorem joinS_lib (c : UInt8) (l : List (List UInt8)) : Lib.join l [c] = joinS c l := by
  induction l with
  | nil => rfl
  | cons a l ih =>
    cases l with
    | nil => exact Lib.join_one a [c]
    | cons b l =>
      have : joinS c (a :: b :: l) = a ++ c :: joinS c (b :: l) := rfl
      rw [this, ← ih]
      simp [Lib.join, List.intercalate]
theorem sjoin_nil (A : Option Addr) (c : Nat) (w : World) :
    Calls Tryd.prog 58 #[.slice A 0 c, .string (ByteArray.mk #[32])] w fun e w' => e = .returned (.string ⟨#[]⟩) ∧ w = w' := by
  go_enter Tryd.func58, Tryd.ntmps58
  go_wp2_with fail
  go_ret
  exact ⟨rfl, rfl⟩
set_option maxHeartbeats 1000000 in
theorem wjoin_any (v : Value) (l : List (List UInt8)) (w : World) (hn : l.length ≤ 1000) (hz : allLen l ≤ 100000) (h : Rd w w.heap.size v (strs l)) :
    Calls Tryd.prog 43 #[v] w fun e w' => e = .returned (.string (bs (joinW l))) ∧ Below w.heap.size w w' := by
  obtain ⟨A, c, rfl, hc, hc2⟩ := h.form
  rw [strs_len] at h hc ⊢
  by_cases h0 : l.length = 0
  · obtain rfl : l = [] := List.eq_nil_of_length_eq_zero h0
    have J := Lib.hid fun w => sjoin_nil A c w
    rw [show bs (joinW []) = ByteArray.mk #[] from rfl]
    clear h hc hc2 h0
    go_enter Tryd.func43, Tryd.ntmps43
    go_wp2_with fail
    refine (J.out _).mono ?_; rintro e w1 ⟨rfl, rfl⟩
    go_wp2_with fail
    go_ret
    exact ⟨rfl, Below.refl _ _⟩
  · obtain ⟨b, o, rfl, hb, hx⟩ := h.at_ (k := 0) (by rw [strs_len]; omega)
    have hj : Lib.join ((l.map bs).map (·.data.toList)) [32] = joinW l := by
      rw [joinS_lib, List.map_map]
      unfold joinW
      congr 1
      have : ((fun x : ByteArray => x.data.toList) ∘ bs) = id := by funext x; simp [bs_list]
      rw [this, List.map_id]
    have hjl : (joinW l).length ≤ 140737488355328 := by
      have := joinW_len l l.length (Nat.le_refl _)
      rw [List.take_length] at this
      omega
    have J := Tryd.strings_Join b o c (l.map bs) (ByteArray.mk #[32]) w (fun j x hj => by
      have hl : j < l.length := by
        by_cases hl : j < l.length
        · exact hl
        · rw [List.getElem?_eq_none (by rw [List.length_map]; omega)] at hj; cases hj
      rw [List.getElem?_eq_getElem (by rw [List.length_map]; exact hl)] at hj
      have := hx j (by rw [strs_len]; exact hl)
      rw [this, strs_get]
      simp at hj; rw [hj]) hb (by rw [List.length_map]; omega) (by rw [List.length_map]; exact hc)
      (by rw [show (ByteArray.mk #[32]).data.toList = [32] from rfl, hj]; exact hjl)
    rw [show (ByteArray.mk #[32]).data.toList = [32] from rfl, hj, List.length_map] at J
    have J := Lib.hid J
    have HX := Lib.hid (show Ending.returned (.string (bs (joinW l))) = Ending.returned (.string ⟨(joinW l).toArray⟩) from rfl)
    clear h hc hc2 h0 hx hj hjl
    generalize (joinW l) = JJ at *
    go_enter Tryd.func43, Tryd.ntmps43
    go_wp2_with fail
    refine J.out.mono ?_; rintro e w1 ⟨rfl, b1⟩
    have HB := Lib.hid b1
    clear b1
    go_wp2_with fail
    go_ret
    exact ⟨rfl, HB.out⟩
set_option maxHeartbeats 1000000 in
theorem wtext_any (v : Value) (l : List (List UInt8)) (w : World) (hn : l.length ≤ 1000) (hz : allLen l ≤ 100000) (h : Rd w w.heap.size v (strs l)) :
    Calls Tryd.prog 32 #[v] w fun e w' => e = .returned (.string (bs (textW l))) ∧ Below w.heap.size w w' := by
  obtain ⟨A, c, rfl, hc, hc2⟩ := h.form
  have H1 := Lib.hid fun k (hk : k < l.length) => h.at_ (k := k) (by rw [strs_len]; exact hk)
  have HZ := Lib.hid fun k (hk : k ≤ l.length) => (show (textW (l.take k)).length ≤ 102000 by have := textW_len l k hk; have := allLen_take l k; omega)
  have HE := Lib.hid fun k (hk : k < l.length) => (show (l[k]).length ≤ 100000 by have := len_le_all l k hk; omega)
  rw [strs_len]
  clear h hc hc2
  go_enter Tryd.func32, Tryd.ntmps32
  go_wp2_with fail
  go_loopw [8] (fun i wr => ∃ k : Nat, k ≤ l.length ∧ i = .int .i64 k ∧ IsB w.heap.size w.heap.size (textW (l.take k)) wr ∧ Below w.heap.size w wr) (fun i _ => l.length - (intOf i).toNat)
  case atStart => exact ⟨0, by omega, rfl, isB_fresh w, (Below.refl _ w).alloc (Nat.le_refl _) _⟩
  case round =>
    obtain ⟨k, hk, rfl, hB, hb⟩ := hrel
    have HB := Lib.hid hB
    have HW := Lib.hid hb
    have hlk := HZ.out k hk
    clear hB hb
    by_cases hlt : k < l.length
    · obtain ⟨b1, o1, rfl, hb1, hx1⟩ := H1.out k hlt
      have g1 : wr.cell? ⟨b1, o1 + k, none⟩ = some (.string (bs l[k])) := by
        rw [HW.out.cell (p := ⟨b1, o1 + k, none⟩) hb1, hx1 k (by rw [strs_len]; exact hlt), strs_get]
      have dk : decide (k < l.length) = true := decide_eq_true hlt
      have hel := HE.out k hlt
      have hS := textW_snoc (l.take k) l[k]
      rw [← List.take_succ_eq_append_getElem hlt, ← List.append_assoc] at hS
      have HS := Lib.hid hS
      have W1 := isB_string w.heap.size w.heap.size _ l[k] wr HB.out (by omega) (by omega) HW.out.size
      have W1 := Lib.hid W1
      have W2 := fun w2 (h : IsB w.heap.size w.heap.size (textW (l.take k) ++ l[k]) w2) => isB_byte w.heap.size w.heap.size _ 10 w2 h (by rw [List.length_append]; omega)
      rw [show (((10 : UInt8).toNat : Nat) : Int) = 10 from rfl] at W2
      have W2 := Lib.hid W2
      clear hx1 hS H1
      generalize l[k] = x at *
      go_wp2_with fail
      refine W1.out.mono ?_; rintro e w1 ⟨rfl, B1, b1⟩
      have HW1 := Lib.hid (HW.out.trans b1)
      have HB1 := Lib.hid B1
      clear b1 B1
      go_wp2_with fail
      refine (W2.out _ HB1.out HW1.out.size).mono ?_; rintro e w2 ⟨rfl, B2, b2⟩
      have HW2 := Lib.hid (HW1.out.trans b2)
      have HB2 := Lib.hid B2
      clear b2 B2
      go_wp2_with fail
      go_roundw
      case rel => exact ⟨k + 1, by omega, by go_num, by rw [HS.out]; exact HB2.out, HW2.out⟩
      case measure => simp [intOf]; omega
    · obtain rfl : k = l.length := by omega
      have dk : decide (l.length < l.length) = false := decide_eq_false hlt
      rw [List.take_length] at HB
      have S1 := Lib.hid (isB_text w.heap.size w.heap.size _ wr HB.out HW.out.size)
      clear hlk
      go_wp2_with fail
      refine S1.out.mono ?_; rintro e w2 ⟨rfl, b2⟩
      have HW2 := Lib.hid (HW.out.trans b2)
      clear b2
      go_wp2_with fail
      go_ret
      exact ⟨rfl, HW2.out⟩
end Go.Proofs.YthpijibcfkcenaaDoor
