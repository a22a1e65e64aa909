/- What the document's own answers for joins, finds and cuts come to. Conditions: lists of at most 1,000 texts of at most 100,000 bytes together. -/
import Derived.Test.YtlmijhladbinjaaDoorWrdRef
namespace Go.Proofs.YtlmijhladbinjaaDoor
open Go.ChangeShapes Go.WideShapes Go.ChangeAt Go.RowKit
set_option linter.unusedVariables false
set_option maxRecDepth 100000
set_option linter.unusedSimpArgs false

theorem strs_get (l : List (List UInt8)) (k : Nat) (h : k < (strs l).length) : (strs l)[k] = .string (bs (l[k]'(by rw [← strs_len]; exact h))) := by simp [strs]
def allLen (l : List (List UInt8)) : Nat := (l.map List.length).sum
theorem allLen_snoc (l : List (List UInt8)) (x : List UInt8) : allLen (l ++ [x]) = allLen l + x.length := by simp [allLen]
theorem allLen_take (l : List (List UInt8)) (k : Nat) : allLen (l.take k) ≤ allLen l := by
  conv => rhs; rw [← List.take_append_drop k l]
  unfold allLen
  rw [List.map_append, List.sum_append]
  omega
theorem joinW_len (l : List (List UInt8)) : ∀ k, k ≤ l.length → (joinW (l.take k)).length ≤ allLen (l.take k) + k := by
  intro k
  induction k with
  | zero => intro _; simp [joinW, joinS]
  | succ k ih =>
    intro hk
    have := ih (by omega)
    rw [List.take_succ_eq_append_getElem (by omega), joinW_snoc, allLen_snoc]
    split
    · omega
    · simp; omega
theorem textW_len (l : List (List UInt8)) : ∀ k, k ≤ l.length → (textW (l.take k)).length ≤ allLen (l.take k) + k := by
  intro k
  induction k with
  | zero => intro _; simp [textW]
  | succ k ih =>
    intro hk
    have := ih (by omega)
    rw [List.take_succ_eq_append_getElem (by omega), textW_snoc, allLen_snoc]
    simp; omega
theorem len_le_all (l : List (List UInt8)) (k : Nat) (h : k < l.length) : l[k].length ≤ allLen l := by
  have h1 := allLen_take l (k + 1)
  rw [List.take_succ_eq_append_getElem h, allLen_snoc] at h1
  omega
set_option maxHeartbeats 1000000 in
theorem rjoin_any (v : Value) (l : List (List UInt8)) (B : Nat) (w : World) (hn : l.length ≤ 1000) (hz : allLen l ≤ 100000) (h : Rd w B v (strs l)) :
    Calls Tryd.prog 23 #[v] w fun e w' => e = .returned (.string (bs (joinW l))) ∧ w = w' := by
  obtain ⟨A, c, rfl, hc, _⟩ := h.form
  have H := Lib.hid fun k (hk : k < l.length) => h.at_ (k := k) (by rw [strs_len]; exact hk)
  rw [strs_len]
  clear h hc
  go_enter Tryd.func23, Tryd.ntmps23
  go_wp2_with fail
  go_loop [3, 4] (fun s i => ∃ k : Nat, k ≤ l.length ∧ i = .int .i64 k ∧ s = .string (bs (joinW (l.take k)))) (fun _ i => l.length - (intOf i).toNat)
  case atStart => exact ⟨0, by omega, rfl, rfl⟩
  case round =>
    obtain ⟨k, hk, rfl, rfl⟩ := hrel
    by_cases hlt : k < l.length
    · obtain ⟨b, o, rfl, hb, hx⟩ := H.out k hlt
      have g : w.cell? ⟨b, o + k, none⟩ = some (.string (bs l[k])) := by
        have := hx k (by rw [strs_len]; exact hlt)
        rw [this, strs_get]
      have dk : decide (k < l.length) = true := decide_eq_true hlt
      have hz1 : (bs l[k]).size ≤ 100000 := by rw [bs_size]; have := len_le_all l k hlt; omega
      have hz2 : (bs (joinW (l.take k))).size ≤ 101000 := by
        have := joinW_len l k hk
        have := allLen_take l k
        rw [bs_size]; omega
      have hs := joinW_snoc (l.take k) l[k]
      rw [← List.take_succ_eq_append_getElem hlt] at hs
      by_cases hk0 : k = 0
      · subst hk0
        rw [if_pos (show l.take 0 = [] from rfl)] at hs
        have hs2 : bs (joinW (l.take 0)) ++ bs l[0] = bs (joinW (l.take (0 + 1))) := by rw [hs, bs_append]; rfl
        have g0 : w.cell? ⟨b, o, none⟩ = some (.string (bs l[0])) := g
        have HS := Lib.hid hs2
        clear hs hs2 hx g
        generalize bs (joinW (l.take 0)) = L0 at *
        generalize hL : bs (joinW (l.take (0 + 1))) = L1 at *
        have HL := Lib.hid hL
        clear hL
        generalize bs l[0] = TT at *
        go_wp2_with fail
        rw [HS.out]
        go_round
        case rel => exact ⟨0 + 1, by omega, rfl, by rw [HL.out]⟩
        case measure => simp [intOf]; omega
      · have hp : l.take k ≠ [] := by
          intro e
          have := congrArg List.length e
          rw [List.length_take, List.length_nil] at this; omega
        rw [if_neg hp] at hs
        have hs2 : bs (joinW (l.take k)) ++ ByteArray.mk #[32] ++ bs l[k] = bs (joinW (l.take (k + 1))) := by
          rw [hs, show ByteArray.mk #[32] = bs [32] from rfl, bs_append, bs_append, List.append_assoc]; rfl
        have hz3 : (bs (joinW (l.take k)) ++ ByteArray.mk #[32]).size ≤ 101001 := by rw [ByteArray.size_append]; show _ + 1 ≤ _; omega
        have d0 : decide ((0 : Int) < (k : Int)) = true := decide_eq_true (by omega)
        have d0' : decide (0 < k) = true := decide_eq_true (by omega)
        have HS := Lib.hid hs2
        clear hs hs2 hp hx
        generalize bs (joinW (l.take k)) = L0 at *
        generalize hL : bs (joinW (l.take (k + 1))) = L1 at *
        have HL := Lib.hid hL
        clear hL
        generalize bs l[k] = TT at *
        go_wp2_with fail
        rw [HS.out]
        go_round
        case rel => exact ⟨k + 1, by omega, by go_num, by rw [HL.out]⟩
        case measure => simp [intOf]; omega
    · obtain rfl : k = l.length := by omega
      have dk : decide (l.length < l.length) = false := decide_eq_false hlt
      rw [List.take_length]
      go_wp2_with fail
      go_ret
      exact ⟨rfl, rfl⟩
end Go.Proofs.YtlmijhladbinjaaDoor
