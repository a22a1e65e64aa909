/- Parts for frames that are torn: texts that came in, where frames end. Conditions: as stated. -/
import Derived.Test.YtkipgipfplejoaaFrmSame
import Derived.Test.YtkipgipfplejoaaArgs
import Derived.Test.YtkipgipfplejoaaCrcTurn
namespace Go.Proofs.Ytkipgipfplejoaa
open Go.ChangeShapes Go.WideShapes Go.ChangeAt Go.RowKit
set_option linter.unusedVariables false
set_option maxRecDepth 100000
set_option linter.unusedSimpArgs false

theorem and_mask (v : Int) (m : Nat) (hm : m < 9223372036854775808) : ∃ N : Nat, bits .and .i64 v (m : Int) = (N : Int) ∧ N ≤ m := by
  have h : (BitVec.ofInt 64 v &&& BitVec.ofInt 64 (m : Int)).toNat ≤ m := by
    rw [BitVec.toNat_and]
    have : (BitVec.ofInt 64 (m : Int)).toNat = m := by simp [BitVec.toNat_ofInt]; omega
    exact Nat.le_trans Nat.and_le_right (by omega)
  refine ⟨(BitVec.ofInt 64 v &&& BitVec.ofInt 64 (m : Int)).toNat, ?_, h⟩
  show IntKind.i64.wrap (((BitVec.ofInt 64 v &&& BitVec.ofInt 64 (m : Int)).toNat : Nat) : Int) = _
  exact IntWalk.i64_in _ (by omega)
/-- 'x[:j]' of texts. -/
theorem slice_to (A : Option Addr) (l c j : Nat) (hj : j ≤ c) (w : World) :
    (Instr.slice 28 (.slice A l c) none (some (.int .i64 (j : Int))) none).run Try.prog w = .ok (.slice A j c) w := by
  have h := run_slice_h (P := Try.prog) w 28 A l c (by kernel_rfl) .i64 (j : Int) (by omega) (by omega)
  rw [h, Int.toNat_natCast]
  have hs : (sizeOf (Try.prog.elem 28)).run Try.prog w = .ok 1 w := by kernel_rfl
  rw [hs]
  simp only [Result.andThen, sliced]
  cases A <;> simp [addr_add_zero]
/-- Texts that came in. -/
theorem rd_came {w : World} {A : Option Addr} {len cap : Nat} (h : Has w (.slice .str) [.slice A len cap]) :
    ∃ BL : List (List UInt8), BL.length = len ∧ Rd w w.heap.size (.slice A len cap) (strs BL) ∧ ∀ b ∈ BL, b.length ≤ maxLen := by
  obtain ⟨h1, h2, h3⟩ := has_strs h
  rcases h3 with rfl | ⟨b, off, Z, h0, rfl, hb, hZ⟩
  · exact ⟨[], rfl, ⟨A, cap, rfl, Nat.zero_le _, h2, fun h => absurd h (by simp [strs])⟩, fun b hb => by cases hb⟩
  · refine ⟨(List.range len).map fun i => (Z i).data.toList, by simp, ⟨some ⟨b, off, none⟩, cap, by simp [strs], by simpa [strs] using h1, h2, fun _ => ⟨b, off, rfl, hb, ?_⟩⟩, ?_⟩
    · intro j x hj
      simp only [strs, List.map_map, List.getElem?_map] at hj
      rcases Nat.lt_or_ge j len with hl | hl
      · rw [List.getElem?_range hl] at hj
        simp [bs_of] at hj
        rw [← hj]
        exact (hZ j hl).2
      · rw [List.getElem?_eq_none (by simpa using hl)] at hj; cases hj
    · intro x hx
      obtain ⟨i, hi, rfl⟩ := List.mem_map.1 hx
      rw [data_len]
      exact (hZ i (by simpa using hi)).1
theorem strs_len (l : List (List UInt8)) : (strs l).length = l.length := by simp [strs]
theorem strs_take (l : List (List UInt8)) (k : Nat) : (strs l).take k = strs (l.take k) := by simp [strs]
theorem strs_maps (l : List (List UInt8)) : strs l = (l.map bs).map Value.string := by simp [strs]
/-- Where so many frames end. -/
def endsV (BL : List (List UInt8)) (k : Nat) : List Value := (List.range k).map fun i => .int .i64 (endN BL (i + 1) : Nat)
theorem endsV_len (BL : List (List UInt8)) (k : Nat) : (endsV BL k).length = k := by simp [endsV]
theorem endsV_succ (BL : List (List UInt8)) (k : Nat) : endsV BL (k + 1) = endsV BL k ++ [.int .i64 (endN BL (k + 1) : Nat)] := by simp [endsV, List.range_succ]
theorem endsV_get (BL : List (List UInt8)) (k i : Nat) (h : i < (endsV BL k).length) : (endsV BL k)[i] = .int .i64 (endN BL (i + 1) : Nat) := by simp [endsV]
theorem all_take (BL : List (List UInt8)) (k : Nat) (h : k < BL.length) : allL (BL.take (k + 1)) = allL (BL.take k) ++ sealL BL[k] := by
  unfold allL; rw [List.take_succ_eq_append_getElem h]; simp only [List.map_append, List.flatten_append, List.map_cons, List.map_nil, List.flatten_cons, List.flatten_nil, List.append_nil]
theorem endN_all_take (BL : List (List UInt8)) (k : Nat) : endN BL k = (allL (BL.take k)).length := rfl
theorem endN_succ (BL : List (List UInt8)) (k : Nat) (h : k < BL.length) : endN BL (k + 1) = endN BL k + (BL[k].length + 7) := by
  rw [endN_all_take, all_take BL k h, List.length_append, sealL_length]; rfl
theorem endN_le (BL : List (List UInt8)) (k : Nat) (hk : k ≤ BL.length) (h : ∀ i (hi : i < k), (BL[i]'(by omega)).length ≤ 60) : endN BL k ≤ 67 * k := by
  induction k with
  | zero => rw [endN_zero]; omega
  | succ k ih =>
    have := ih (by omega) (fun i hi => h i (by omega))
    have h2 := h k (by omega)
    rw [endN_succ BL k (by omega)]; omega
theorem endN_mono (BL : List (List UInt8)) (i j : Nat) (h : i ≤ j) (hj : j ≤ BL.length) : endN BL i ≤ endN BL j := by
  induction j with
  | zero => obtain rfl : i = 0 := by omega
            exact Nat.le_refl _
  | succ j ih =>
    rcases Nat.lt_or_ge i (j + 1) with h1 | h1
    · have := ih (by omega) (by omega)
      rw [endN_succ BL j (by omega)]; omega
    · obtain rfl : i = j + 1 := by omega
      exact Nat.le_refl _
theorem has_pair {w : World} {cs : Array Value} (h : Has w (Sh.rep (.int .i64) 2) cs.toList) : ∃ x y : Int, cs = #[.int .i64 x, .int .i64 y] := by
  obtain ⟨a, b, e1, ⟨x, rfl, hx⟩, c, d, rfl, ⟨y, rfl, hy⟩, rfl⟩ := h
  refine ⟨x, y, ?_⟩
  apply Array.toList_inj.1
  simpa using e1
/-- What holds at the head of the first loop. -/
def TornI (BL : List (List UInt8)) (w wr : World) (k : Nat) (ends : Value) : Prop :=
  k ≤ BL.length ∧ (∀ i (hi : i < k) (hl : i < BL.length), (BL[i]).length ≤ 60) ∧ wr.ownsRow (w.heap.size + 1) 3 1 ends k (endsV BL k) ∧ Below w.heap.size w wr ∧ w.heap.size + 1 ≤ wr.heap.size
end Go.Proofs.Ytkipgipfplejoaa
