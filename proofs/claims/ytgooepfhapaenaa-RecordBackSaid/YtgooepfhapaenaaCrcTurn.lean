/- A text that is turned byte by byte, and the block of bytes that it lies in. Conditions: as stated. -/
import Derived.Test.YtgooepfhapaenaaCrcAwake
import Derived.Lib.ConvBytes
import Derived.Laws.IdiomStrings
import Derived.Laws.AppendOwn
import Derived.OpenShut
namespace Go.Proofs.Ytgooepfhapaenaa
open Go.ChangeShapes Go.WideShapes Go.ChangeAt Go.RowKit
set_option linter.unusedVariables false
set_option maxRecDepth 100000
set_option linter.unusedSimpArgs false

/-- The first i of four bytes from k on are turned. -/
def turnI (l : List UInt8) (k u i : Nat) : List UInt8 := l.mapIdx fun j c => if k ≤ j ∧ j < k + i then c ^^^ UInt8.ofNat (u / 256 ^ (j - k)) else c
theorem turnI_length (l : List UInt8) (k u i : Nat) : (turnI l k u i).length = l.length := by simp [turnI]
theorem turnI_zero (l : List UInt8) (k u : Nat) : turnI l k u 0 = l := by
  apply List.ext_getElem (turnI_length ..)
  intro j h1 h2
  simp only [turnI, List.getElem_mapIdx]
  rw [if_neg (by omega)]
theorem turnI_get (l : List UInt8) (k u i : Nat) (h : k + i < (turnI l k u i).length) (h2 : k + i < l.length) : (turnI l k u i)[k + i] = l[k + i] := by
  simp only [turnI, List.getElem_mapIdx]
  rw [if_neg (by omega)]
theorem turnI_set (l : List UInt8) (k u i : Nat) (h : k + i < l.length) : (turnI l k u i).set (k + i) (l[k + i] ^^^ UInt8.ofNat (u / 256 ^ i)) = turnI l k u (i + 1) := by
  apply List.ext_getElem (by simp [turnI_length])
  intro j h1 h2
  rw [List.getElem_set]
  simp only [turnI, List.getElem_mapIdx]
  by_cases hj : k + i = j
  · subst hj
    rw [if_pos rfl, if_pos (by omega), show k + i - k = i by omega]
  · rw [if_neg hj]
    by_cases h3 : k ≤ j ∧ j < k + i
    · rw [if_pos h3, if_pos (by omega)]
    · rw [if_neg h3, if_neg (by omega)]
theorem delta_get (k u m j : Nat) (h : j < (List.replicate k (0 : UInt8) ++ ([UInt8.ofNat u, UInt8.ofNat (u / 256), UInt8.ofNat (u / 256 / 256), UInt8.ofNat (u / 256 / 256 / 256)] ++ List.replicate m 0)).length) :
    (List.replicate k (0 : UInt8) ++ ([UInt8.ofNat u, UInt8.ofNat (u / 256), UInt8.ofNat (u / 256 / 256), UInt8.ofNat (u / 256 / 256 / 256)] ++ List.replicate m 0))[j] = if k ≤ j ∧ j < k + 4 then UInt8.ofNat (u / 256 ^ (j - k)) else 0 := by
  by_cases h1 : j < k
  · rw [List.getElem_append_left (by simpa using h1), if_neg (by omega)]; simp
  · rw [List.getElem_append_right (by simp; omega)]
    by_cases h2 : j < k + 4
    · rw [if_pos (by omega), List.getElem_append_left (by simp; omega)]
      obtain ⟨i, rfl⟩ : ∃ i, j = k + i := ⟨j - k, by omega⟩
      have hi : i < 4 := by omega
      simp only [List.length_replicate, show k + i - k = i by omega]
      have h6 : u / 256 / 256 = u / 65536 := by rw [Nat.div_div_eq_div_mul]
      have h7 : u / 256 / 256 / 256 = u / 16777216 := by rw [Nat.div_div_eq_div_mul, Nat.div_div_eq_div_mul]
      rcases i with _ | _ | _ | _ | i
      · simp
      · simp
      · simp [h6]
      · simp [h7]
      · omega
    · rw [if_neg (by omega), List.getElem_append_right (by simp; omega)]; simp
theorem turnI_four (l : List UInt8) (k u : Nat) (hk : k + 4 ≤ l.length) : turnI l k u 4 = turned l k u := by
  apply List.ext_getElem (by simp [turnI_length, turned]; omega)
  intro j h1 h2
  simp only [turned] at h2 ⊢
  rw [List.getElem_zipWith, delta_get]
  simp only [turnI, List.getElem_mapIdx]
  split
  · rfl
  · simp
/-- A block whose first cells are bytes that may be written. -/
def BB (w : World) (b : Nat) (l : List UInt8) : Prop := ∃ C : Array Value, w.heap[b]? = some (.cells C 5 (C.size, C.size + 1)) ∧ ∀ j (h : j < l.length), C[j]? = some (.int .u8 (l[j].toNat : Nat))
theorem BB.cell {w : World} {b : Nat} {l : List UInt8} (h : BB w b l) (j : Nat) (hj : j < l.length) : w.cell? ⟨b, j, none⟩ = some (.int .u8 (l[j].toNat : Nat)) := by
  obtain ⟨C, hC, hc⟩ := h
  exact (cell_of_row w b j C _ _ hC).trans (hc j hj)
theorem BB.free {w : World} {b : Nat} {l : List UInt8} (h : BB w b l) (j : Nat) (hj : j < l.length) : w.frozen? ⟨b, j, none⟩ = false := by
  obtain ⟨C, hC, hc⟩ := h
  have hs : j < C.size := (Array.getElem?_eq_some_iff.1 (hc j hj)).1
  simp [World.frozen?, hC]
  omega
theorem BB.set {w : World} {b : Nat} {l : List UInt8} (h : BB w b l) (j : Nat) (hj : j < l.length) (v : UInt8) : BB (w.setCell ⟨b, j, none⟩ (.int .u8 (v.toNat : Nat))) b (l.set j v) := by
  obtain ⟨C, hC, hc⟩ := h
  refine ⟨C.setIfInBounds j (.int .u8 (v.toNat : Nat)), ?_, ?_⟩
  · simp [World.setCell, Array.getElem?_modify, hC]
  · intro i hi
    have hs : j < C.size := (Array.getElem?_eq_some_iff.1 (hc j hj)).1
    rw [List.length_set] at hi
    rw [Array.getElem?_setIfInBounds, List.getElem_set]
    by_cases e : j = i
    · subst e; simp [hs]
    · rw [if_neg e, if_neg e]; exact hc i hi
theorem BB.old {w w' : World} {b : Nat} {l : List UInt8} (h : BB w b l) (e : w'.heap[b]? = w.heap[b]?) : BB w' b l := by
  obtain ⟨C, hC, hc⟩ := h
  exact ⟨C, e.trans hC, hc⟩
theorem BB.lt {w : World} {b : Nat} {l : List UInt8} (h : BB w b l) : b < w.heap.size := by
  obtain ⟨C, hC, hc⟩ := h
  exact lt_of_block hC
/-- '[]byte(s)'. -/
theorem conv_bytes (w : World) (s : ByteArray) : ∃ (cap : Nat) (w' : World), (convert 9 35 (.string s)).run Try.prog w = .ok (.slice (some ⟨w.heap.size, 0, none⟩) s.size cap) w' ∧ s.size ≤ cap ∧ BB w' w.heap.size s.data.toList ∧ Below w.heap.size w w' := by
  refine ⟨_, _, Lib.run_convert_string_bytes (P := Try.prog) w 9 35 5 s Try.underlying9 Try.underlying35 Try.underlying5, ?_, ?_, ?_⟩
  · exact grownCap_ge ..
  · refine ⟨_, Lib.bytesWorld_at_new w 5 s, fun j h => ?_⟩
    have hj : j < s.size := by rw [← data_len]; exact h
    have := Lib.bytesWorld_cell w 5 s j hj
    rw [cell_of_row _ _ _ _ _ _ (Lib.bytesWorld_at_new w 5 s)] at this
    rw [this]
    simp [List.getD, hj]
  · refine ⟨rfl, rfl, rfl, by rw [Lib.bytesWorld_size]; omega, fun k hk => Lib.bytesWorld_at_old w _ s k hk⟩
theorem conv_back (w : World) (b cap : Nat) (l : List UInt8) (h : BB w b l) : (convert 35 9 (.slice (some ⟨b, 0, none⟩) l.length cap)).run Try.prog w = .ok (.string (bs l)) w :=
  run_convert_bytes_back (P := Try.prog) w 35 9 5 ⟨b, 0, none⟩ cap l Try.underlying35 Try.underlying5 Try.underlying9 (fun j hj => by
    have e : (⟨b, 0, none⟩ : Addr).add j = ⟨b, j, none⟩ := by unfold Addr.add; split <;> simp_all
    rw [e]; exact h.cell j hj)
theorem and_byte (v : Int) : ∃ N : Nat, bits .and .i64 v 255 = (N : Int) ∧ N < 256 := by
  have h : (BitVec.ofInt 64 v &&& BitVec.ofInt 64 255).toNat ≤ 255 := by
    rw [BitVec.toNat_and]
    exact Nat.and_le_right
  refine ⟨(BitVec.ofInt 64 v &&& BitVec.ofInt 64 255).toNat, ?_, by omega⟩
  show IntKind.i64.wrap (((BitVec.ofInt 64 v &&& BitVec.ofInt 64 255).toNat : Nat) : Int) = _
  exact IntWalk.i64_in _ (by omega)
theorem wf_u32 {v : Int} (h : (Lit.int .u32 v).wf = true) : ∃ u : Nat, v = (u : Int) ∧ u < 4294967296 := by
  have h := bounds_u32 h
  exact ⟨v.toNat, by omega, by omega⟩
theorem turn_bits (x : UInt8) (u j : Nat) : bits .xor .u8 (x.toNat : Int) ((u : Int) / 2 ^ (8 * j) % 256) = ((x ^^^ UInt8.ofNat (u / 256 ^ j)).toNat : Nat) := by
  have e1 : (u : Int) / 2 ^ (8 * j) % 256 = ((u / 256 ^ j % 256 : Nat) : Int) := by
    rw [show (256 : Nat) = 2 ^ 8 by rfl, ← Nat.pow_mul]
    simp
  rw [e1, u8_xor_nat _ _ x.toNat_lt (Nat.mod_lt _ (by omega)), UInt8.toNat_xor, byte_of]
end Go.Proofs.Ytgooepfhapaenaa
