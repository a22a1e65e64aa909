/- What the table's methods come to. Conditions: texts no longer than any text. -/
import Derived.Test.YtkipgipfplejoaaOnce
import Derived.Test.YtkipgipfplejoaaCrcRef
namespace Go.Proofs.Ytkipgipfplejoaa
open Go.ChangeShapes Go.WideShapes Go.ChangeAt Go.RowKit
set_option linter.unusedVariables false
set_option maxRecDepth 100000
set_option linter.unusedSimpArgs false

/-- The entries, the first k of them laid. -/
def entC (k : Nat) : Array Value := ((List.range 256).map fun n => Value.int .u32 ((if n < k then stp n else 0 : Nat) : Int)).toArray
theorem entC_size (k : Nat) : (entC k).size = 256 := by simp [entC]
theorem entC_get (k n : Nat) (h : n < 256) : (entC k)[n]? = some (.int .u32 ((if n < k then stp n else 0 : Nat) : Int)) := by
  simp [entC, h]
theorem entC_set (k : Nat) (h : k < 256) : (entC k).setIfInBounds k (.int .u32 (stp k : Nat)) = entC (k + 1) := by
  apply Array.ext_getElem?
  intro i
  rw [Array.getElem?_setIfInBounds]
  by_cases hi : i < 256
  · rw [entC_get _ _ hi, entC_get _ _ hi, entC_size]
    by_cases hk : k = i
    · subst hk; simp [h]
    · rw [if_neg hk]
      have : (i < k) = (i < k + 1) := by simp; omega
      simp only [this]
  · have h1 : (entC k)[i]? = none := by simp [entC]; omega
    have h2 : (entC (k + 1))[i]? = none := by simp [entC]; omega
    rw [h1, h2, entC_size]
    split
    · omega
    · rfl
/-- A table's cells: done, lock, wake, made, entries. -/
def cellsC (d l : Int) (m : Int) (k : Nat) : Array Value := #[.int .u32 d, .int .i32 l, .int .u32 0, .int .i64 m] ++ entC k
theorem cellsC_size (d l m : Int) (k : Nat) : (cellsC d l m k).size = 260 := by simp [cellsC, entC_size]
theorem cellsC_0 (d l m : Int) (k : Nat) : (cellsC d l m k)[0]? = some (.int .u32 d) := by rw [cellsC, Array.getElem?_append_left (by simp)]; rfl
theorem cellsC_1 (d l m : Int) (k : Nat) : (cellsC d l m k)[1]? = some (.int .i32 l) := by rw [cellsC, Array.getElem?_append_left (by simp)]; rfl
theorem cellsC_3 (d l m : Int) (k : Nat) : (cellsC d l m k)[3]? = some (.int .i64 m) := by rw [cellsC, Array.getElem?_append_left (by simp)]; rfl
theorem cellsC_4 (d l m : Int) (k n : Nat) (h : n < 256) : (cellsC d l m k)[4 + n]? = some (.int .u32 ((if n < k then stp n else 0 : Nat) : Int)) := by
  rw [cellsC, Array.getElem?_append_right (by simp), ← entC_get k n h]
  congr 1
  simp
theorem cellsC_s0 (d l m d' : Int) (k : Nat) : (cellsC d l m k).setIfInBounds 0 (.int .u32 d') = cellsC d' l m k := by
  unfold cellsC; rw [Array.setIfInBounds_append_left (by simp)]; rfl
theorem cellsC_s1 (d l m l' : Int) (k : Nat) : (cellsC d l m k).setIfInBounds 1 (.int .i32 l') = cellsC d l' m k := by
  unfold cellsC; rw [Array.setIfInBounds_append_left (by simp)]; rfl
theorem cellsC_s3 (d l m m' : Int) (k : Nat) : (cellsC d l m k).setIfInBounds 3 (.int .i64 m') = cellsC d l m' k := by
  unfold cellsC; rw [Array.setIfInBounds_append_left (by simp)]; rfl
theorem cellsC_s4 (d l m : Int) (k : Nat) (h : k < 256) : (cellsC d l m k).setIfInBounds (4 + k) (.int .u32 (stp k : Nat)) = cellsC d l m (k + 1) := by
  unfold cellsC
  rw [Array.setIfInBounds_append_right (by simp), ← entC_set k h]
  congr 1
  simp
/-- A table lies there. -/
def TabC (w : World) (b : Nat) (d l m : Int) (k : Nat) : Prop := w.heap[b]? = some (.cells (cellsC d l m k) 68 (0, 0))
theorem TabC.only {w w' : World} {b c : Nat} {d l m : Int} {k : Nat} (h : TabC w b d l m k) (ho : Only c w w') (hne : b ≠ c) : TabC w' b d l m k := ho.old h hne
theorem TabC.c0 {w : World} {b : Nat} {d l m : Int} {k : Nat} (h : TabC w b d l m k) : w.cell? ⟨b, 0, none⟩ = some (.int .u32 d) := (blk_cell h 0).trans (cellsC_0 ..)
theorem TabC.c1 {w : World} {b : Nat} {d l m : Int} {k : Nat} (h : TabC w b d l m k) : w.cell? ⟨b, 1, none⟩ = some (.int .i32 l) := (blk_cell h 1).trans (cellsC_1 ..)
theorem TabC.c3 {w : World} {b : Nat} {d l m : Int} {k : Nat} (h : TabC w b d l m k) : w.cell? ⟨b, 3, none⟩ = some (.int .i64 m) := (blk_cell h 3).trans (cellsC_3 ..)
theorem TabC.c4 {w : World} {b : Nat} {d l m : Int} {k : Nat} (h : TabC w b d l m k) (n : Nat) (hn : n < 256) : w.cell? ⟨b, 4 + n, none⟩ = some (.int .u32 ((if n < k then stp n else 0 : Nat) : Int)) := (blk_cell h (4 + n)).trans (cellsC_4 _ _ _ _ _ hn)
theorem TabC.fr {w : World} {b : Nat} {d l m : Int} {k : Nat} (h : TabC w b d l m k) (i : Nat) : w.frozen? ⟨b, i, none⟩ = false := blk_free h i
theorem TabC.s0 {w : World} {b : Nat} {d l m : Int} {k : Nat} (h : TabC w b d l m k) (v : Int) : TabC (w.setCell ⟨b, 0, none⟩ (.int .u32 v)) b v l m k := by unfold TabC; rw [blk_set h, cellsC_s0]
theorem TabC.s1 {w : World} {b : Nat} {d l m : Int} {k : Nat} (h : TabC w b d l m k) (v : Int) : TabC (w.setCell ⟨b, 1, none⟩ (.int .i32 v)) b d v m k := by unfold TabC; rw [blk_set h, cellsC_s1]
theorem TabC.s3 {w : World} {b : Nat} {d l m : Int} {k : Nat} (h : TabC w b d l m k) (v : Int) : TabC (w.setCell ⟨b, 3, none⟩ (.int .i64 v)) b d l v k := by unfold TabC; rw [blk_set h, cellsC_s3]
theorem TabC.s4 {w : World} {b : Nat} {d l m : Int} {k : Nat} (h : TabC w b d l m k) (hk : k < 256) : TabC (w.setCell ⟨b, 4 + k, none⟩ (.int .u32 (stp k : Nat))) b d l m (k + 1) := by unfold TabC; rw [blk_set h, cellsC_s4 _ _ _ _ hk]

set_option maxRecDepth 100000 in
theorem zero_tab (w : World) : (zeroValue 68).run Try.prog w = .ok (.agg (cellsC 0 0 0 0)) w := by
  first | kernel_rfl | rfl
set_option maxRecDepth 100000 in
theorem tnew_any (w : World) :
    Calls Try.prog 20 #[] w fun e w' => e = .returned (.pointer (some ⟨w.heap.size, 0, none⟩)) ∧ w' = w.alloc (.cells (cellsC 0 0 0 0) 68) := by
  have hz := zero_tab
  have hn := cellsC_size 0 0 0 0
  generalize cellsC 0 0 0 0 = C at *
  go_enter Try.func20, Try.ntmps20
  go_wp2_with fail
  go_ret
  exact ⟨rfl, rfl⟩
set_option maxRecDepth 100000 in
set_option maxHeartbeats 2000000 in
/-- What the once does: the entries are laid, and counted once. -/
theorem fill_any (b pl : Nat) (d l : Int) (w : World) (hne : pl ≠ b) (hp : w.heap[pl]? = some (.cells #[.pointer (some ⟨b, 0, none⟩)] 44 (0, 0))) (ht : TabC w b d l 0 0) :
    Calls Try.prog 43 #[.pointer (some ⟨pl, 0, none⟩)] w fun e w' => e = .returned (.tuple #[]) ∧ TabC w' b d l 1 256 ∧ Only b w w' := by
  go_enter Try.func43, Try.ntmps43
  go_wp2_with fail
  go_loopw [2] (fun i wr => ∃ k : Nat, k ≤ 256 ∧ i = .int .i64 k ∧ TabC wr b d l 0 k ∧ Only b w wr) (fun i _ => 256 - (intOf i).toNat)
  case atStart => exact ⟨0, by omega, rfl, ht, Only.refl _ _⟩
  case round =>
    obtain ⟨k, hk, rfl, hc, ho⟩ := hrel
    have hpr := blk_cell (ho.old hp hne) 0
    rw [show (#[Value.pointer (some ⟨b, 0, none⟩)])[0]? = some (.pointer (some ⟨b, 0, none⟩)) from rfl] at hpr
    by_cases hlk : k < 256
    · have q1 : (k : Int) % 4294967296 = k := by omega
      have q2 : IntKind.u32.wrap (k : Int) = k := IntWalk.u32_in _ (by omega)
      have c4 := hc.c4 k hlk
      have f4 := hc.fr (4 + k)
      have H := fun w => Lib.hid (halved_any k w (by omega))
      have HC := Lib.hid hc
      have HP := Lib.hid hp
      clear hc ht hp
      go_wp2_with fail
      go_region_with (go_at_call 44; (with_reducible refine (H _).out.mono ?_); rintro e w1 ⟨rfl, rfl⟩)
      all_goals go_wp2_with fail
      all_goals go_round
      all_goals first
        | exact ⟨k + 1, by omega, by simp, HC.out.s4 hlk, (ho.setCell _ _).drew⟩
        | (simp [intOf]; omega)
    · obtain rfl : k = 256 := by omega
      have hadd := run_call_add (P := Try.prog) Try.func50 (by kernel_rfl) (by kernel_rfl) (by kernel_rfl) .i64 (by kernel_rfl) (y := 1) (s := 1) hc.c3 (hc.fr 3) (by simp [go_sem]; rfl)
      have HC := Lib.hid hc
      have HP := Lib.hid hp
      clear hc ht hp
      go_wp2
      go_end0
      exact ⟨rfl, HC.out.s3 1, ho.setCell _ _⟩
end Go.Proofs.Ytkipgipfplejoaa
