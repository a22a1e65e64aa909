/- sync.Once and sync/atomic's Int64, for one goroutine: the parts that any once is made of. Conditions: the once is not held. -/
import Derived.Test.YtgooepfhapaenaaGreatRows
import Derived.Test.YtgooepfhapaenaaGreatKit
import Derived.Defers
import Derived.Laws.Pointers
import Derived.Laws.LoneSync
import Derived.RegionTactic
import Derived.RegionCalls
import Derived.ChangeAlike
import Derived.Test.YtgooepfhapaenaaGreatCrcRef
import Derived.BigQuiet
namespace Go.Proofs.YtgooepfhapaenaaGreat
open Go.ChangeShapes Go.WideShapes Go.ChangeAt Go.RowKit
set_option linter.unusedVariables false
set_option maxRecDepth 100000
set_option linter.unusedSimpArgs false

theorem disable (w : World) : (callFunc 105 #[]).run Tryz.prog w = .ok (.value (.tuple #[])) w := run_call_mark0 Tryz.func105 (by kernel_rfl) (by kernel_rfl) (by kernel_rfl) .disable (by kernel_rfl) w
theorem enable (w : World) : (callFunc 107 #[]).run Tryz.prog w = .ok (.value (.tuple #[])) w := run_call_mark0 Tryz.func107 (by kernel_rfl) (by kernel_rfl) (by kernel_rfl) .enable (by kernel_rfl) w
theorem acquire (a : Addr) (w : World) : (callFunc 108 #[.pointer (some a)]).run Tryz.prog w = .ok (.value (.tuple #[])) w := run_call_marked Tryz.func108 (by kernel_rfl) (by kernel_rfl) (by kernel_rfl) .acquire (by kernel_rfl) a w
theorem releaseMerge (a : Addr) (w : World) : (callFunc 110 #[.pointer (some a)]).run Tryz.prog w = .ok (.value (.tuple #[])) w := run_call_marked Tryz.func110 (by kernel_rfl) (by kernel_rfl) (by kernel_rfl) .releaseMerge (by kernel_rfl) a w

/-- '(*sync/atomic.Bool).Store(true)', entered as a deferred call. -/
theorem store_deferred (a : Addr) (x : Value) (u : FrameMode) (w : World) (hc : w.cell? a = some x) (hz : w.frozen? a = false) :
    CallsD Tryz.prog 100 #[.pointer (some a), .bool true] u w fun e u' w' => u' = u ∧ (e = .returned (.tuple #[]) ∧ w' = w.drew.setCell a (.int .u32 1)) := by
  have hc' : w.drew.cell? a = some x := by go_simp
  have hz' : w.drew.frozen? a = false := by go_simp
  have hst := run_call_store (P := Tryz.prog) Tryz.func103 (by kernel_rfl) (by kernel_rfl) (by kernel_rfl) (by kernel_rfl) (k := .u32) (y := 1) hc' hz'
  go_enter_d Tryz.func100, Tryz.ntmps100
  go_wp2
  go_region_calls
  all_goals (go_end0; exact ⟨rfl, rfl⟩)

/-- '(*sync.Mutex).Unlock', entered as a deferred call, the lock held and nobody waiting. -/
theorem unlock_deferred (a : Addr) (u : FrameMode) (w : World) (hc : w.cell? a = some (.int .i32 1)) (hz : w.frozen? a = false) :
    CallsD Tryz.prog 99 #[.pointer (some a)] u w fun e u' w' => u' = u ∧ (e = .returned (.tuple #[]) ∧ w' = w.setCell a (.int .i32 0)) := by
  have hd := disable
  have he := enable
  have hr := releaseMerge
  have hadd := run_call_add (P := Tryz.prog) Tryz.func111 (by kernel_rfl) (by kernel_rfl) (by kernel_rfl) .i32 (by kernel_rfl) (y := -1) (s := 0) hc hz (by simp [go_sem]; rfl)
  have hcv := run_convert_to_unsafe (P := Tryz.prog) (src := 150) (dst := 134) Tryz.underlying150 Tryz.underlying134 (by kernel_rfl) hc
  go_enter_d Tryz.func99, Tryz.ntmps99
  go_wp2
  go_end0
  go_wp2

/-- '(*sync.Mutex).Lock', the lock free. -/
theorem lock_free (a : Addr) (w : World) (hc : w.cell? a = some (.int .i32 0)) (hz : w.frozen? a = false) :
    Calls Tryz.prog 98 #[.pointer (some a)] w fun e w' => e = .returned (.tuple #[]) ∧ w' = w.setCell a (.int .i32 1) := by
  have hd := disable
  have he := enable
  have ha := acquire
  have hcas := run_call_cas_hit (P := Tryz.prog) Tryz.func106 (by kernel_rfl) (by kernel_rfl) (by kernel_rfl) .i32 (by kernel_rfl) (y := 1) hc hz
  have hc' : (w.setCell a (.int .i32 1)).cell? a = some (.int .i32 1) := World.cell?_setCell_same w a _ hc
  have hcv := run_convert_to_unsafe (P := Tryz.prog) (src := 150) (dst := 134) Tryz.underlying150 Tryz.underlying134 (by kernel_rfl) hc'
  go_enter Tryz.func98, Tryz.ntmps98
  go_wp2
  first | go_end0 | (simp only [Exit.inBlock, Exit.then]; refine bodyPost_ret (results_none rfl _ _ _) rfl ?_) | refine bodyPost_ret (results_none rfl _ _ _) rfl ?_
  go_wp2
/-- '(*sync/atomic.Bool).Load'. -/
theorem bload_any (a : Addr) (d : Int) (x : Bool) (hx : (d != 0) = x) (w : World) (h0 : w.cell? a = some (.int .u32 d)) :
    Calls Tryz.prog 94 #[.pointer (some a)] w fun e w' => e = .returned (.bool x) ∧ w = w' := by
  have hl := run_call_load (P := Tryz.prog) Tryz.func97 (by kernel_rfl) (by kernel_rfl) (by kernel_rfl) .u32 (by kernel_rfl) h0
  go_enter Tryz.func94, Tryz.ntmps94
  go_wp2
  go_ret
  exact ⟨rfl, rfl⟩
/-- '(*sync.Once).Do', done already: the function is not called. -/
theorem do_done (a : Addr) (d : Int) (hd : ¬ d = 0) (fv : Value) (w : World) (h0 : w.cell? a = some (.int .u32 d)) :
    Calls Tryz.prog 90 #[.pointer (some a), fv] w fun e w' => e = .returned (.tuple #[]) ∧ w' = w := by
  have hl := run_call_load (P := Tryz.prog) Tryz.func97 (by kernel_rfl) (by kernel_rfl) (by kernel_rfl) .u32 (by kernel_rfl) h0
  have hnot : ∀ (x : Bool) (w : World), (Op.unary .not (.bool x)).run Tryz.prog w = .ok (.bool (!x)) w := fun _ _ => rfl
  have hd' : (d != 0) = true := by simp [hd]
  go_enter Tryz.func90, Tryz.ntmps90
  go_wp2
  go_end0
  exact ⟨rfl, rfl⟩
end Go.Proofs.YtgooepfhapaenaaGreat
/- What the table's methods come to. Conditions: texts no longer than any text. -/
namespace Go.Proofs.YtgooepfhapaenaaGreat
open Go.ChangeShapes Go.WideShapes Go.ChangeAt Go.RowKit
set_option linter.unusedVariables false
set_option maxRecDepth 100000
set_option linter.unusedSimpArgs false

/-- The entries, the first k of them laid. -/
def entC (k : Nat) : Array Value := ((List.range 256).map fun n => Value.int .u32 ((if n < k then stp n else 0 : Nat) : Int)).toArray
theorem entC_size (k : Nat) : (entC k).size = 256 := by simp [entC]
theorem entC_get (k n : Nat) (h : n < 256) : (entC k)[n]? = some (.int .u32 ((if n < k then stp n else 0 : Nat) : Int)) := by
  simp [entC, h]
theorem entC_set (k : Nat) (h : k < 256) : (entC k).setIfInBounds k (.int .u32 (stp k : Nat)) = entC (k + 1) := by
  apply Array.ext_getElem?
  intro i
  rw [Array.getElem?_setIfInBounds]
  by_cases hi : i < 256
  · rw [entC_get _ _ hi, entC_get _ _ hi, entC_size]
    by_cases hk : k = i
    · subst hk; simp [h]
    · rw [if_neg hk]
      have : (i < k) = (i < k + 1) := by simp; omega
      simp only [this]
  · have h1 : (entC k)[i]? = none := by simp [entC]; omega
    have h2 : (entC (k + 1))[i]? = none := by simp [entC]; omega
    rw [h1, h2, entC_size]
    split
    · omega
    · rfl
/-- A table's cells: done, lock, wake, made, entries. -/
def cellsC (d l : Int) (m : Int) (k : Nat) : Array Value := #[.int .u32 d, .int .i32 l, .int .u32 0, .int .i64 m] ++ entC k
theorem cellsC_size (d l m : Int) (k : Nat) : (cellsC d l m k).size = 260 := by simp [cellsC, entC_size]
theorem cellsC_0 (d l m : Int) (k : Nat) : (cellsC d l m k)[0]? = some (.int .u32 d) := by rw [cellsC, Array.getElem?_append_left (by simp)]; rfl
theorem cellsC_1 (d l m : Int) (k : Nat) : (cellsC d l m k)[1]? = some (.int .i32 l) := by rw [cellsC, Array.getElem?_append_left (by simp)]; rfl
theorem cellsC_3 (d l m : Int) (k : Nat) : (cellsC d l m k)[3]? = some (.int .i64 m) := by rw [cellsC, Array.getElem?_append_left (by simp)]; rfl
theorem cellsC_4 (d l m : Int) (k n : Nat) (h : n < 256) : (cellsC d l m k)[4 + n]? = some (.int .u32 ((if n < k then stp n else 0 : Nat) : Int)) := by
  rw [cellsC, Array.getElem?_append_right (by simp), ← entC_get k n h]
  congr 1
  simp
theorem cellsC_s0 (d l m d' : Int) (k : Nat) : (cellsC d l m k).setIfInBounds 0 (.int .u32 d') = cellsC d' l m k := by
  unfold cellsC; rw [Array.setIfInBounds_append_left (by simp)]; rfl
theorem cellsC_s1 (d l m l' : Int) (k : Nat) : (cellsC d l m k).setIfInBounds 1 (.int .i32 l') = cellsC d l' m k := by
  unfold cellsC; rw [Array.setIfInBounds_append_left (by simp)]; rfl
theorem cellsC_s3 (d l m m' : Int) (k : Nat) : (cellsC d l m k).setIfInBounds 3 (.int .i64 m') = cellsC d l m' k := by
  unfold cellsC; rw [Array.setIfInBounds_append_left (by simp)]; rfl
theorem cellsC_s4 (d l m : Int) (k : Nat) (h : k < 256) : (cellsC d l m k).setIfInBounds (4 + k) (.int .u32 (stp k : Nat)) = cellsC d l m (k + 1) := by
  unfold cellsC
  rw [Array.setIfInBounds_append_right (by simp), ← entC_set k h]
  congr 1
  simp
/-- A table lies there. -/
def TabC (w : World) (b : Nat) (d l m : Int) (k : Nat) : Prop := w.heap[b]? = some (.cells (cellsC d l m k) 110 (0, 0))
theorem TabC.only {w w' : World} {b c : Nat} {d l m : Int} {k : Nat} (h : TabC w b d l m k) (ho : Only c w w') (hne : b ≠ c) : TabC w' b d l m k := ho.old h hne
theorem TabC.c0 {w : World} {b : Nat} {d l m : Int} {k : Nat} (h : TabC w b d l m k) : w.cell? ⟨b, 0, none⟩ = some (.int .u32 d) := (blk_cell h 0).trans (cellsC_0 ..)
theorem TabC.c1 {w : World} {b : Nat} {d l m : Int} {k : Nat} (h : TabC w b d l m k) : w.cell? ⟨b, 1, none⟩ = some (.int .i32 l) := (blk_cell h 1).trans (cellsC_1 ..)
theorem TabC.c3 {w : World} {b : Nat} {d l m : Int} {k : Nat} (h : TabC w b d l m k) : w.cell? ⟨b, 3, none⟩ = some (.int .i64 m) := (blk_cell h 3).trans (cellsC_3 ..)
theorem TabC.c4 {w : World} {b : Nat} {d l m : Int} {k : Nat} (h : TabC w b d l m k) (n : Nat) (hn : n < 256) : w.cell? ⟨b, 4 + n, none⟩ = some (.int .u32 ((if n < k then stp n else 0 : Nat) : Int)) := (blk_cell h (4 + n)).trans (cellsC_4 _ _ _ _ _ hn)
theorem TabC.fr {w : World} {b : Nat} {d l m : Int} {k : Nat} (h : TabC w b d l m k) (i : Nat) : w.frozen? ⟨b, i, none⟩ = false := blk_free h i
theorem TabC.s0 {w : World} {b : Nat} {d l m : Int} {k : Nat} (h : TabC w b d l m k) (v : Int) : TabC (w.setCell ⟨b, 0, none⟩ (.int .u32 v)) b v l m k := by unfold TabC; rw [blk_set h, cellsC_s0]
theorem TabC.s1 {w : World} {b : Nat} {d l m : Int} {k : Nat} (h : TabC w b d l m k) (v : Int) : TabC (w.setCell ⟨b, 1, none⟩ (.int .i32 v)) b d v m k := by unfold TabC; rw [blk_set h, cellsC_s1]
theorem TabC.s3 {w : World} {b : Nat} {d l m : Int} {k : Nat} (h : TabC w b d l m k) (v : Int) : TabC (w.setCell ⟨b, 3, none⟩ (.int .i64 v)) b d l v k := by unfold TabC; rw [blk_set h, cellsC_s3]
theorem TabC.s4 {w : World} {b : Nat} {d l m : Int} {k : Nat} (h : TabC w b d l m k) (hk : k < 256) : TabC (w.setCell ⟨b, 4 + k, none⟩ (.int .u32 (stp k : Nat))) b d l m (k + 1) := by unfold TabC; rw [blk_set h, cellsC_s4 _ _ _ _ hk]

set_option maxRecDepth 100000 in
theorem zero_tab (w : World) : (zeroValue 110).run Tryz.prog w = .ok (.agg (cellsC 0 0 0 0)) w := by
  first | kernel_rfl | rfl
set_option maxRecDepth 100000 in
theorem tnew_any (w : World) :
    Calls Tryz.prog 48 #[] w fun e w' => e = .returned (.pointer (some ⟨w.heap.size, 0, none⟩)) ∧ w' = w.alloc (.cells (cellsC 0 0 0 0) 110) := by
  have hz := zero_tab
  have hn := cellsC_size 0 0 0 0
  generalize cellsC 0 0 0 0 = C at *
  go_enter Tryz.func48, Tryz.ntmps48
  go_wp2_with fail
  go_ret
  exact ⟨rfl, rfl⟩
set_option maxRecDepth 100000 in
set_option maxHeartbeats 2000000 in
/-- What the once does: the entries are laid, and counted once. -/
theorem fill_any (b pl : Nat) (d l : Int) (w : World) (hne : pl ≠ b) (hp : w.heap[pl]? = some (.cells #[.pointer (some ⟨b, 0, none⟩)] 68 (0, 0))) (ht : TabC w b d l 0 0) :
    Calls Tryz.prog 91 #[.pointer (some ⟨pl, 0, none⟩)] w fun e w' => e = .returned (.tuple #[]) ∧ TabC w' b d l 1 256 ∧ Only b w w' := by
  go_enter Tryz.func91, Tryz.ntmps91
  go_wp2_with fail
  go_loopw [2] (fun i wr => ∃ k : Nat, k ≤ 256 ∧ i = .int .i64 k ∧ TabC wr b d l 0 k ∧ Only b w wr) (fun i _ => 256 - (intOf i).toNat)
  case atStart => exact ⟨0, by omega, rfl, ht, Only.refl _ _⟩
  case round =>
    obtain ⟨k, hk, rfl, hc, ho⟩ := hrel
    have hpr := blk_cell (ho.old hp hne) 0
    rw [show (#[Value.pointer (some ⟨b, 0, none⟩)])[0]? = some (.pointer (some ⟨b, 0, none⟩)) from rfl] at hpr
    by_cases hlk : k < 256
    · have q1 : (k : Int) % 4294967296 = k := by omega
      have q2 : IntKind.u32.wrap (k : Int) = k := IntWalk.u32_in _ (by omega)
      have c4 := hc.c4 k hlk
      have f4 := hc.fr (4 + k)
      have H := fun w => Lib.hid (halved_any k w (by omega))
      have HC := Lib.hid hc
      have HP := Lib.hid hp
      clear hc ht hp
      go_wp2_with fail
      go_region_with (go_at_call 92; (with_reducible refine (H _).out.mono ?_); rintro e w1 ⟨rfl, rfl⟩)
      all_goals go_wp2_with fail
      all_goals go_round
      all_goals first
        | exact ⟨k + 1, by omega, by simp, HC.out.s4 hlk, (ho.setCell _ _).drew⟩
        | (simp [intOf]; omega)
    · obtain rfl : k = 256 := by omega
      have hadd := run_call_add (P := Tryz.prog) Tryz.func96 (by kernel_rfl) (by kernel_rfl) (by kernel_rfl) .i64 (by kernel_rfl) (y := 1) (s := 1) hc.c3 (hc.fr 3) (by simp [go_sem]; rfl)
      have HC := Lib.hid hc
      have HP := Lib.hid hp
      clear hc ht hp
      go_wp2
      go_end0
      exact ⟨rfl, HC.out.s3 1, ho.setCell _ _⟩
end Go.Proofs.YtgooepfhapaenaaGreat
/- The once of a table: done the first time, or done already. Conditions: none. -/
namespace Go.Proofs.YtgooepfhapaenaaGreat
open Go.ChangeShapes Go.WideShapes Go.ChangeAt Go.RowKit
set_option linter.unusedVariables false
set_option maxRecDepth 100000
set_option linter.unusedSimpArgs false

set_option maxRecDepth 100000 in
set_option maxHeartbeats 2000000 in
theorem slow_any (b pl : Nat) (w : World) (hne : pl ≠ b) (hp : w.heap[pl]? = some (.cells #[.pointer (some ⟨b, 0, none⟩)] 68 (0, 0))) (ht : TabC w b 0 0 0 0) :
    Calls Tryz.prog 95 #[.pointer (some ⟨b, 0, none⟩), .func (.func 91) #[] #[.pointer (some ⟨pl, 0, none⟩)]] w fun e w' => e = .returned (.tuple #[]) ∧ TabC w' b 1 0 1 256 ∧ Only b w w' := by
  have t1 := ht.s1 1
  have hp1 := blk_far (p := ⟨b, 1, none⟩) (.int .i32 1) hp hne
  have o1 := (Only.refl b w).setCell 1 (.int .i32 1)
  have B := Lib.hid (bload_any ⟨b, 0, none⟩ 0 false rfl _ t1.c0)
  have hnot : ∀ (x : Bool) (w : World), (Op.unary .not (.bool x)).run Tryz.prog w = .ok (.bool (!x)) w := fun _ _ => rfl
  have L := Lib.hid (lock_free ⟨b, 1, none⟩ w ht.c1 (ht.fr 1))
  have F := Lib.hid (fill_any b pl 0 1 (w.setCell ⟨b, 1, none⟩ (.int .i32 1)) hne hp1 t1)
  clear ht t1 hp hp1
  go_enter_defers Tryz.func95, Tryz.ntmps95
  go_wp2_with fail
  refine L.out.mono ?_
  rintro e w' ⟨rfl, rfl⟩
  go_wp2_with fail
  refine B.out.mono ?_
  rintro e w' ⟨rfl, rfl⟩
  go_wp2_with fail
  refine F.out.mono ?_
  rintro e w' ⟨rfl, t2, o2⟩
  go_wp2_with fail
  have o3 : Only b w w' := o1.trans o2
  clear L B F o1 o2
  try go_end0
  refine leaves_cons (f := 100) (args := #[.pointer (some ⟨b, 0, none⟩), .bool true]) (by simp) (by simp [go_sem]) ?_
  refine (store_deferred ⟨b, 0, none⟩ (.int .u32 0) .returning _ t2.c0 (t2.fr 0)).mono ?_
  rintro e u' w'' ⟨rfl, rfl, rfl⟩
  have t3 : TabC (w'.drew.setCell ⟨b, 0, none⟩ (.int .u32 1)) b 1 1 1 256 := TabC.s0 (w := w'.drew) t2 1
  have o4 : Only b w (w'.drew.setCell ⟨b, 0, none⟩ (.int .u32 1)) := o3.drew.setCell _ _
  refine leaves_cons (f := 99) (args := #[.pointer (some ⟨b, 1, none⟩)]) (by simp [settle]) (by simp [go_sem]) ?_
  refine (unlock_deferred ⟨b, 1, none⟩ _ _ t3.c1 (t3.fr 1)).mono ?_
  rintro e u' w'' ⟨rfl, rfl, rfl⟩
  have t5 := t3.s1 0
  have o5 := o4.setCell 1 (.int .i32 0)
  simp [Leaves, settle, results, Tryz.results95]
  exact ⟨t5, o5⟩
set_option maxRecDepth 100000 in
theorem do_first (b pl : Nat) (w : World) (hne : pl ≠ b) (hp : w.heap[pl]? = some (.cells #[.pointer (some ⟨b, 0, none⟩)] 68 (0, 0))) (ht : TabC w b 0 0 0 0) :
    Calls Tryz.prog 90 #[.pointer (some ⟨b, 0, none⟩), .func (.func 91) #[] #[.pointer (some ⟨pl, 0, none⟩)]] w fun e w' => e = .returned (.tuple #[]) ∧ TabC w' b 1 0 1 256 ∧ Only b w w' := by
  have hnot : ∀ (x : Bool) (w : World), (Op.unary .not (.bool x)).run Tryz.prog w = .ok (.bool (!x)) w := fun _ _ => rfl
  have B := Lib.hid (bload_any ⟨b, 0, none⟩ 0 false rfl w ht.c0)
  have F := Lib.hid (slow_any b pl w hne hp ht)
  clear ht hp
  go_enter Tryz.func90, Tryz.ntmps90
  go_wp2_with fail
  refine B.out.mono ?_
  rintro e w' ⟨rfl, rfl⟩
  go_wp2_with fail
  refine F.out.mono ?_
  rintro e w' ⟨rfl, t2, o2⟩
  go_wp2_with fail
  go_end0
  exact ⟨rfl, t2, o2⟩
/-- A table: new (false), or its entries reckoned (true). -/
def Tab (w : World) (b : Nat) (d : Bool) : Prop := match d with
  | false => TabC w b 0 0 0 0
  | true => TabC w b 1 0 1 256
theorem tab_new0 (w : World) : Tab (w.alloc (.cells (cellsC 0 0 0 0) 110)) w.heap.size false := blk_new _ _
theorem tab_drewN {w : World} {b : Nat} {d : Bool} (k : Nat) (h : Tab w b d) : Tab (w.drewN k) b d := by cases d <;> exact h
theorem tab_lt {w : World} {b : Nat} {d : Bool} (h : Tab w b d) : b < w.heap.size := by cases d <;> exact lt_of_block h
theorem tab_below {w w' : World} {B b : Nat} {d : Bool} (h : Tab w b d) (hb : Below B w w') (hB : b < B) : Tab w' b d := by cases d <;> exact blk_below hb h hB
set_option maxRecDepth 100000 in
theorem ready_any (b : Nat) (d : Bool) (w : World) (ht : Tab w b d) :
    Calls Tryz.prog 85 #[.pointer (some ⟨b, 0, none⟩)] w fun e w' => e = .returned (.tuple #[]) ∧ Tab w' b true ∧ Only b w w' := by
  have hb : b < w.heap.size := by cases d <;> exact lt_of_block ht
  have hmf : ∀ (fn : Fn) (first cap : Array Value) (w : World), (Instr.makeFunc fn first cap).run Tryz.prog w = .ok (.func fn first cap) w := fun _ _ _ _ => rfl
  have o1 : Only b w (w.alloc (.cells #[.pointer (some ⟨b, 0, none⟩)] 68)) := (Only.refl _ _).alloc _
  cases d with
  | false =>
    have F := Lib.hid (do_first b w.heap.size (w.alloc (.cells #[.pointer (some ⟨b, 0, none⟩)] 68)) (by omega) (blk_new _ _) (blk_old _ ht))
    clear ht
    go_enter Tryz.func85, Tryz.ntmps85
    go_wp2_with fail
    refine F.out.mono ?_
    rintro e w' ⟨rfl, t2, o2⟩
    go_wp2_with fail
    go_end0
    exact ⟨rfl, t2, o1.trans o2⟩
  | true =>
    have t1 : TabC (w.alloc (.cells #[.pointer (some ⟨b, 0, none⟩)] 68)) b 1 0 1 256 := blk_old _ ht
    have F := fun fv => Lib.hid (do_done ⟨b, 0, none⟩ 1 (by decide) fv _ t1.c0)
    clear ht
    go_enter Tryz.func85, Tryz.ntmps85
    go_wp2_with fail
    refine (F _).out.mono ?_
    rintro e w' ⟨rfl, rfl⟩
    go_wp2_with fail
    go_end0
    exact ⟨rfl, t1, o1⟩
end Go.Proofs.YtgooepfhapaenaaGreat
/- What the table's methods answer. Conditions: texts no longer than any text. -/
namespace Go.Proofs.YtgooepfhapaenaaGreat
open Go.ChangeShapes Go.WideShapes Go.ChangeAt Go.RowKit
set_option linter.unusedVariables false
set_option maxRecDepth 100000
set_option linter.unusedSimpArgs false

def madeN (d : Bool) : Int := if d then 1 else 0
theorem more_nilT (n : Int) (s : ByteArray) (w : World) :
    Calls Tryz.prog 77 #[.pointer none, .int .u32 n, .string s] w fun e w' => e = .returned (.int .u32 0) ∧ w = w' := by
  go_enter Tryz.func77, Tryz.ntmps77
  go_wp2
  go_ret
  exact ⟨rfl, rfl⟩
theorem sum_nil (s : ByteArray) (w : World) :
    Calls Tryz.prog 64 #[.pointer none, .string s] w fun e w' => e = .returned (.int .u32 0) ∧ w = w' := by
  have H := Lib.hid (more_nilT 0 s w)
  go_enter Tryz.func64, Tryz.ntmps64
  go_wp2_with fail
  refine H.out.mono ?_
  rintro e w' ⟨rfl, rfl⟩
  go_wp2_with fail
  go_ret
  exact ⟨rfl, rfl⟩
end Go.Proofs.YtgooepfhapaenaaGreat
/- What the table's More and Sum answer. Conditions: texts no longer than any text. -/
namespace Go.Proofs.YtgooepfhapaenaaGreat
open Go.ChangeShapes Go.WideShapes Go.ChangeAt Go.RowKit
set_option linter.unusedVariables false
set_option maxRecDepth 100000
set_option linter.unusedSimpArgs false

theorem only_drewN {b : Nat} {a w : World} (h : Only b a w) (n : Nat) : Only b a (w.drewN n) := ⟨h.os, h.tape, h.output, h.size, h.block⟩
set_option maxRecDepth 100000 in
set_option maxHeartbeats 2000000 in
theorem more_any (b : Nat) (d : Bool) (n : Nat) (s : ByteArray) (w : World) (hn : n < 4294967296) (hs : s.size ≤ 9223372036854775000) (ht : Tab w b d) :
    Calls Tryz.prog 77 #[.pointer (some ⟨b, 0, none⟩), .int .u32 n, .string s] w fun e w' => e = .returned (.int .u32 (more n s.data.toList : Nat)) ∧ Tab w' b true ∧ Only b w w' := by
  have H := Lib.hid (ready_any b d w ht)
  clear ht
  have hi := inv_bits_max n hn
  have hsg : IntKind.u32.signed = false := rfl
  have hL : s.data.toList.length = s.size := data_len s
  have hm : more n s.data.toList = inv (reg (inv n) s.data.toList) := rfl
  have hI := inv_lt hn
  have hlt := fun k => reg_lt (s.data.toList.take k) hI
  have hsc := fun k (h : k < s.size) => reg_take s.data.toList (inv n) k (by omega)
  have h0 : reg (inv n) (s.data.toList.take 0) = inv n := rfl
  rw [hm]
  clear hm
  have h8 : reg (inv n) s.data.toList = reg (inv n) (s.data.toList.take s.size) := by rw [List.take_of_length_le (by omega)]
  rw [h8]
  clear h8
  generalize inv n = v at *
  generalize hR : (fun k => reg v (s.data.toList.take k)) = R at *
  have hRk : ∀ k, reg v (s.data.toList.take k) = R k := fun k => by rw [← hR]
  simp only [hRk] at *
  clear hR hRk
  go_enter Tryz.func77, Tryz.ntmps77
  go_wp2_with fail
  refine H.out.mono ?_
  rintro e w1 ⟨rfl, t2, o2⟩
  clear H
  go_wp2_with fail
  go_loopw [7, 17] (fun x i wr => ∃ k : Nat, k ≤ s.size ∧ x = .int .u32 (R k : Nat) ∧ i = .int .i64 k ∧ Tab wr b true ∧ Only b w wr) (fun _ i _ => s.size - (intOf i).toNat)
  case atStart => exact ⟨0, by omega, by rw [h0], rfl, t2, o2⟩
  case round =>
    obtain ⟨k, hk, rfl, rfl, t3, o3⟩ := hrel
    have c4 := fun i hi => TabC.c4 t3 i hi
    have T3 := Lib.hid t3
    clear t2 t3
    have hx := hlt k
    by_cases hlk : k < s.size
    · have hsk := hsc k hlk
      have hg : s.data.toList[k]'(by omega) = s[k] := by simp; rfl
      rw [hg] at hsk
      clear hg
      have hc := s[k].toNat_lt
      generalize R k = x at *
      have hb : bits .xor .u8 ((x : Int) % 256) (s[k].toNat : Int) = ((x % 256 ^^^ s[k].toNat : Nat) : Int) := by
        rw [show (x : Int) % 256 = ((x % 256 : Nat) : Int) by omega]; exact u8_xor_nat _ _ (by omega) (by omega)
      have hy : x % 256 ^^^ s[k].toNat < 256 := Nat.xor_lt_two_pow (n := 8) (by omega) (by omega)
      have c5 := c4 _ hy
      rw [if_pos hy] at c5
      have hst := stp_table x s[k].toNat hc
      rw [← hsk] at hst
      have hv := stp_lt (show x % 256 ^^^ s[k].toNat < 4294967296 by omega)
      have hb2 : bits .xor .u32 ((x : Int) / 256) (stp (x % 256 ^^^ s[k].toNat) : Nat) = ((x / 256 ^^^ stp (x % 256 ^^^ s[k].toNat) : Nat) : Int) := by
        rw [show (x : Int) / 256 = ((x / 256 : Nat) : Int) by omega]; exact u32_xor_nat _ _ (by omega) hv
      have q : IntKind.u8.wrap (x : Int) = (x : Int) % 256 := by rw [IntKind.wrap_u8]
      generalize x % 256 ^^^ s[k].toNat = y at *
      have hy2 : decide ((y : Int) < 256) = true := decide_eq_true (by omega)
      have HST := Lib.hid hst
      clear hst hsk hsc hlt c4
      generalize x / 256 ^^^ stp y = z at *
      generalize stp y = e at *
      go_wp2_with fail
      go_quiet (fail)
      go_wp2_with fail
      go_roundw
      case rel => exact ⟨k + 1, by omega, by rw [HST.out], by go_num, T3.out, only_drewN o3 _⟩
      case measure => simp [intOf]; omega
    · obtain rfl : k = s.size := by omega
      have hi2 := inv_bits_max _ hx
      clear hsc hlt c4
      generalize hV : inv (R s.size) = V at *
      have HV := Lib.hid hV
      clear hV
      go_wp2_with fail
      go_ret
      rw [HV.out]
      exact ⟨rfl, T3.out, o3⟩
theorem tsum_any (b : Nat) (d : Bool) (s : ByteArray) (w : World) (hs : s.size ≤ 9223372036854775000) (ht : Tab w b d) :
    Calls Tryz.prog 64 #[.pointer (some ⟨b, 0, none⟩), .string s] w fun e w' => e = .returned (.int .u32 (more 0 s.data.toList : Nat)) ∧ Tab w' b true ∧ Only b w w' := by
  have H := Lib.hid (more_any b d 0 s w (by omega) hs ht)
  clear ht
  generalize more 0 s.data.toList = v at *
  go_enter Tryz.func64, Tryz.ntmps64
  go_wp2_with fail
  refine H.out.mono ?_
  rintro e w' ⟨rfl, t2, o2⟩
  go_wp2_with fail
  go_ret
  exact ⟨rfl, t2, o2⟩
end Go.Proofs.YtgooepfhapaenaaGreat
