/- What frame's Seal, Open and All come to. Conditions: texts no longer than any text. -/
import Derived.Test.YtkipgipfplejoaaFrmA
import Derived.Test.YtkipgipfplejoaaFrmPlain
namespace Go.Proofs.Ytkipgipfplejoaa
open Go.ChangeShapes Go.WideShapes Go.ChangeAt Go.RowKit
set_option linter.unusedVariables false
set_option maxRecDepth 100000
set_option linter.unusedSimpArgs false

def sealE (s : ByteArray) : Nat := if 200 < s.size then 9 else 0
def sealT (s : ByteArray) : ByteArray := if 200 < s.size then bs [] else bs (sealL s.data.toList)
set_option maxHeartbeats 1000000 in
theorem fseal_any (s : ByteArray) (w : World) (hs : s.size ≤ 9223372036854775000) :
    Calls Try.prog 6 #[.string s] w fun e w' => e = .returned (.tuple #[.string (sealT s), .int .i64 (sealE s)]) ∧ Below w.heap.size w w' := by
  have hmf : ∀ (fn : Fn) (first cap : Array Value) (w : World), (Instr.makeFunc fn first cap).run Try.prog w = .ok (.func fn first cap) w := fun _ _ _ _ => rfl
  unfold sealE sealT
  by_cases h : 200 < s.size
  · rw [if_pos h, if_pos h]
    have d1 : decide ((s.size : Int) ≤ 200) = false := decide_eq_false (by omega)
    go_enter_defers Try.func6, Try.ntmps6
    go_wp2_with fail
    refine (demand_no _ _).mono ?_
    rintro e w1 ⟨rfl, rfl⟩
    go_wp2_with fail
    refine leaves_cons (f := 14) (args := #[.pointer (some ⟨w.heap.size, 0, none⟩)]) (by simp) (by simp [go_sem]) ?_
    refine (seal_panicking ⟨w.heap.size, 0, none⟩ 0 9 [] _ ?_ ?_).mono ?_
    · simp [go_sem]
    · simp [go_sem]
    rintro e u' w'' ⟨rfl, rfl, rfl⟩
    simp [Leaves, settle, results, Try.results6, go_sem]
    exact ⟨rfl, (Below.refl _ _).alloc (Nat.le_refl _) _⟩
  · rw [if_neg h, if_neg h]
    have d1 : decide ((s.size : Int) ≤ 200) = true := decide_eq_true (by omega)
    have hl : s.data.toList.length = s.size := data_len s
    have F2 := Lib.hid (fun w => fixed_in s.size 2 w (by omega) (by omega) (by omega))
    have F1 := Lib.hid (fun w => fixed_in 82 1 w (by omega) (by omega) (by omega))
    have z2 : (bs (fixL s.size 2)).size = 2 := by rw [bs_size, fixL_length]
    have z1 : (bs (fixL 82 1)).size = 1 := by rw [bs_size, fixL_length]
    have J1 := Lib.hid (fun (w : World) => joined2 (bs (fixL s.size 2)) s w (by omega))
    rw [bs_list, show fixL s.size 2 ++ s.data.toList = lenL s.data.toList by rw [lenL, hl]] at J1
    have hL : (bs (lenL s.data.toList)).size = s.size + 2 := by rw [bs_size, lenL_length, hl]
    have S3 := Lib.hid (fun (b : Nat) (w : World) => fsum_any b false (bs (lenL s.data.toList)) w (by omega))
    rw [bs_list] at S3
    have z4 : (bs (fixL (more 0 (lenL s.data.toList)) 4)).size = 4 := by rw [bs_size, fixL_length]
    have J2 := Lib.hid (fun (w : World) => joined3 (bs (fixL 82 1)) (bs (lenL s.data.toList)) (bs (fixL (more 0 (lenL s.data.toList)) 4)) w (by omega))
    rw [bs_list, bs_list, bs_list, show fixL 82 1 ++ (lenL s.data.toList ++ fixL (more 0 (lenL s.data.toList)) 4) = sealL s.data.toList from rfl] at J2
    generalize bs (fixL s.size 2) = T2 at *
    generalize bs (fixL 82 1) = T1 at *
    generalize bs (fixL (more 0 (lenL s.data.toList)) 4) = T4 at *
    generalize bs (lenL s.data.toList) = TL at *
    generalize bs (sealL s.data.toList) = TS at *
    clear z1 z2 z4 hL hl
    go_enter_defers Try.func6, Try.ntmps6
    go_wp2_with fail
    refine (demand_yes _ _).mono ?_
    rintro e w1 ⟨rfl, rfl⟩
    have hcell := blk_new w (.cells #[.int .i64 0] 23)
    have hb0 := Lib.hid ((Below.refl w.heap.size w).alloc (Nat.le_refl _) (.cells #[.int .i64 0] 23))
    have hw0 : w.heap.size < (w.alloc (.cells #[.int .i64 0] 23)).heap.size := by simp
    go_wp2_with fail
    refine (F2.out _).mono ?_
    rintro e w2 ⟨rfl, b2⟩
    have hcell2 := blk_below b2 hcell hw0
    go_wp2_with fail
    refine (J1.out _).mono ?_
    rintro e w3 ⟨rfl, b3⟩
    have hcell3 := blk_below b3 hcell2 (lt_of_block hcell2)
    go_wp2_with fail
    refine (F1.out _).mono ?_
    rintro e w4 ⟨rfl, b4⟩
    have hcell4 := blk_below b4 hcell3 (lt_of_block hcell3)
    go_wp2_with fail
    refine (tnew_any _).mono ?_
    rintro e w5 ⟨rfl, rfl⟩
    have ht := tab_new0 w4
    have b5 := (Below.refl w4.heap.size w4).alloc (Nat.le_refl _) (.cells (cellsC 0 0 0 0) 68)
    have hcell5 := blk_below b5 hcell4 (lt_of_block hcell4)
    have S3' := S3.out w4.heap.size _ ht
    generalize w4.alloc (.cells (cellsC 0 0 0 0) 68) = w5 at *
    clear ht
    go_wp2_with fail
    refine S3'.mono ?_
    rintro e w6 ⟨rfl, -, o6⟩
    have hcell6 := o6.old hcell5 (by have := lt_of_block hcell4; omega)
    have b6 : Below w.heap.size w w6 := by
      have s2 := b2.size
      have s3 := b3.size
      have s4 := b4.size
      exact ((((hb0.out.trans (b2.mono (by omega))).trans (b3.mono (by omega))).trans (b4.mono (by omega))).trans (b5.mono (by omega))).trans (o6.below (by omega) (by have := b5.size; omega))
    clear S3' b2 b3 b4 b5 o6 hcell hcell2 hcell3 hcell4 hcell5 S3
    go_wp2_with fail
    refine (J2.out _).mono ?_
    rintro e w7 ⟨rfl, b7⟩
    have hcell7 := blk_below b7 hcell6 (lt_of_block hcell6)
    have hb7 := b6.trans (b7.mono b6.size)
    have c7 := cell_of_one hcell7
    have f7 := free_of_one hcell7
    clear b7 b6 hcell6 hb0
    go_wp2_with fail
    refine leaves_cons (f := 14) (args := #[.pointer (some ⟨w.heap.size, 0, none⟩)]) (by simp) (by simp [go_sem]) ?_
    have hset : (w7.setCell ⟨w.heap.size, 0, none⟩ (.int .i64 0)).heap[w.heap.size]? = some (.cells #[.int .i64 0] 23 (0, 0)) := blk_set hcell7 0 (.int .i64 0)
    have hb8 := hb7.setCell (p := ⟨w.heap.size, 0, none⟩) (Nat.le_refl _) (.int .i64 0)
    generalize w7.setCell ⟨w.heap.size, 0, none⟩ (.int .i64 0) = w8 at *
    have hset2 : (w8.setCell ⟨w.heap.size, 0, none⟩ (.int .i64 0)).heap[w.heap.size]? = some (.cells #[.int .i64 0] 23 (0, 0)) := blk_set hset 0 (.int .i64 0)
    have hb9 := hb8.setCell (p := ⟨w.heap.size, 0, none⟩) (Nat.le_refl _) (.int .i64 0)
    refine (seal_idle ⟨w.heap.size, 0, none⟩ 0 _ (cell_of_one hset) (free_of_one hset)).mono ?_
    rintro e u' w'' ⟨rfl, rfl, rfl⟩
    generalize w8.setCell ⟨w.heap.size, 0, none⟩ (.int .i64 0) = w9 at *
    have c9 := cell_of_one hset2
    have HB := Lib.hid hb9
    clear hb9 hb8 hb7 hset hset2 hcell7 c7 f7
    simp [Leaves, settle, results, Try.results6, go_sem, c9]
    exact HB.out
end Go.Proofs.Ytkipgipfplejoaa
