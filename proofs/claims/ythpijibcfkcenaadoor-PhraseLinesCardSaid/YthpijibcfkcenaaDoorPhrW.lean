/- What must come of package phrase, whatever the arguments are. Conditions: the tables are laid. -/
import Derived.Test.YthpijibcfkcenaaDoorPhr
namespace Go.Proofs.YthpijibcfkcenaaDoor
open Go.ChangeShapes Go.WideShapes Go.ChangeAt Go.RowKit
set_option linter.unusedVariables false
set_option maxRecDepth 100000
set_option linter.unusedSimpArgs false
set_option maxHeartbeats 4000000

theorem eqlV_run (w : World) (a b : Evt) : (binOp .eql 25 a.val b.val).run Tryd.prog w = .ok (.bool (eqE a b)) w := by
  unfold Evt.val
  rw [run_eql_struct, eqE_run]
  rfl
theorem eqlV_guard (w : World) (a b : Evt) (x y : Operand) : (eqGuard .eql 25 x y a.val b.val).run Tryd.prog w = .ok () w := run_eqGuard_agg w .eql 25 x y _ _ (by kernel_rfl)
theorem eqV_self (a : Evt) : eqE a a = true := (eqE_iff a a).2 rfl
def awV : Evt := ⟨4, 0, 7, 0, 3, ⟨1, 2, 0⟩⟩
def awT : List UInt8 := [115, 117, 98, 109, 105, 116, 32, 106, 111, 98, 61, 55, 32, 112, 114, 105, 111, 61, 51, 32, 99, 111, 114, 101, 115, 61, 49, 32, 109, 101, 109, 111, 114, 121, 61, 50, 32, 100, 105, 115, 107, 61, 48]
def awB : List UInt8 := [99, 97, 110, 99, 101, 108, 32, 106, 111, 98, 61, 48]
theorem awV_ok : awV.ok := by unfold awV Evt.ok V3.ok inI; simp
theorem aw_check : checkE awV = 0 := by kernel_rfl
theorem aw_line : lineP awV = (awT, 0) := by
  unfold lineP
  rw [if_pos aw_check]
  have : lineL awV = awT := by kernel_rfl
  rw [this]
theorem aw_parse : parseP ([32] ++ awT ++ [32, 35, 32, 120]) = (awV, 0) := by kernel_rfl
theorem aw_bad : parseP awB = (zeroE, 2) := by kernel_rfl
theorem aw_word : wordP 7 = [100, 111, 110, 101] ∧ isK 7 = true := ⟨rfl, rfl⟩
theorem phrase_awake (w : World) (ht : phT w) : Calls Tryd.prog 6 #[] w fun e w' => e = .returned (.bool true) ∧ Below w.heap.size w w' := by
  have HT := Lib.hid ht
  have PL := Lib.hid (show ∀ w', Below w.heap.size w w' → Calls Tryd.prog 7 #[(.agg #[.int .i64 4, .int .i64 0, .int .i64 7, .int .i64 0, .int .i64 3, .int .i64 1, .int .i64 2, .int .i64 0])] w' fun e w'' => e = .returned (.tuple #[.string (bs awT), .int .i64 0]) ∧ Below w'.heap.size w' w'' from fun w' hb => by have := phline_any awV w' awV_ok (phT_below HT.out hb); rw [aw_line] at this; exact this)
  have PP := Lib.hid (show ∀ w', Below w.heap.size w w' → Calls Tryd.prog 9 #[.string (ByteArray.mk #[32] ++ bs awT ++ ByteArray.mk #[32, 35, 32, 120])] w' fun e w'' => e = .returned (.tuple #[(.agg #[.int .i64 4, .int .i64 0, .int .i64 7, .int .i64 0, .int .i64 3, .int .i64 1, .int .i64 2, .int .i64 0]), .int .i64 0]) ∧ Below w'.heap.size w' w'' from fun w' hb => by
    have e : ByteArray.mk #[32] ++ bs awT ++ ByteArray.mk #[32, 35, 32, 120] = bs ([32] ++ awT ++ [32, 35, 32, 120]) := by
      rw [show ByteArray.mk #[32] = bs [32] from rfl, show ByteArray.mk #[32, 35, 32, 120] = bs [32, 35, 32, 120] from rfl, bs_append, bs_append]
    have := phparse_any (bs ([32] ++ awT ++ [32, 35, 32, 120])) w' (by rw [bs_size]; decide) (phT_below HT.out hb)
    rw [bs_list, aw_parse] at this
    rw [e]
    exact this)
  have PB := Lib.hid (show ∀ w', Below w.heap.size w w' → Calls Tryd.prog 9 #[.string ⟨#[99, 97, 110, 99, 101, 108, 32, 106, 111, 98, 61, 48]⟩] w' fun e w'' => e = .returned (.tuple #[(.agg #[.int .i64 0, .int .i64 0, .int .i64 0, .int .i64 0, .int .i64 0, .int .i64 0, .int .i64 0, .int .i64 0]), .int .i64 2]) ∧ Below w'.heap.size w' w'' from fun w' hb => by
    have := phparse_any (bs awB) w' (by rw [bs_size]; decide) (phT_below HT.out hb)
    rw [bs_list, aw_bad] at this
    exact this)
  have PW := Lib.hid (show ∀ w', Below w.heap.size w w' → Calls Tryd.prog 11 #[.int .i64 7] w' fun e w'' => e = .returned (.tuple #[.string (bs [100, 111, 110, 101]), .bool true]) ∧ Below w'.heap.size w' w'' from fun w' hb => phword_any 7 w' (by unfold inI; simp) (phT_below HT.out hb))
  have ER : ∀ w' : World, (Op.equalIn 9999 23 (.agg #[.int .i64 1, .int .i64 2, .int .i64 0]) (.agg #[.int .i64 1, .int .i64 2, .int .i64 0])).run Tryd.prog w' = .ok true w' := fun w' => eqRes_run w' ⟨1, 2, 0⟩ ⟨1, 2, 0⟩
  have deq : ((bs awT).toList == [115, 117, 98, 109, 105, 116, 32, 106, 111, 98, 61, 55, 32, 112, 114, 105, 111, 61, 51, 32, 99, 111, 114, 101, 115, 61, 49, 32, 109, 101, 109, 111, 114, 121, 61, 50, 32, 100, 105, 115, 107, 61, 48]) = true := by rw [bs_toList]; rfl
  have deq2 : ((bs [100, 111, 110, 101]).toList == [100, 111, 110, 101]) = true := by rw [bs_toList]; rfl
  have al : ∀ (X : Obj) (a : World), Below w.heap.size w a → Below w.heap.size w (a.alloc X) := fun X a h => h.alloc h.size X
  have hss : (bs awT).size = 43 := by rw [bs_size]; rfl
  have hs2 : (ByteArray.mk #[32] ++ bs awT).size = 44 := by rw [ByteArray.size_append, hss]; rfl
  generalize bs awT = T at *
  generalize bs [100, 111, 110, 101] = D at *
  clear ht
  go_enter Tryd.func6, Tryd.ntmps6
  go_wp2_with fail
  refine (PL.out _ (al _ _ (Below.refl _ _))).mono ?_; rintro e w1 ⟨rfl, hB⟩
  rw [World.size_alloc] at hB
  have X1 := Lib.hid (blk_below hB (blk_new w (.cells awV.cells 25)) (by omega))
  have hB1 : Below w.heap.size w w1 := (al _ _ (Below.refl _ _)).trans (hB.mono (by omega))
  have hl1 : w.heap.size + 1 ≤ w1.heap.size := by have := hB.size; simpa using this
  clear hB
  go_wp2_with fail
  refine (PP.out _ hB1).mono ?_; rintro e w2 ⟨rfl, hB⟩
  have hl2 : w1.heap.size ≤ w2.heap.size := hB.size
  have X2 := Lib.hid (blk_old (.cells awV.cells 25) (blk_below hB X1.out (by omega)))
  have hB2 := al (.cells awV.cells 25) _ (hB1.trans (hB.mono (by omega)))
  have Y2 := Lib.hid (blk_new w2 (.cells awV.cells 25))
  clear hB hB1 X1
  go_wp2_with fail
  refine (PB.out _ hB2).mono ?_; rintro e w3 ⟨rfl, hB⟩
  rw [World.size_alloc] at hB
  have hl3 : w2.heap.size + 1 ≤ w3.heap.size := by have := hB.size; simpa using this
  have X3 := Lib.hid (blk_old (.cells zeroE.cells 25) (blk_below hB X2.out (by omega)))
  have Y3 := Lib.hid (blk_old (.cells zeroE.cells 25) (blk_below hB Y2.out (by omega)))
  have hB3 := Lib.hid (al (.cells zeroE.cells 25) _ (hB2.trans (hB.mono (by omega))))
  clear hB hB2 X2 Y2
  go_wp2_with fail
  refine (PW.out _ hB3.out).mono ?_; rintro e w4 ⟨rfl, hB⟩
  rw [World.size_alloc] at hB
  have X4 := Lib.hid (blk_below hB X3.out (by omega))
  have Y4 := Lib.hid (blk_below hB Y3.out (by omega))
  have hB4 := Lib.hid (hB3.out.trans (hB.mono (by omega)))
  clear hB X3 Y3 hB3
  have x0 : w4.cell? ⟨w.heap.size, 0, none⟩ = some (.int .i64 4) := (evt_cells X4.out).1
  have x1 : w4.cell? ⟨w.heap.size, 1, none⟩ = some (.int .i64 0) := (evt_cells X4.out).2.1
  have x2 : w4.cell? ⟨w.heap.size, 2, none⟩ = some (.int .i64 7) := (evt_cells X4.out).2.2.1
  have x3 : w4.cell? ⟨w.heap.size, 3, none⟩ = some (.int .i64 0) := (evt_cells X4.out).2.2.2.1
  have x4 : w4.cell? ⟨w.heap.size, 4, none⟩ = some (.int .i64 3) := (evt_cells X4.out).2.2.2.2.1
  have x5 : w4.cell? ⟨w.heap.size, 5, none⟩ = some (.int .i64 1) := (evt_cells X4.out).2.2.2.2.2.1
  have x6 : w4.cell? ⟨w.heap.size, 6, none⟩ = some (.int .i64 2) := (evt_cells X4.out).2.2.2.2.2.2.1
  have x7 : w4.cell? ⟨w.heap.size, 7, none⟩ = some (.int .i64 0) := (evt_cells X4.out).2.2.2.2.2.2.2
  have y0 : w4.cell? ⟨w2.heap.size, 0, none⟩ = some (.int .i64 4) := (evt_cells Y4.out).1
  have y1 : w4.cell? ⟨w2.heap.size, 1, none⟩ = some (.int .i64 0) := (evt_cells Y4.out).2.1
  have y2 : w4.cell? ⟨w2.heap.size, 2, none⟩ = some (.int .i64 7) := (evt_cells Y4.out).2.2.1
  have y3 : w4.cell? ⟨w2.heap.size, 3, none⟩ = some (.int .i64 0) := (evt_cells Y4.out).2.2.2.1
  have y4 : w4.cell? ⟨w2.heap.size, 4, none⟩ = some (.int .i64 3) := (evt_cells Y4.out).2.2.2.2.1
  have y5 : w4.cell? ⟨w2.heap.size, 5, none⟩ = some (.int .i64 1) := (evt_cells Y4.out).2.2.2.2.2.1
  have y6 : w4.cell? ⟨w2.heap.size, 6, none⟩ = some (.int .i64 2) := (evt_cells Y4.out).2.2.2.2.2.2.1
  have y7 : w4.cell? ⟨w2.heap.size, 7, none⟩ = some (.int .i64 0) := (evt_cells Y4.out).2.2.2.2.2.2.2
  clear X4 Y4
  go_wp2_with fail
  go_ret
  exact ⟨rfl, hB4.out⟩
end Go.Proofs.YthpijibcfkcenaaDoor
