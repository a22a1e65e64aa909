/- What must come of package event, whatever the arguments are. Conditions: none. -/
import Derived.Test.YtkahdmhgfojbiaaEvt
namespace Go.Proofs.Ytkahdmhgfojbiaa
open Go.ChangeShapes Go.WideShapes Go.ChangeAt Go.RowKit
set_option linter.unusedVariables false
set_option maxRecDepth 100000
set_option linter.unusedSimpArgs false
set_option maxHeartbeats 2000000

theorem eqlE_run (w : World) (a b : Evt) : (binOp .eql 25 a.val b.val).run Try.prog w = .ok (.bool (eqE a b)) w := by
  unfold Evt.val
  rw [run_eql_struct, eqE_run]
  rfl
theorem eqlE_guard (w : World) (a b : Evt) (x y : Operand) : (eqGuard .eql 25 x y a.val b.val).run Try.prog w = .ok () w := run_eqGuard_agg w .eql 25 x y _ _ (by kernel_rfl)
theorem eqE_self (a : Evt) : eqE a a = true := (eqE_iff a a).2 rfl
def awE : Evt := ⟨5, 0, 300, 0, 0, zero3⟩
theorem awE_ok : awE.ok := by unfold awE Evt.ok V3.ok zero3 inI; simp
theorem aw_put : putE awE = ([5, 172, 2], 0) := by
  have hc : checkE awE = 0 := by kernel_rfl
  have e : varL 300 = [172, 2] := by rw [varL_ge (by omega), varL_lt (by omega)]; rfl
  unfold putE
  rw [if_pos hc]
  have hb : bytesE awE = [5, 172, 2] := by
    show UInt8.ofNat 5 :: (varL 300 ++ []) = _
    rw [e]; rfl
  rw [hb]
theorem event_awake (w : World) : Calls Try.prog 12 #[] w fun e w' => e = .returned (.bool true) ∧ Below w.heap.size w w' := by
  have P1 := Lib.hid (show ∀ w', Calls Try.prog 6 #[(.agg #[.int .i64 5, .int .i64 0, .int .i64 300, .int .i64 0, .int .i64 0, .int .i64 0, .int .i64 0, .int .i64 0])] w' fun e w'' => e = .returned (.tuple #[.string (bs [5, 172, 2]), .int .i64 0]) ∧ Below w'.heap.size w' w'' from fun w' => by have := evput_any awE w' awE_ok; rw [aw_put] at this; exact this)
  have e1 : getE (bs [5, 172, 2]).data.toList = (awE, 0) := by rw [bs_list]; kernel_rfl
  have e2 : getE (bs [5, 172, 2] ++ ByteArray.mk #[120]).data.toList = (zeroE, 2) := by
    rw [show bs [5, 172, 2] ++ ByteArray.mk #[120] = bs [5, 172, 2, 120] from bs_append [5, 172, 2] [120], bs_list]; kernel_rfl
  have G1 := Lib.hid (show ∀ w', Calls Try.prog 13 #[.string (bs [5, 172, 2])] w' fun e w'' => e = .returned (.tuple #[(.agg #[.int .i64 5, .int .i64 0, .int .i64 300, .int .i64 0, .int .i64 0, .int .i64 0, .int .i64 0, .int .i64 0]), .int .i64 0]) ∧ Below w'.heap.size w' w'' from fun w' => by have := evget_any (bs [5, 172, 2]) w' (by rw [bs_size]; simp); rw [e1] at this; exact this)
  have G2 := Lib.hid (show ∀ w', Calls Try.prog 13 #[.string (bs [5, 172, 2] ++ ByteArray.mk #[120])] w' fun e w'' => e = .returned (.tuple #[(.agg #[.int .i64 0, .int .i64 0, .int .i64 0, .int .i64 0, .int .i64 0, .int .i64 0, .int .i64 0, .int .i64 0]), .int .i64 2]) ∧ Below w'.heap.size w' w'' from fun w' => by have := evget_any (bs [5, 172, 2] ++ ByteArray.mk #[120]) w' (by rw [ByteArray.size_append, bs_size]; decide); rw [e2] at this; exact this)
  have K1 := Lib.hid (show ∀ w', Calls Try.prog 8 #[(.agg #[.int .i64 8, .int .i64 0, .int .i64 0, .int .i64 0, .int .i64 0, .int .i64 0, .int .i64 0, .int .i64 0])] w' fun e w'' => e = .returned (.int .i64 5) ∧ Below w'.heap.size w' w'' from fun w' => evcheck_any ⟨8, 0, 0, 0, 0, zero3⟩ w' (by unfold Evt.ok V3.ok zero3 inI; simp))
  have U1 := Lib.hid (show ∀ w', Calls Try.prog 10 #[(.agg #[.int .i64 5, .int .i64 0, .int .i64 1, .int .i64 2, .int .i64 0, .int .i64 0, .int .i64 0, .int .i64 0])] w' fun e w'' => e = .returned (.agg #[.int .i64 5, .int .i64 0, .int .i64 1, .int .i64 0, .int .i64 0, .int .i64 0, .int .i64 0, .int .i64 0]) ∧ Below w'.heap.size w' w'' from fun w' => evpure_any ⟨5, 0, 1, 2, 0, zero3⟩ w' (by unfold Evt.ok V3.ok zero3 inI; simp))
  have ER : ∀ w' : World, (Op.equalIn 9999 23 (.agg #[.int .i64 0, .int .i64 0, .int .i64 0]) (.agg #[.int .i64 0, .int .i64 0, .int .i64 0])).run Try.prog w' = .ok true w' := fun w' => eqRes_run w' zero3 zero3
  have deq : ((bs [5, 172, 2]).toList == [5, 172, 2]) = true := by rw [bs_toList]; rfl
  clear e1 e2
  have al : ∀ (X : Obj) (a : World), Below w.heap.size w a → Below w.heap.size w (a.alloc X) := fun X a h => h.alloc h.size X
  go_enter Try.func12, Try.ntmps12
  go_wp2_with fail
  refine (P1.out _).mono ?_; rintro e w1 ⟨rfl, hB⟩
  rw [World.size_alloc] at hB
  have X1 := Lib.hid (blk_below hB (blk_new w (.cells awE.cells 25)) (by omega))
  have hB1 : Below w.heap.size w w1 := (al _ _ (Below.refl _ _)).trans (hB.mono (by omega))
  have hl1 : w.heap.size + 1 ≤ w1.heap.size := by have := hB.size; simpa using this
  clear hB
  go_wp2_with fail
  refine (G1.out _).mono ?_; rintro e w2 ⟨rfl, hB⟩
  have hl2 : w1.heap.size ≤ w2.heap.size := hB.size
  have X2 := Lib.hid (blk_old (.cells awE.cells 25) (blk_below hB X1.out (by omega)))
  have hB2 := al (.cells awE.cells 25) _ (hB1.trans (hB.mono (by omega)))
  have Y2 := Lib.hid (blk_new w2 (.cells awE.cells 25))
  clear hB hB1 X1
  go_wp2_with fail
  refine (G2.out _).mono ?_; rintro e w3 ⟨rfl, hB⟩
  rw [World.size_alloc] at hB
  have hl3 : w2.heap.size + 1 ≤ w3.heap.size := by have := hB.size; simpa using this
  have X3 := Lib.hid (blk_old (.cells zeroE.cells 25) (blk_below hB X2.out (by omega)))
  have Y3 := Lib.hid (blk_old (.cells zeroE.cells 25) (blk_below hB Y2.out (by omega)))
  have hB3 := Lib.hid (al (.cells zeroE.cells 25) _ (hB2.trans (hB.mono (by omega))))
  clear hB hB2 X2 Y2
  have x0 : (w3.alloc (.cells #[.int .i64 0, .int .i64 0, .int .i64 0, .int .i64 0, .int .i64 0, .int .i64 0, .int .i64 0, .int .i64 0] 25)).cell? ⟨w.heap.size, 0, none⟩ = some (.int .i64 5) := (evt_cells X3.out).1
  have x1 : (w3.alloc (.cells #[.int .i64 0, .int .i64 0, .int .i64 0, .int .i64 0, .int .i64 0, .int .i64 0, .int .i64 0, .int .i64 0] 25)).cell? ⟨w.heap.size, 1, none⟩ = some (.int .i64 0) := (evt_cells X3.out).2.1
  have x2 : (w3.alloc (.cells #[.int .i64 0, .int .i64 0, .int .i64 0, .int .i64 0, .int .i64 0, .int .i64 0, .int .i64 0, .int .i64 0] 25)).cell? ⟨w.heap.size, 2, none⟩ = some (.int .i64 300) := (evt_cells X3.out).2.2.1
  have x3 : (w3.alloc (.cells #[.int .i64 0, .int .i64 0, .int .i64 0, .int .i64 0, .int .i64 0, .int .i64 0, .int .i64 0, .int .i64 0] 25)).cell? ⟨w.heap.size, 3, none⟩ = some (.int .i64 0) := (evt_cells X3.out).2.2.2.1
  have x4 : (w3.alloc (.cells #[.int .i64 0, .int .i64 0, .int .i64 0, .int .i64 0, .int .i64 0, .int .i64 0, .int .i64 0, .int .i64 0] 25)).cell? ⟨w.heap.size, 4, none⟩ = some (.int .i64 0) := (evt_cells X3.out).2.2.2.2.1
  have x5 : (w3.alloc (.cells #[.int .i64 0, .int .i64 0, .int .i64 0, .int .i64 0, .int .i64 0, .int .i64 0, .int .i64 0, .int .i64 0] 25)).cell? ⟨w.heap.size, 5, none⟩ = some (.int .i64 0) := (evt_cells X3.out).2.2.2.2.2.1
  have x6 : (w3.alloc (.cells #[.int .i64 0, .int .i64 0, .int .i64 0, .int .i64 0, .int .i64 0, .int .i64 0, .int .i64 0, .int .i64 0] 25)).cell? ⟨w.heap.size, 6, none⟩ = some (.int .i64 0) := (evt_cells X3.out).2.2.2.2.2.2.1
  have x7 : (w3.alloc (.cells #[.int .i64 0, .int .i64 0, .int .i64 0, .int .i64 0, .int .i64 0, .int .i64 0, .int .i64 0, .int .i64 0] 25)).cell? ⟨w.heap.size, 7, none⟩ = some (.int .i64 0) := (evt_cells X3.out).2.2.2.2.2.2.2
  have y0 : (w3.alloc (.cells #[.int .i64 0, .int .i64 0, .int .i64 0, .int .i64 0, .int .i64 0, .int .i64 0, .int .i64 0, .int .i64 0] 25)).cell? ⟨w2.heap.size, 0, none⟩ = some (.int .i64 5) := (evt_cells Y3.out).1
  have y1 : (w3.alloc (.cells #[.int .i64 0, .int .i64 0, .int .i64 0, .int .i64 0, .int .i64 0, .int .i64 0, .int .i64 0, .int .i64 0] 25)).cell? ⟨w2.heap.size, 1, none⟩ = some (.int .i64 0) := (evt_cells Y3.out).2.1
  have y2 : (w3.alloc (.cells #[.int .i64 0, .int .i64 0, .int .i64 0, .int .i64 0, .int .i64 0, .int .i64 0, .int .i64 0, .int .i64 0] 25)).cell? ⟨w2.heap.size, 2, none⟩ = some (.int .i64 300) := (evt_cells Y3.out).2.2.1
  have y3 : (w3.alloc (.cells #[.int .i64 0, .int .i64 0, .int .i64 0, .int .i64 0, .int .i64 0, .int .i64 0, .int .i64 0, .int .i64 0] 25)).cell? ⟨w2.heap.size, 3, none⟩ = some (.int .i64 0) := (evt_cells Y3.out).2.2.2.1
  have y4 : (w3.alloc (.cells #[.int .i64 0, .int .i64 0, .int .i64 0, .int .i64 0, .int .i64 0, .int .i64 0, .int .i64 0, .int .i64 0] 25)).cell? ⟨w2.heap.size, 4, none⟩ = some (.int .i64 0) := (evt_cells Y3.out).2.2.2.2.1
  have y5 : (w3.alloc (.cells #[.int .i64 0, .int .i64 0, .int .i64 0, .int .i64 0, .int .i64 0, .int .i64 0, .int .i64 0, .int .i64 0] 25)).cell? ⟨w2.heap.size, 5, none⟩ = some (.int .i64 0) := (evt_cells Y3.out).2.2.2.2.2.1
  have y6 : (w3.alloc (.cells #[.int .i64 0, .int .i64 0, .int .i64 0, .int .i64 0, .int .i64 0, .int .i64 0, .int .i64 0, .int .i64 0] 25)).cell? ⟨w2.heap.size, 6, none⟩ = some (.int .i64 0) := (evt_cells Y3.out).2.2.2.2.2.2.1
  have y7 : (w3.alloc (.cells #[.int .i64 0, .int .i64 0, .int .i64 0, .int .i64 0, .int .i64 0, .int .i64 0, .int .i64 0, .int .i64 0] 25)).cell? ⟨w2.heap.size, 7, none⟩ = some (.int .i64 0) := (evt_cells Y3.out).2.2.2.2.2.2.2
  clear X3 Y3
  go_wp2_with fail
  refine (K1.out _).mono ?_; rintro e w4 ⟨rfl, hB⟩
  have hB4 := Lib.hid (hB3.out.trans (hB.mono hB3.out.size))
  clear hB x0 x1 x2 x3 x4 x5 x6 x7 y0 y1 y2 y3 y4 y5 y6 y7
  go_wp2_with fail
  refine (U1.out _).mono ?_; rintro e w5 ⟨rfl, hB⟩
  have hB5 := Lib.hid (hB4.out.trans (hB.mono hB4.out.size))
  clear hB
  go_wp2_with fail
  go_ret
  exact ⟨rfl, hB5.out⟩
end Go.Proofs.Ytkahdmhgfojbiaa
