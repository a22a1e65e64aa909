/- What must come of package record, whatever the arguments are. Conditions: none. -/
import Derived.Test.YtgooepfhapaenaaGreatRec
namespace Go.Proofs.YtgooepfhapaenaaGreat
open Go.ChangeShapes Go.WideShapes Go.ChangeAt Go.RowKit
set_option linter.unusedVariables false
set_option maxRecDepth 100000
set_option linter.unusedSimpArgs false
set_option maxHeartbeats 4000000

def awR : Rec := ⟨1, 2, ⟨5, 0, 3, 0, 0, zero3⟩⟩
theorem awR_check : checkR awR = 0 := by kernel_rfl
theorem awR_body : bodyR awR = [1, 2, 5, 3] := by
  have h1 : varL 1 = [1] := by rw [varL_lt (by omega)]; rfl
  have h2 : varL 2 = [2] := by rw [varL_lt (by omega)]; rfl
  have h3 : varL 3 = [3] := by rw [varL_lt (by omega)]; rfl
  show varL 1 ++ (varL 2 ++ (UInt8.ofNat 5 :: (varL 3 ++ []))) = _
  rw [h1, h2, h3]; rfl
theorem seal_mid (b : List UInt8) (h : b.length ≤ 200) : ((sealL b).take (b.length + 3)).drop 3 = b := by
  have h1 := openB_seal b [] h
  have h2 := open_seal b [] h
  have h3 := told_seal b [] h
  unfold openB at h1
  rw [if_pos h2, h3, List.append_nil] at h1
  rw [List.drop_take, show b.length + 3 - 3 = b.length by omega]
  exact h1
theorem record_awake (w : World) : Calls Tryz.prog 4 #[] w fun e w' => e = .returned (.bool true) ∧ Below w.heap.size w w' := by
  have hln : (sealL (bodyR awR)).length = 11 := by rw [sealL_length, awR_body]; rfl
  have hT : (bs (sealL (bodyR awR))).size = 11 := by rw [bs_size]; exact hln
  have S1 := Lib.hid (show ∀ w', Calls Tryz.prog 5 #[(.agg #[.int .i64 1, .int .i64 2, .int .i64 5, .int .i64 0, .int .i64 3, .int .i64 0, .int .i64 0, .int .i64 0, .int .i64 0, .int .i64 0])] w' fun e w'' => e = .returned (.tuple #[.string (bs (sealL (bodyR awR))), .int .i64 0]) ∧ Below w'.heap.size w' w'' from fun w' => by
    have := reseal_any awR w' (checkR_fits awR_check)
    rw [sealR_ok awR_check] at this
    exact this)
  have S2 := Lib.hid (show ∀ w', Calls Tryz.prog 5 #[(.agg #[.int .i64 0, .int .i64 0, .int .i64 0, .int .i64 0, .int .i64 0, .int .i64 0, .int .i64 0, .int .i64 0, .int .i64 0, .int .i64 0])] w' fun e w'' => e = .returned (.tuple #[.string (bs []), .int .i64 1]) ∧ Below w'.heap.size w' w'' from fun w' => reseal_any zeroR w' (by unfold Rec.ok zeroR zeroE Evt.ok V3.ok zero3 inI; simp))
  have K1 := Lib.hid (show ∀ w', Calls Tryz.prog 9 #[(.agg #[.int .i64 1, .int .i64 2, .int .i64 5, .int .i64 0, .int .i64 3, .int .i64 0, .int .i64 0, .int .i64 0, .int .i64 0, .int .i64 0])] w' fun e w'' => e = .returned (.int .i64 0) ∧ Below w'.heap.size w' w'' from fun w' => by
    have := recheck_any awR w' (checkR_fits awR_check)
    rw [awR_check] at this
    exact this)
  have P1 := Lib.hid (show ∀ w', Calls Tryz.prog 7 #[.string (bs (sealL (bodyR awR)) ++ ByteArray.mk #[120])] w' fun e w'' => e = .returned (.tuple #[(.agg #[.int .i64 1, .int .i64 2, .int .i64 5, .int .i64 0, .int .i64 3, .int .i64 0, .int .i64 0, .int .i64 0, .int .i64 0, .int .i64 0]), .int .i64 11, .int .i64 0]) ∧ Below w'.heap.size w' w'' from fun w' => by
    have e : bs (sealL (bodyR awR)) ++ ByteArray.mk #[120] = bs (sealL (bodyR awR) ++ [120]) := bs_append _ [120]
    have := reopen_any (bs (sealL (bodyR awR) ++ [120])) w' (by rw [bs_size, List.length_append, hln]; simp)
    rw [bs_list, rec_back awR_check, hln] at this
    rw [e]
    exact this)
  have dx : ((((bs (sealL (bodyR awR))).extract 3 7).toList) == [1, 2, 5, 3]) = true := by
    have h := seal_mid (bodyR awR) (by rw [awR_body]; simp)
    rw [show (bodyR awR).length + 3 = 7 by rw [awR_body]; rfl] at h
    have h2 : ((bs (sealL (bodyR awR))).extract 3 7) = bs (bodyR awR) := by
      have : ((bs (sealL (bodyR awR))).extract 3 7).data.toList = bodyR awR := by rw [extract_list, bs_list, h]
      exact ByteArray.ext (Array.toList_inj.1 (this.trans (bs_list _).symm))
    rw [h2, bs_toList, awR_body]
    rfl
  have ER : ∀ w' : World, (binOp .eql 27 (.agg #[.int .i64 1, .int .i64 2, .int .i64 5, .int .i64 0, .int .i64 3, .int .i64 0, .int .i64 0, .int .i64 0, .int .i64 0, .int .i64 0]) (.agg #[.int .i64 1, .int .i64 2, .int .i64 5, .int .i64 0, .int .i64 3, .int .i64 0, .int .i64 0, .int .i64 0, .int .i64 0, .int .i64 0])).run Tryz.prog w' = .ok (.bool true) w' := fun w' => eqlR_run w' awR awR
  have EG := fun (w' : World) (a b : Operand) => eqlR_guard w' awR awR a b
  unfold Rec.val at EG
  have al : ∀ (X : Obj) (a : World), Below w.heap.size w a → Below w.heap.size w (a.alloc X) := fun X a h => h.alloc h.size X
  generalize bs (sealL (bodyR awR)) = T at *
  clear hln
  simp only [awR, zero3] at EG
  go_enter Tryz.func4, Tryz.ntmps4
  go_wp2_with fail
  refine (S1.out _).mono ?_; rintro e w1 ⟨rfl, hB⟩
  rw [World.size_alloc] at hB
  have X1 := Lib.hid (blk_below hB (blk_new w (.cells awR.cells 27)) (by omega))
  have hB1 : Below w.heap.size w w1 := (al _ _ (Below.refl _ _)).trans (hB.mono (by omega))
  have hl1 : w.heap.size + 1 ≤ w1.heap.size := by have := hB.size; simpa using this
  clear hB
  go_wp2_with fail
  refine (P1.out _).mono ?_; rintro e w2 ⟨rfl, hB⟩
  have hl2 : w1.heap.size ≤ w2.heap.size := hB.size
  have X2 := Lib.hid (blk_old (.cells awR.cells 27) (blk_below hB X1.out (by omega)))
  have hB2 := al (.cells awR.cells 27) _ (hB1.trans (hB.mono (by omega)))
  have Y2 := Lib.hid (blk_new w2 (.cells awR.cells 27))
  clear hB hB1 X1
  go_wp2_with fail
  refine (S2.out _).mono ?_; rintro e w3 ⟨rfl, hB⟩
  rw [World.size_alloc] at hB
  have X3 := Lib.hid (blk_below hB X2.out (by omega))
  have Y3 := Lib.hid (blk_below hB Y2.out (by omega))
  have hB3 := Lib.hid (hB2.trans (hB.mono (by omega)))
  clear hB hB2 X2 Y2
  obtain ⟨x0, x1, x2, x3, x4, x5, x6, x7, x8, x9⟩ := rec_cells X3.out
  obtain ⟨y0, y1, y2, y3, y4, y5, y6, y7, y8, y9⟩ := rec_cells Y3.out
  simp only [awR, zero3] at x0 x1 x2 x3 x4 x5 x6 x7 x8 x9 y0 y1 y2 y3 y4 y5 y6 y7 y8 y9
  clear X3 Y3
  go_wp2_with fail
  refine (K1.out _).mono ?_; rintro e w4 ⟨rfl, hB⟩
  have hB4 := Lib.hid (hB3.out.trans (hB.mono hB3.out.size))
  clear hB x0 x1 x2 x3 x4 x5 x6 x7 x8 x9 y0 y1 y2 y3 y4 y5 y6 y7 y8 y9
  go_wp2_with fail
  go_ret
  exact ⟨rfl, hB4.out⟩
end Go.Proofs.YtgooepfhapaenaaGreat
