/- The law RecordBack of the repository answers true for every input. No conditions. -/
import Derived.Test.YtgooepfhapaenaaRecW
import Derived.Test.YtgooepfhapaenaaRecArgs
import Derived.Test.YtgooepfhapaenaaCrcTurn
import Derived.Test.YtgooepfhapaenaaRows
import Derived.WalkKit
import Derived.ProofKit
import Derived.OpenShut
import Derived.Below
import Derived.ShutString
import Derived.Carry
import Derived.Test.YtgooepfhapaenaaArgs
namespace Go.Proofs.Ytgooepfhapaenaa.recordBack
open Go.ChangeShapes Go.WideShapes Go.ChangeAt Go.RowKit
open Go.ChangeMaps (open_string shut_string)
set_option linter.unusedVariables false
set_option linter.unusedSimpArgs false

theorem own : ownKnob Try.prog.godebug = none := by kernel_rfl
theorem laidOut : laidOutB Try.prog = true := by kernel_rfl
theorem op3 : Opens Try.prog 3 (.int .i64) := opens_int Try.underlying3
theorem op23 : Opens Try.prog 23 (Sh.rep (.int .i64) 3) := opens_array Try.underlying23 (by kernel_rfl) (by kernel_rfl) op3
theorem op25 : Opens Try.prog 25 (.pair (.int .i64) (.pair (.int .i64) (.pair (.int .i64) (.pair (.int .i64) (.pair (.int .i64) (.pair (Sh.rep (.int .i64) 3) .unit)))))) := opens_struct Try.underlying25 (by kernel_rfl) (fields_cons rfl (by kernel_rfl) op3 (fields_cons rfl (by kernel_rfl) op3 (fields_cons rfl (by kernel_rfl) op3 (fields_cons rfl (by kernel_rfl) op3 (fields_cons rfl (by kernel_rfl) op3 (fields_cons rfl (by kernel_rfl) op23 fields_nil))))))
theorem op27 : Opens Try.prog 27 (.pair (.int .i64) (.pair (.int .i64) (.pair (.pair (.int .i64) (.pair (.int .i64) (.pair (.int .i64) (.pair (.int .i64) (.pair (.int .i64) (.pair (Sh.rep (.int .i64) 3) .unit)))))) .unit))) := opens_struct Try.underlying27 (by kernel_rfl) (fields_cons rfl (by kernel_rfl) op3 (fields_cons rfl (by kernel_rfl) op3 (fields_cons rfl (by kernel_rfl) op25 fields_nil)))
theorem op5 : Opens Try.prog 5 (.int .u8) := opens_int Try.underlying5
theorem op28 : Opens Try.prog 28 (Sh.rep (.int .u8) 3) := opens_array Try.underlying28 (by kernel_rfl) (by kernel_rfl) op5

theorem has_bytes3 {w : World} {cs : Array Value} (h : Has w (Sh.rep (.int .u8) 3) cs.toList) : ∃ x y z : Nat, cs = #[.int .u8 x, .int .u8 y, .int .u8 z] ∧ x < 256 ∧ y < 256 ∧ z < 256 := by
  obtain ⟨a, b, e1, ⟨x, rfl, hx⟩, c, d, rfl, ⟨y, rfl, hy⟩, e, f, rfl, ⟨z, rfl, hz⟩, rfl⟩ := h
  have h1 := bounds_u8 hx
  have h2 := bounds_u8 hy
  have h3 := bounds_u8 hz
  refine ⟨x.toNat, y.toNat, z.toNat, ?_, by omega, by omega, by omega⟩
  rw [Int.toNat_of_nonneg (by omega), Int.toNat_of_nonneg (by omega), Int.toNat_of_nonneg (by omega)]
  apply Array.toList_inj.1
  simpa using e1

set_option maxRecDepth 100000 in
set_option maxHeartbeats 16000000 in
theorem walk (c0 : Array Value) (a1 : ByteArray) (c2 : Array Value) (w : World) (w0 : Has w (.pair (.int .i64) (.pair (.int .i64) (.pair (.pair (.int .i64) (.pair (.int .i64) (.pair (.int .i64) (.pair (.int .i64) (.pair (.int .i64) (.pair (Sh.rep (.int .i64) 3) .unit)))))) .unit))) c0.toList) (w1 : a1.size ≤ maxLen) (w2 : Has w (Sh.rep (.int .u8) 3) c2.toList) :
    Calls Try.prog 3 #[.agg c0, .string a1, .agg c2] w fun e w' => e = .returned (.bool true) ∧ Below w.heap.size w w' := by
  obtain ⟨r, hr, rfl⟩ := rec_came w0
  obtain ⟨x, y, z, rfl, hx, hy, hz⟩ := has_bytes3 w2
  have AW := Lib.hid fun w' => record_awake w'
  have hun : undef = Value.tuple #[] := rfl
  clear w0 w1 w2
  have hbx : (w.alloc (.cells r.cells 27)).heap[w.heap.size]? = some (.cells r.cells 27 (0, 0)) := blk_new w _
  have hba : Below w.heap.size w (w.alloc (.cells r.cells 27)) := (Below.refl _ _).alloc (Nat.le_refl _) _
  have hwx : ((w.alloc (.cells r.cells 27)).alloc (.cells #[.int .u8 x, .int .u8 y, .int .u8 z] 28)).heap[w.heap.size + 1]? = some (.cells #[.int .u8 x, .int .u8 y, .int .u8 z] 28 (0, 0)) := by
    have := blk_new (w.alloc (.cells r.cells 27)) (.cells #[.int .u8 x, .int .u8 y, .int .u8 z] 28)
    rwa [World.size_alloc] at this
  have hb2 : Below w.heap.size w ((w.alloc (.cells r.cells 27)).alloc (.cells #[.int .u8 x, .int .u8 y, .int .u8 z] 28)) := hba.alloc (by simp) _
  have hbx2 := blk_old (.cells #[.int .u8 x, .int .u8 y, .int .u8 z] 28) hbx
  have hrow : r.row.toArray = r.cells := rfl
  rw [hrow]
  have SE := Lib.hid fun w' => reseal_any r w' hr
  have HX0 := Lib.hid hbx2
  have HW0 := Lib.hid hwx
  have HB0 := Lib.hid hb2
  clear hbx hba hwx hb2 hbx2 hrow
  unfold Rec.val at SE
  unfold Rec.cells at HB0 ⊢
  by_cases hlen : a1.size ≤ 100
  case neg =>
    have dl : decide (a1.size > 100) = true := decide_eq_true (by omega)
    have dl2 : decide (100 < a1.size) = true := dl
    have dl3 : decide ((a1.size : Int) > 100) = true := decide_eq_true (by omega)
    have dl4 : decide (100 < (a1.size : Int)) = true := dl3
    clear hlen
    go_enter Try.func3, Try.ntmps3
    go_wp2_with fail
    refine (AW.out _).mono ?_; rintro e w1 ⟨rfl, hB⟩
    have hB1 := Lib.hid (HB0.out.trans (hB.mono HB0.out.size))
    clear hB
    go_wp2_with fail
    go_ret
    exact ⟨rfl, hB1.out⟩
  have dl : decide (a1.size > 100) = false := decide_eq_false (by omega)
  have dl2 : decide (100 < a1.size) = false := dl
  have dl3 : decide ((a1.size : Int) > 100) = false := decide_eq_false (by omega)
  have dl4 : decide (100 < (a1.size : Int)) = false := dl3
  obtain ⟨x0, x1, x2, x3, x4, x5, x6, x7, x8, x9⟩ := rec_cells HX0.out
  unfold Rec.cells at x0 x1 x2 x3 x4 x5 x6 x7 x8 x9
  by_cases hck : checkR r = 0
  case neg =>
    rw [sealR_no hck] at SE
    have dn : (checkR r != 0) = true := by simpa using hck
    generalize checkR r = q at *
    have dss : ((bs []).toList == []) = true := by rw [bs_toList]; rfl
    generalize bs [] = T at *
    clear hck hlen
    go_enter Try.func3, Try.ntmps3
    go_wp2_with fail
    refine (SE.out _).mono ?_; rintro e w1 ⟨rfl, hB⟩
    have hB1 := Lib.hid (HB0.out.trans (hB.mono HB0.out.size))
    clear hB x0 x1 x2 x3 x4 x5 x6 x7 x8 x9
    go_wp2_with fail
    refine (AW.out _).mono ?_; rintro e w2 ⟨rfl, hB⟩
    have hB2 := Lib.hid (hB1.out.trans (hB.mono hB1.out.size))
    clear hB
    go_wp2_with fail
    go_ret
    exact ⟨rfl, hB2.out⟩
  rw [sealR_ok hck] at SE
  have hln := bodyR_len hck
  have hsl := sealL_length (bodyR r)
  have hbz : (bs (sealL (bodyR r))).size = (sealL (bodyR r)).length := bs_size _
  have hOP : (openR (sealL (bodyR r) ++ a1.data.toList)) = (r, (sealL (bodyR r)).length, 0) := rec_back hck _
  have O1 := Lib.hid (show ∀ w', Calls Try.prog 6 #[.string (bs (sealL (bodyR r)) ++ a1)] w' fun e w'' => e = .returned (.tuple #[r.val, .int .i64 ((sealL (bodyR r)).length : Nat), .int .i64 0]) ∧ Below w'.heap.size w' w'' from fun w' => by
    have h := reopen_any (bs (sealL (bodyR r)) ++ a1) w' (by rw [ByteArray.size_append]; omega)
    have e : (bs (sealL (bodyR r)) ++ a1).data.toList = sealL (bodyR r) ++ a1.data.toList := by
      rw [ByteArray.data_append, Array.toList_append, bs_list]
    rw [e, hOP] at h
    exact h)
  obtain ⟨L, hL⟩ : ∃ L, L = (sealL (bodyR r)).length := ⟨_, rfl⟩
  have hC : (x : Int).tmod (L : Int) = ((x % L : Nat) : Int) := by rw [Int.tmod_eq_emod_of_nonneg (by omega)]; rfl
  have hK : (y : Int).tmod (L : Int) = ((y % L : Nat) : Int) := by rw [Int.tmod_eq_emod_of_nonneg (by omega)]; rfl
  have hCl : x % L < L := Nat.mod_lt x (by omega)
  have hKl : y % L < L := Nat.mod_lt y (by omega)
  obtain ⟨g, hg⟩ : ∃ g, g = openE ((sealL (bodyR r)).take (x % L)) := ⟨_, rfl⟩
  have hgn : g ≠ 0 := by rw [hg]; exact rec_cut hck _ (by omega)
  have O2 := Lib.hid (show ∀ w', Calls Try.prog 6 #[.string ((bs (sealL (bodyR r))).extract 0 (x % L))] w' fun e w'' => e = .returned (.tuple #[zeroR.val, .int .i64 0, .int .i64 g]) ∧ Below w'.heap.size w' w'' from fun w' => by
    have h := reopen_any ((bs (sealL (bodyR r))).extract 0 (x % L)) w' (by rw [ByteArray.size_extract]; omega)
    have e : ((bs (sealL (bodyR r))).extract 0 (x % L)).data.toList = (sealL (bodyR r)).take (x % L) := by rw [extract_list, bs_list]; rfl
    rw [e, open_bad (hg ▸ hgn), ← hg] at h
    exact h)
  have ER := fun w' => neR_run w' r r
  rw [eqR_self] at ER
  have EG := fun (w' : World) (a b : Operand) => neR_guard w' r r a b
  unfold Rec.val at O1 ER EG
  have O2' : Hid (∀ w', Calls Try.prog 6 #[.string ((bs (sealL (bodyR r))).extract 0 (x % L))] w' fun e w'' => e = .returned (.tuple #[.agg #[.int .i64 0, .int .i64 0, .int .i64 0, .int .i64 0, .int .i64 0, .int .i64 0, .int .i64 0, .int .i64 0, .int .i64 0, .int .i64 0], .int .i64 0, .int .i64 g]) ∧ Below w'.heap.size w' w'') := O2
  clear O2
  rw [← hL] at O1 hsl hbz
  have hL1 : 10 ≤ L := by omega
  have hL2 : L ≤ 43 := by omega
  have HLL := Lib.hid hL
  have HCK := Lib.hid hck
  have HGN := Lib.hid hgn
  have HKL := Lib.hid hKl
  clear hOP hg
  have dg : ((g : Int) == 0) = false := by
    have : ¬ ((g : Nat) : Int) = 0 := by omega
    simpa using this
  have dL : decide ((L : Int) < 8) = false := decide_eq_false (by omega)
  have dL2 : decide (L < 8) = false := decide_eq_false (by omega)
  clear hsl hln hL hck hgn
  go_enter Try.func3, Try.ntmps3
  generalize hTT : bs (sealL (bodyR r)) = T at *
  have HTT := Lib.hid hTT
  clear hTT
  go_wp2_with fail
  refine (SE.out _).mono ?_; rintro e w1 ⟨rfl, hB⟩
  have HX1 := Lib.hid (blk_below hB HX0.out (lt_of_block HX0.out))
  have HW1 := Lib.hid (blk_below hB HW0.out (lt_of_block HW0.out))
  have HB1 := Lib.hid (HB0.out.trans (hB.mono HB0.out.size))
  clear hB x0 x1 x2 x3 x4 x5 x6 x7 x8 x9 HX0 HW0 HB0 SE
  go_wp2_with fail
  refine (O1.out _).mono ?_; rintro e w2 ⟨rfl, hB⟩
  have HX2 := Lib.hid (blk_old (.cells r.cells 27) (blk_below hB HX1.out (lt_of_block HX1.out)))
  have HW2 := Lib.hid (blk_old (.cells r.cells 27) (blk_below hB HW1.out (lt_of_block HW1.out)))
  have HY2 := Lib.hid (blk_new w2 (.cells r.cells 27))
  have hb2 := HB1.out.trans (hB.mono HB1.out.size)
  have HB2 := Lib.hid (hb2.alloc hb2.size (.cells r.cells 27))
  obtain ⟨x0, x1, x2, x3, x4, x5, x6, x7, x8, x9⟩ := rec_cells HX2.out
  obtain ⟨y0, y1, y2, y3, y4, y5, y6, y7, y8, y9⟩ := rec_cells HY2.out
  have v0 := blk_cell HW2.out 0
  unfold Rec.cells at HB2 HW2 HX2 x0 x1 x2 x3 x4 x5 x6 x7 x8 x9 y0 y1 y2 y3 y4 y5 y6 y7 y8 y9 v0
  have v0' : _ = some (Value.int .u8 (x : Int)) := v0
  clear hB hb2 HX1 HW1 HB1 HY2 v0 O1
  go_wp2_with fail
  refine (O2'.out _).mono ?_; rintro e w3 ⟨rfl, hB⟩
  have HX3 := Lib.hid (blk_old (.cells zeroR.cells 27) (blk_below hB HX2.out (lt_of_block HX2.out)))
  have HW3 := Lib.hid (blk_old (.cells zeroR.cells 27) (blk_below hB HW2.out (lt_of_block HW2.out)))
  have hb3 := HB2.out.trans (hB.mono HB2.out.size)
  have HB3 := Lib.hid (hb3.alloc hb3.size (.cells zeroR.cells 27))
  have u1 : (w3.alloc (.cells zeroR.cells 27)).cell? ⟨w.heap.size + 1, 1, none⟩ = some (.int .u8 (y : Int)) := by rw [blk_cell HW3.out]; rfl
  have u2 : (w3.alloc (.cells zeroR.cells 27)).cell? ⟨w.heap.size + 1, 2, none⟩ = some (.int .u8 (z : Int)) := by rw [blk_cell HW3.out]; rfl
  unfold zeroR Rec.cells zeroE zero3 at HX3 HW3 HB3 u1 u2
  clear hB hb3 HX2 HW2 HB2 x0 x1 x2 x3 x4 x5 x6 x7 x8 x9 y0 y1 y2 y3 y4 y5 y6 y7 y8 y9 v0' O2' ER EG hC dL dL2
  by_cases hz0 : z = 0
  · subst hz0
    have dz : (((0 : Nat) : Int) == 0) = true := rfl
    clear hz HW3 HX3
    go_wp2_with fail
    refine (AW.out _).mono ?_; rintro e w5 ⟨rfl, hB⟩
    have hB5 := Lib.hid (HB3.out.trans (hB.mono HB3.out.size))
    clear hB u1 u2
    go_wp2_with fail
    go_ret
    exact ⟨rfl, hB5.out⟩
  have dz : ((z : Int) == 0) = false := beq_false_of_ne (by omega)
  by_cases hk1 : y % L = 1
  · have dk : ((1 : Int) == 1) = true := rfl
    rw [hk1] at hK
    clear hz HW3 HX3 hk1 HKL hKl
    go_wp2_with fail
    refine (AW.out _).mono ?_; rintro e w5 ⟨rfl, hB⟩
    have hB5 := Lib.hid (HB3.out.trans (hB.mono HB3.out.size))
    clear hB u1 u2
    go_wp2_with fail
    go_ret
    exact ⟨rfl, hB5.out⟩
  by_cases hk2 : y % L = 2
  · have dk : ((2 : Int) == 2) = true := rfl
    rw [hk2] at hK
    clear hz HW3 HX3 hk1 hk2 HKL hKl
    go_wp2_with fail
    refine (AW.out _).mono ?_; rintro e w5 ⟨rfl, hB⟩
    have hB5 := Lib.hid (HB3.out.trans (hB.mono HB3.out.size))
    clear hB u1 u2
    go_wp2_with fail
    go_ret
    exact ⟨rfl, hB5.out⟩
  have dk1 : (((y % L : Nat) : Int) == 1) = false := beq_false_of_ne (by omega)
  have dk2 : (((y % L : Nat) : Int) == 2) = false := beq_false_of_ne (by omega)
  generalize y % L = k at *
  have HB4 := Lib.hid (show Below w.heap.size w (w3.alloc (.cells #[.int .i64 0, .int .i64 0, .int .i64 0, .int .i64 0, .int .i64 0, .int .i64 0, .int .i64 0, .int .i64 0, .int .i64 0, .int .i64 0] 27)) from HB3.out)
  have hlt : w.heap.size + 1 < w3.heap.size + 1 := by have := lt_of_block HW3.out; simpa using this
  obtain ⟨cap4, w5, hcv, hcap, hbb, hb5⟩ := conv_bytes (w3.alloc (.cells #[.int .i64 0, .int .i64 0, .int .i64 0, .int .i64 0, .int .i64 0, .int .i64 0, .int .i64 0, .int .i64 0, .int .i64 0, .int .i64 0] 27)) T
  rw [← HTT.out, bs_list] at hbb
  rw [World.size_alloc] at hcv hbb hb5
  have hkl : k < (sealL (bodyR r)).length := by rw [← HLL.out]; exact HKL.out
  have c5 := hbb.cell k hkl
  have f5 := hbb.free k hkl
  have u5 : w5.cell? ⟨w.heap.size + 1, 2, none⟩ = some (.int .u8 (z : Int)) := (hb5.cell (p := ⟨w.heap.size + 1, 2, none⟩) hlt).trans u2
  have hxb : bits .xor .u8 (((sealL (bodyR r))[k]).toNat : Int) (z : Int) = (((sealL (bodyR r))[k] ^^^ UInt8.ofNat z).toNat : Nat) := by
    rw [u8_xor_nat _ _ ((sealL (bodyR r))[k]).toNat_lt (by omega), UInt8.toNat_xor, byte_of, Nat.mod_eq_of_lt hz]
  have hy : (sealL (bodyR r))[k] ≠ (sealL (bodyR r))[k] ^^^ UInt8.ofNat z := by
    intro e
    have e2 := congrArg UInt8.toNat e
    rw [UInt8.toNat_xor, byte_of, Nat.mod_eq_of_lt hz] at e2
    have : (sealL (bodyR r))[k].toNat ^^^ z = (sealL (bodyR r))[k].toNat ^^^ 0 := by rw [Nat.xor_zero]; exact e2.symm
    have := xor_inj this
    omega
  obtain ⟨g2, hg2⟩ : ∃ g, g = openE ((sealL (bodyR r)).set k ((sealL (bodyR r))[k] ^^^ UInt8.ofNat z) ++ a1.data.toList) := ⟨_, rfl⟩
  have hgn2 : g2 ≠ 0 := by rw [hg2]; exact rec_turned HCK.out _ k hkl hk1 hk2 _ hy
  have hll : ((sealL (bodyR r)).set k ((sealL (bodyR r))[k] ^^^ UInt8.ofNat z)).length = L := by rw [List.length_set, ← HLL.out]
  have O3 : Hid (∀ w', Calls Try.prog 6 #[.string (bs ((sealL (bodyR r)).set k ((sealL (bodyR r))[k] ^^^ UInt8.ofNat z)) ++ a1)] w' fun e w'' => e = .returned (.tuple #[.agg #[.int .i64 0, .int .i64 0, .int .i64 0, .int .i64 0, .int .i64 0, .int .i64 0, .int .i64 0, .int .i64 0, .int .i64 0, .int .i64 0], .int .i64 0, .int .i64 g2]) ∧ Below w'.heap.size w' w'') := Lib.hid fun w' => by
    have h := reopen_any (bs ((sealL (bodyR r)).set k ((sealL (bodyR r))[k] ^^^ UInt8.ofNat z)) ++ a1) w' (by rw [ByteArray.size_append, bs_size]; omega)
    have e : (bs ((sealL (bodyR r)).set k ((sealL (bodyR r))[k] ^^^ UInt8.ofNat z)) ++ a1).data.toList = (sealL (bodyR r)).set k ((sealL (bodyR r))[k] ^^^ UInt8.ofNat z) ++ a1.data.toList := by
      rw [ByteArray.data_append, Array.toList_append, bs_list]
    rw [e, open_bad (hg2 ▸ hgn2), ← hg2] at h
    exact h
  have hset := BB.set (w := w5.drew) hbb k hkl ((sealL (bodyR r))[k] ^^^ UInt8.ofNat z)
  have hcb := conv_back _ _ cap4 _ hset
  rw [hll] at hcb
  have hz2 : (bs ((sealL (bodyR r)).set k ((sealL (bodyR r))[k] ^^^ UInt8.ofNat z))).size = L := by rw [bs_size]; exact hll
  have HB5 := Lib.hid (HB4.out.trans (hb5.mono (by have := HB4.out.size; simpa using this)))
  have dgn : ((g2 : Int) != 0) = true := by
    have : ¬ ((g2 : Nat) : Int) = 0 := by omega
    simpa using this
  have ER := fun w' => eqlR_run w' zeroR zeroR
  rw [eqR_self] at ER
  have EG := fun (w' : World) (a b : Operand) => eqlR_guard w' zeroR zeroR a b
  simp only [Rec.val, zeroR, zeroE, zero3] at ER EG
  clear hk1 hk2 hg2 hgn2 hy hbb hb5 hset hll HB3 HX3 HW3
  rw [hbz] at hcv
  generalize bs ((sealL (bodyR r)).set k ((sealL (bodyR r))[k] ^^^ UInt8.ofNat z)) = T2 at *
  generalize (sealL (bodyR r))[k] ^^^ UInt8.ofNat z = v at *
  generalize (sealL (bodyR r))[k] = q at *
  clear hkl
  have hkL := HKL.out
  have hkI : (k : Int) < (L : Int) := by omega
  go_wp2_with fail
  clear u1 u2 hcv
  have dkL : decide (L ≤ k) = false := decide_eq_false (by omega)
  go_still_tail 10, (by kernel_rfl)
  change wpList _ _ _ _ _ w5.drew
  have c6 : w5.drew.cell? ⟨w3.heap.size + 1, k, none⟩ = _ := c5
  have f6 : w5.drew.frozen? ⟨w3.heap.size + 1, k, none⟩ = false := f5
  have HB6 := Lib.hid (show Below w.heap.size w (w5.drew.setCell ⟨w3.heap.size + 1, k, none⟩ (.int .u8 (v.toNat : Nat))) from HB5.out.drew.setCell (p := ⟨w3.heap.size + 1, k, none⟩) (show w.heap.size ≤ w3.heap.size + 1 by omega) _)
  clear c5 f5 u5
  generalize w5.drew = w6 at *
  go_wp2_with fail
  refine (O3.out _).mono ?_; rintro e w7 ⟨rfl, hB⟩
  have hb7 := HB6.out.trans (hB.mono HB6.out.size)
  have HB7 := Lib.hid (hb7.alloc hb7.size (.cells zeroR.cells 27))
  have HY7 := blk_new w7 (.cells zeroR.cells 27)
  obtain ⟨y0, y1, y2, y3, y4, y5, y6, y7, y8, y9⟩ := rec_cells HY7
  simp only [Rec.cells, zeroR, zeroE, zero3] at HB7 y0 y1 y2 y3 y4 y5 y6 y7 y8 y9
  clear hB hb7 HY7 O3 HB6 hcb c6 f6
  go_wp2_with fail
  refine (AW.out _).mono ?_; rintro e w8 ⟨rfl, hB⟩
  have hB8 := Lib.hid (HB7.out.trans (hB.mono HB7.out.size))
  clear hB y0 y1 y2 y3 y4 y5 y6 y7 y8 y9
  go_wp2_with fail
  go_ret
  exact ⟨rfl, hB8.out⟩

set_option maxRecDepth 100000 in
theorem lifted (os : Os) (started : os.Started) (H : Type) (enc : TypeId × Value → H) :
    ReturnsInHanded {} Try.checked os 3 .any (Rows.recordBackSpec.pre6 enc Try.prog Try.f3 Rows.recordBackRow.domain false) (Rows.recordBackSpec.post enc Try.prog Try.f3 false true false false) := by
  refine returnsInHanded_of_change (C := Try.checked) own started (by kernel_rfl) Try.func3
    (ChangeSpec.witness6 (enc := enc) (C := Try.checked) false ⟨#[], #[.agg #[.int .i64 0, .int .i64 0, .int .i64 0, .int .i64 0, .int .i64 0, .int .i64 0, .int .i64 0, .int .i64 0, .int .i64 0, .int .i64 0], .string ByteArray.empty, .agg #[.int .u8 0, .int .u8 0, .int .u8 0]], []⟩ 8 (by kernel_rfl) (by kernel_rfl) (by kernel_rfl) (by kernel_rfl)) ?_
  intro W base args ds gs before hval0 hW hcnd _
  have hval : ∀ (j : Nat) t v, Try.f3.params[j]? = some t → args[j]? = some v → Value.okWide Try.prog W .any base t v := hval0
  have hW' := hW
  obtain ⟨p, q, hA0, hV, rfl, hfz, hnd⟩ := hW
  have hA : DataW.TrodAll enc Try.prog W 0 (fun _ => true) true Try.f3.params.toList args.toList ds p := hA0
  rw [Try.params3] at hA hval
  obtain ⟨v0, vs0, d0, ds0, p0, q0, hargs, rfl, rfl, h0, r0⟩ := trodAll_cons hA
  obtain ⟨v1, vs1, d1, ds1, p1, q1, rfl, rfl, rfl, h1, r1⟩ := trodAll_cons r0
  obtain ⟨v2, vs2, d2, ds2, p2, q2, rfl, rfl, rfl, h2, r2⟩ := trodAll_cons r1
  obtain ⟨rfl, rfl, rfl⟩ := trodAll_nil r2
  obtain rfl : args = #[v0, v1, v2] := by cases args; simp_all
  obtain ⟨rfl, rfl⟩ := trodVars_none hV
  obtain ⟨c0, rfl, _⟩ := okWide_struct Try.underlying27 (hval 0 27 v0 rfl rfl)
  have k0 := h0
  have lt0 : ∀ x ∈ p0, x.block < W.heap.size := by obtain ⟨m, hm⟩ := k0; exact DataW.trod_lt m _ _ _ hm
  have w0 : Has W (.pair (.int .i64) (.pair (.int .i64) (.pair (.pair (.int .i64) (.pair (.int .i64) (.pair (.int .i64) (.pair (.int .i64) (.pair (.int .i64) (.pair (Sh.rep (.int .i64) 3) .unit)))))) .unit))) c0.toList := by obtain ⟨m, hm⟩ := h0; exact op27 _ _ _ _ _ _ _ _ _ hm
  obtain ⟨a1, rfl, rfl, rfl, w1⟩ := open_string Try.underlying9 (hval 1 9 v1 rfl rfl) h1
  obtain ⟨c2, rfl, _⟩ := okWide_array Try.underlying28 (hval 2 28 v2 rfl rfl)
  have k2 := h2
  have lt2 : ∀ x ∈ p2, x.block < W.heap.size := by obtain ⟨m, hm⟩ := k2; exact DataW.trod_lt m _ _ _ hm
  have w2 : Has W (Sh.rep (.int .u8) 3) c2.toList := by obtain ⟨m, hm⟩ := h2; exact op28 _ _ _ _ _ _ _ _ _ hm
  clear hA0 hval0
  refine (walk c0 a1 c2 W w0 w1 w2).mono fun e W' ⟨he, bel⟩ => ?_
  subst he
  exact ⟨_, rfl, _, _, _, [], _, [], hW', trodAll_mk1 (shut_bool Try.underlying4 _), (trodAll_cons_mk (Below.trod laidOut (by kernel_rfl) (of_decide_eq_true (by kernel_rfl)) k0 bel lt0) (trodAll_cons_mk (shut_string Try.underlying9 w1) (trodAll_cons_mk (Below.trod laidOut (by kernel_rfl) (of_decide_eq_true (by kernel_rfl)) k2 bel lt2) trodAll_mk0))), rfl, bel.frame _, fun h => by cases h⟩

theorem over : Rows.recordBackRow.holds Try.pinned (OpenSpec.ofChange Rows.recordBackSpec) :=
  OpenClaim.holds_of_wide 3 Try.f3 rfl rfl rfl rfl rfl rfl rfl ⟨rfl, rfl, rfl, rfl, rfl⟩ rfl rfl rfl rfl rfl (by kernel_rfl) Try.func3 (by kernel_rfl)
    (of_decide_eq_true (by kernel_rfl)) (by unfold Func.isWrapper; first | (rw [if_pos (by decide +kernel)]; kernel_rfl) | (rw [if_neg (by decide +kernel)]; exact ⟨rfl, rfl⟩))
    (fun os started H enc _ => lifted os started H enc)

/-- ████ THE STATEMENT ████ -/
theorem proved : Rows.RecordBackSaid := over
end Go.Proofs.Ytgooepfhapaenaa.recordBack
