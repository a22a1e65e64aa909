/- The law EventBack of the repository answers true for every input. No conditions. -/
import Derived.Test.YtkahdmhgfojbiaaEvtW
import Derived.Test.YtkahdmhgfojbiaaEvtArgs
import Derived.Test.YtkahdmhgfojbiaaRows
import Derived.WalkKit
import Derived.ProofKit
import Derived.OpenShut
import Derived.Below
import Derived.ShutString
import Derived.Carry
import Derived.Test.YtkahdmhgfojbiaaArgs
namespace Go.Proofs.Ytkahdmhgfojbiaa.eventBack
open Go.ChangeShapes Go.WideShapes Go.ChangeAt Go.RowKit
open Go.ChangeMaps (open_string shut_string)
set_option linter.unusedVariables false
set_option linter.unusedSimpArgs false

theorem own : ownKnob Try.prog.godebug = none := by kernel_rfl
theorem laidOut : laidOutB Try.prog = true := by kernel_rfl
theorem op3 : Opens Try.prog 3 (.int .i64) := opens_int Try.underlying3
theorem op23 : Opens Try.prog 23 (Sh.rep (.int .i64) 3) := opens_array Try.underlying23 (by kernel_rfl) (by kernel_rfl) op3
theorem op25 : Opens Try.prog 25 (.pair (.int .i64) (.pair (.int .i64) (.pair (.int .i64) (.pair (.int .i64) (.pair (.int .i64) (.pair (Sh.rep (.int .i64) 3) .unit)))))) := opens_struct Try.underlying25 (by kernel_rfl) (fields_cons rfl (by kernel_rfl) op3 (fields_cons rfl (by kernel_rfl) op3 (fields_cons rfl (by kernel_rfl) op3 (fields_cons rfl (by kernel_rfl) op3 (fields_cons rfl (by kernel_rfl) op3 (fields_cons rfl (by kernel_rfl) op23 fields_nil))))))

set_option maxRecDepth 100000 in
set_option maxHeartbeats 16000000 in
theorem walk (c0 : Array Value) (a1 : ByteArray) (w : World) (w0 : Has w (.pair (.int .i64) (.pair (.int .i64) (.pair (.int .i64) (.pair (.int .i64) (.pair (.int .i64) (.pair (Sh.rep (.int .i64) 3) .unit)))))) c0.toList) (w1 : a1.size ≤ maxLen) :
    Calls Try.prog 5 #[.agg c0, .string a1] w fun e w' => e = .returned (.bool true) ∧ Below w.heap.size w w' := by
  obtain ⟨v, hv, rfl⟩ := evt_came w0
  clear w0
  have AW := Lib.hid fun w => event_awake w
  have hrow : v.row.toArray = v.cells := rfl
  rw [hrow]
  by_cases hlen : a1.size ≤ 200
  rotate_left
  · have dl : decide (a1.size > 200) = true := decide_eq_true (by omega)
    have dl2 : decide (200 < a1.size) = true := dl
    have dl3 : decide ((a1.size : Int) > 200) = true := decide_eq_true (by omega)
    have dl4 : decide (200 < (a1.size : Int)) = true := dl3
    have hba : Below w.heap.size w (w.alloc (.cells v.cells 25)) := (Below.refl _ _).alloc (Nat.le_refl _) _
    go_enter Try.func5, Try.ntmps5
    go_wp2_with fail
    refine (AW.out _).mono ?_; rintro e w3 ⟨rfl, hB⟩
    have hB3 := Lib.hid (hba.trans (hB.mono hba.size))
    clear hB hba
    go_wp2_with fail
    go_ret
    exact ⟨rfl, hB3.out⟩
  have dl : decide (a1.size > 200) = false := decide_eq_false (by omega)
  have dl2 : decide (200 < a1.size) = false := dl
  have dl3 : decide ((a1.size : Int) > 200) = false := decide_eq_false (by omega)
  have dl4 : decide (200 < (a1.size : Int)) = false := dl3
  have U1 := Lib.hid fun w => evpure_any v w hv
  have hpk := pure_ok hv
  have U2 := Lib.hid (show ∀ w, Calls Try.prog 10 #[(pureE v).val] w fun e w' => e = .returned (pureE v).val ∧ Below w.heap.size w w' from fun w => by have := evpure_any (pureE v) w hpk; rwa [pure_pure] at this)
  have P1 := Lib.hid fun w => evput_any (pureE v) w hpk
  have HC := Lib.hid (show checkE (pureE v) = 0 → putE (pureE v) = (bytesE (pureE v), 0) ∧ getE (bytesE (pureE v)) = (pureE v, 0) ∧ (getE (bytesE (pureE v)).dropLast).2 ≠ 0 ∧ (bytesE (pureE v)).length ≤ 1000 ∧ 0 < (bytesE (pureE v)).length from fun h => by
    refine ⟨by unfold putE; rw [if_pos h], getE_put h, get_cut h, ?_, List.length_pos_iff.2 (bytesE_ne _)⟩
    have h1 := bytesN_len _ (nums_ok (check_ok h).2.1)
    have h2 := numsE_len (pureE v) (pureE v).k
    have h3 := many_small (pureE v).k
    unfold bytesE
    rw [List.length_cons]
    omega)
  have HN := Lib.hid (show checkE (pureE v) ≠ 0 → putE (pureE v) = ([], checkE (pureE v)) from fun h => by unfold putE; rw [if_neg h])
  generalize pureE v = p at *
  have EN := Lib.hid (show ∀ w, (binOp .neq 25 p.val p.val).run Try.prog w = .ok (.bool false) w from fun w => by rw [neE_run, eqE_self]; rfl)
  have EG := Lib.hid (fun w a b => neE_guard w p p a b)
  have ERp : ∀ w' : World, (Op.equalIn 9999 23 (.agg #[.int .i64 p.r.a, .int .i64 p.r.b, .int .i64 p.r.c]) (.agg #[.int .i64 p.r.a, .int .i64 p.r.b, .int .i64 p.r.c])).run Try.prog w' = .ok true w' := fun w' => by rw [eqRes_run, (eq3_iff p.r p.r).2 rfl]
  -- what comes behind the first half: the bytes that came in
  have G0 := Lib.hid fun w => evget_any a1 w (by omega)
  have hbx : (w.alloc (.cells v.cells 25)).heap[w.heap.size]? = some (.cells v.cells 25 (0, 0)) := blk_new w _
  have hba : Below w.heap.size w (w.alloc (.cells v.cells 25)) := (Below.refl _ _).alloc (Nat.le_refl _) _
  have U1' := U1
  unfold Evt.val at U1'
  unfold Evt.cells
  go_enter Try.func5, Try.ntmps5
  go_wp2_with fail
  refine (U1'.out _).mono ?_; rintro e w1 ⟨rfl, hB⟩
  rw [World.size_alloc] at hB
  have hl1 : w.heap.size + 1 ≤ w1.heap.size := by have := hB.size; simpa using this
  have hB1 := Lib.hid (show Below w.heap.size w (w1.alloc (.cells p.cells 25)) from (hba.trans (hB.mono (by omega))).alloc (by omega) _)
  have X1 := Lib.hid (blk_new w1 (.cells p.cells 25))
  clear hB hbx hba U1 U1'
  go_wp2_with fail
  obtain ⟨W, hW⟩ : ∃ W, W = w1.alloc (.cells p.cells 25) := ⟨_, rfl⟩
  have hWl : W = w1.alloc (.cells #[.int .i64 p.k, .int .i64 p.n, .int .i64 p.j, .int .i64 p.i, .int .i64 p.p, .int .i64 p.r.a, .int .i64 p.r.b, .int .i64 p.r.c] 25) := hW
  rw [← hW] at hB1 X1
  rw [← hWl]
  have hWs : w1.heap.size < W.heap.size := by rw [hW, World.size_alloc]; omega
  have hWw : w.heap.size ≤ W.heap.size := hB1.out.size
  have HLW := Lib.hid (show ∀ w', Below W.heap.size W w' → w'.heap[w1.heap.size]? = some (.cells p.cells 25 (0, 0)) from fun w' hb => blk_below hb X1.out hWs)
  clear hW hWl
  refine wp_region_hold (fun w' => Below W.heap.size W w') (by kernel_rfl) (by kernel_rfl) ⟨rfl, rfl, rfl, Nat.le_refl _, fun _ _ => rfl⟩ ?_
  repeat
    first
    | (refine hold_call (v := p.val) (by rfl) ?_ (fun w' hS => made_call hS (Nat.le_refl _) (U2.out w')) ?_
       · (intro w' hS; go_simp; done)
       simp only [Act.put, List.setIfInBounds_toArray, List.set_cons_zero, List.set_cons_succ])
    | (refine hold_val (v := p.val) (by rfl) ?_ ?_
       · (intro w' hS
          obtain ⟨x0, x1, x2, x3, x4, x5, x6, x7⟩ := evt_cells (HLW.out w' hS)
          unfold Evt.val
          go_simp
          done)
       simp only [Act.put, List.setIfInBounds_toArray, List.set_cons_zero, List.set_cons_succ])
    | (refine hold_val (v := ?_) (by rfl) ?_ ?_
       rotate_left
       · (intro w' hS
          have e1 := EN.out w'
          have e2 := EG.out w'
          go_simp
          try with_reducible rfl)
       simp only [Act.put, List.setIfInBounds_toArray, List.set_cons_zero, List.set_cons_succ])
    | (refine hold_skip (by rfl) ?_
       simp only [Act.put, List.setIfInBounds_toArray, List.set_cons_zero, List.set_cons_succ])
  refine hold_nil (fun w2 hS => ?_)
  have X2 := Lib.hid (HLW.out w2 hS)
  have hB2 := Lib.hid (hB1.out.trans (hS.mono hWw))
  have hl2 : w1.heap.size < w2.heap.size := Nat.lt_of_lt_of_le hWs hS.size
  clear hS X1 hB1 HLW hWs hWw EN EG U2 hl1
  generalize w1.heap.size = b1 at *
  have P1' := P1
  unfold Evt.val at P1'
  have HZ9 := Lib.hid (show (getE a1.data.toList).2 ≠ 0 → (getE a1.data.toList).1 = zeroE from fun h => get_zero h)
  have HY9 := Lib.hid (show (getE a1.data.toList).2 = 0 → putE (getE a1.data.toList).1 = (a1.data.toList, 0) ∧ pureE (getE a1.data.toList).1 = (getE a1.data.toList).1 ∧ (getE a1.data.toList).1.ok from fun h => get_put_ok h)
  generalize (getE a1.data.toList).1 = x at *
  generalize (getE a1.data.toList).2 = hx at *
  unfold Evt.val at G0
  obtain ⟨e0, e1, e2, e3, e4, e5, e6, e7⟩ := evt_cells X2.out
  go_wp2_with fail
  refine (P1'.out _).mono ?_; rintro e w3 ⟨rfl, hB⟩
  have hl3 : w2.heap.size ≤ w3.heap.size := hB.size
  have X3 := Lib.hid (blk_below hB X2.out hl2)
  have hB3 := Lib.hid (hB2.out.trans (hB.mono hB2.out.size))
  clear hB X2 hB2 e0 e1 e2 e3 e4 e5 e6 e7 P1 P1'
  by_cases hc : checkE p = 0
  · obtain ⟨c1, c2, c3, c4, c5⟩ := HC.out hc
    rw [c1]
    have hsz : (bs (bytesE p)).size = (bytesE p).length := bs_size _
    have G1 := Lib.hid (show ∀ w', Calls Try.prog 13 #[.string (bs (bytesE p))] w' fun e w'' => e = .returned (.tuple #[p.val, .int .i64 0]) ∧ Below w'.heap.size w' w'' from fun w' => by
      have := evget_any (bs (bytesE p)) w' (by omega)
      rwa [bs_list, c2] at this)
    have G2 := Lib.hid (show ∀ w', Calls Try.prog 13 #[.string ((bs (bytesE p)).extract 0 ((bs (bytesE p)).size - 1))] w' fun e w'' => e = .returned (.tuple #[(getE (bytesE p).dropLast).1.val, .int .i64 (getE (bytesE p).dropLast).2]) ∧ Below w'.heap.size w' w'' from fun w' => by
      have := evget_any ((bs (bytesE p)).extract 0 ((bs (bytesE p)).size - 1)) w' (by rw [ByteArray.size_extract]; omega)
      rwa [show ((bs (bytesE p)).extract 0 ((bs (bytesE p)).size - 1)).data.toList = (bytesE p).dropLast by rw [extract_list, bs_list, bs_size, List.drop_zero, List.dropLast_eq_take]] at this)
    have d1 : (((getE (bytesE p).dropLast).2) == 0) = false := by simpa using c3
    have hpos : 0 < (bs (bytesE p)).size := by omega
    have hmax : (bs (bytesE p)).size ≤ 1000 := by omega
    generalize (getE (bytesE p).dropLast).1 = z at *
    generalize (getE (bytesE p).dropLast).2 = g at *
    generalize bs (bytesE p) = T at *
    have dz : ((T.size : Int) == 0) = false := by
      have : ¬ (T.size : Int) = 0 := by omega
      simpa using this
    clear c1 c2 c3 c4 c5 hsz HC HN hc
    unfold Evt.val at G1 G2
    have sl0 : (0 : Int) ≤ (T.size : Int) - 1 ∧ (T.size : Int) - 1 ≤ (T.size : Int) := by omega
    have sw : IntKind.i64.wrap ((T.size : Int) - 1) = (T.size : Int) - 1 := IntWalk.i64_in _ (by omega)
    have st : ((T.size : Int) - 1).toNat = T.size - 1 := by omega
    go_wp2_with fail
    refine (G1.out _).mono ?_; rintro e w4 ⟨rfl, hB⟩
    have hl4 : w3.heap.size ≤ w4.heap.size := hB.size
    have X4 := Lib.hid (blk_old (.cells #[.int .i64 p.k, .int .i64 p.n, .int .i64 p.j, .int .i64 p.i, .int .i64 p.p, .int .i64 p.r.a, .int .i64 p.r.b, .int .i64 p.r.c] 25) (blk_below hB X3.out (by omega)))
    have Y4 := Lib.hid (blk_new w4 (.cells #[.int .i64 p.k, .int .i64 p.n, .int .i64 p.j, .int .i64 p.i, .int .i64 p.p, .int .i64 p.r.a, .int .i64 p.r.b, .int .i64 p.r.c] 25))
    have hB4 := Lib.hid (show Below w.heap.size w (w4.alloc (.cells #[.int .i64 p.k, .int .i64 p.n, .int .i64 p.j, .int .i64 p.i, .int .i64 p.p, .int .i64 p.r.a, .int .i64 p.r.b, .int .i64 p.r.c] 25)) from (hB3.out.trans (hB.mono hB3.out.size)).alloc (Nat.le_trans hB3.out.size hB.size) _)
    clear hB X3 hB3
    go_wp2_with fail
    refine (G2.out _).mono ?_; rintro e w5 ⟨rfl, hB⟩
    rw [World.size_alloc] at hB
    have hl5 : w4.heap.size + 1 ≤ w5.heap.size := by have := hB.size; simpa using this
    have X5 := Lib.hid (blk_old (.cells #[.int .i64 z.k, .int .i64 z.n, .int .i64 z.j, .int .i64 z.i, .int .i64 z.p, .int .i64 z.r.a, .int .i64 z.r.b, .int .i64 z.r.c] 25) (blk_below hB X4.out (by omega)))
    have Y5 := Lib.hid (blk_old (.cells #[.int .i64 z.k, .int .i64 z.n, .int .i64 z.j, .int .i64 z.i, .int .i64 z.p, .int .i64 z.r.a, .int .i64 z.r.b, .int .i64 z.r.c] 25) (blk_below hB Y4.out (by omega)))
    have hB5 := Lib.hid (show Below w.heap.size w (w5.alloc (.cells #[.int .i64 z.k, .int .i64 z.n, .int .i64 z.j, .int .i64 z.i, .int .i64 z.p, .int .i64 z.r.a, .int .i64 z.r.b, .int .i64 z.r.c] 25)) from (hB4.out.trans (hB.mono (by have := hB4.out.size; simpa using this))).alloc (by have := hB4.out.size; rw [World.size_alloc] at this; omega) _)
    clear hB X4 Y4 hB4
    obtain ⟨x0, x1, x2, x3, x4, x5, x6, x7⟩ := evt_cells (v := p) X5.out
    obtain ⟨y0, y1, y2, y3, y4, y5, y6, y7⟩ := evt_cells (v := p) Y5.out
    go_wp2_with fail
    refine (G0.out _).mono ?_; rintro e w9 ⟨rfl, hB⟩
    have hB9 := Lib.hid (show Below w.heap.size w (w9.alloc (.cells #[.int .i64 x.k, .int .i64 x.n, .int .i64 x.j, .int .i64 x.i, .int .i64 x.p, .int .i64 x.r.a, .int .i64 x.r.b, .int .i64 x.r.c] 25)) from (hB5.out.trans (hB.mono hB5.out.size)).alloc (Nat.le_trans hB5.out.size hB.size) _)
    have X9 := Lib.hid (blk_new w9 (.cells #[.int .i64 x.k, .int .i64 x.n, .int .i64 x.j, .int .i64 x.i, .int .i64 x.p, .int .i64 x.r.a, .int .i64 x.r.b, .int .i64 x.r.c] 25))
    clear hB
    by_cases hh : hx = 0
    · obtain ⟨y1, y2, y3⟩ := HY9.out hh
      subst hh
      have P9 := Lib.hid (show ∀ w', Calls Try.prog 6 #[.agg #[.int .i64 x.k, .int .i64 x.n, .int .i64 x.j, .int .i64 x.i, .int .i64 x.p, .int .i64 x.r.a, .int .i64 x.r.b, .int .i64 x.r.c]] w' fun e w'' => e = .returned (.tuple #[.string a1, .int .i64 0]) ∧ Below w'.heap.size w' w'' from fun w' => by
        have := evput_any x w' y3
        rw [y1, bs_of] at this
        exact this)
      have U9 := Lib.hid (show ∀ w', Calls Try.prog 10 #[x.val] w' fun e w'' => e = .returned x.val ∧ Below w'.heap.size w' w'' from fun w' => by
        have := evpure_any x w' y3
        rwa [y2] at this)
      have EQ9 := Lib.hid (show ∀ w, (binOp .eql 25 x.val x.val).run Try.prog w = .ok (.bool true) w from fun w => by rw [eqlE_run, eqE_self])
      have EG9 := Lib.hid (fun w a b => eqlE_guard w x x a b)
      have dss : (a1.toList == a1.toList) = true := by simp
      clear y1 y2 y3 HY9 HZ9
      obtain ⟨x0, x1, x2, x3, x4, x5, x6, x7⟩ := evt_cells (v := x) X9.out
      have hs9 : (w9.alloc (.cells #[.int .i64 x.k, .int .i64 x.n, .int .i64 x.j, .int .i64 x.i, .int .i64 x.p, .int .i64 x.r.a, .int .i64 x.r.b, .int .i64 x.r.c] 25)).heap.size = w9.heap.size + 1 := by simp
      go_wp2_with fail
      refine (P9.out _).mono ?_; rintro e w10 ⟨rfl, hB⟩
      have X10 := Lib.hid (show w10.heap[w9.heap.size]? = some (.cells x.cells 25 (0, 0)) from blk_below hB X9.out (by simp))
      have hB10 := Lib.hid (hB9.out.trans (hB.mono hB9.out.size))
      have hl10 : w9.heap.size < w10.heap.size := lt_of_block X10.out
      clear hB X9 hB9 x0 x1 x2 x3 x4 x5 x6 x7 hs9
      have HL10 := Lib.hid (show ∀ w', Below w10.heap.size w10 w' → w'.heap[w9.heap.size]? = some (.cells x.cells 25 (0, 0)) from fun w' hb => blk_below hb X10.out hl10)
      go_wp2_with fail
      refine wp_region_hold (fun w' => Below w10.heap.size w10 w') (by kernel_rfl) (by kernel_rfl) ⟨rfl, rfl, rfl, Nat.le_refl _, fun _ _ => rfl⟩ ?_
      repeat
        first
        | (refine hold_call (v := x.val) (by rfl) ?_ (fun w' hS => made_call hS (Nat.le_refl _) (U9.out w')) ?_
           · (intro w' hS; go_simp; done)
           simp only [Act.put, List.setIfInBounds_toArray, List.set_cons_zero, List.set_cons_succ])
        | (refine hold_call (v := .bool true) (by rfl) ?_ (fun w' hS => made_call hS (Nat.le_refl _) (AW.out w')) ?_
           · (intro w' hS; go_simp; done)
           simp only [Act.put, List.setIfInBounds_toArray, List.set_cons_zero, List.set_cons_succ])
        | (refine hold_val (v := x.val) (by rfl) ?_ ?_
           · (intro w' hS
              obtain ⟨x0, x1, x2, x3, x4, x5, x6, x7⟩ := evt_cells (HL10.out w' hS)
              unfold Evt.val
              go_simp
              done)
           simp only [Act.put, List.setIfInBounds_toArray, List.set_cons_zero, List.set_cons_succ])
        | (refine hold_val (v := ?_) (by rfl) ?_ ?_
           rotate_left
           · (intro w' hS
              have e1 := EQ9.out w'
              have e2 := EG9.out w'
              go_simp
              try with_reducible rfl)
           simp only [Act.put, List.setIfInBounds_toArray, List.set_cons_zero, List.set_cons_succ])
        | (refine hold_skip (by rfl) ?_
           simp only [Act.put, List.setIfInBounds_toArray, List.set_cons_zero, List.set_cons_succ])
      refine hold_nil (fun w11 hS => ?_)
      have HF := Lib.hid (hB10.out.trans (hS.mono hB10.out.size))
      clear hS
      go_wp2_with fail
      go_ret
      exact ⟨rfl, HF.out⟩
    · have hzz := HZ9.out hh
      subst hzz
      have dn : (hx != 0) = true := by simpa using hh
      have ER0 : ∀ w' : World, (Op.equalIn 9999 23 (.agg #[.int .i64 0, .int .i64 0, .int .i64 0]) (.agg #[.int .i64 0, .int .i64 0, .int .i64 0])).run Try.prog w' = .ok true w' := fun w' => eqRes_run w' zero3 zero3
      clear hh HY9 HZ9
      obtain ⟨x0, x1, x2, x3, x4, x5, x6, x7⟩ := evt_cells (v := zeroE) X9.out
      unfold zeroE zero3 at x0 x1 x2 x3 x4 x5 x6 x7 hB9 ⊢
      simp only at x0 x1 x2 x3 x4 x5 x6 x7 hB9 ⊢
      go_wp2_with fail
      refine (AW.out _).mono ?_; rintro e w11 ⟨rfl, hB⟩
      have HF := Lib.hid (hB9.out.trans (hB.mono hB9.out.size))
      clear hB
      go_wp2_with fail
      go_ret
      exact ⟨rfl, HF.out⟩
  · rw [HN.out hc]
    have dn : (checkE p == 0) = false := by simpa using hc
    generalize checkE p = q at *
    clear hc HC HN
    go_wp2_with fail
    refine (G0.out _).mono ?_; rintro e w9 ⟨rfl, hB⟩
    have hB9 := Lib.hid (show Below w.heap.size w (w9.alloc (.cells #[.int .i64 x.k, .int .i64 x.n, .int .i64 x.j, .int .i64 x.i, .int .i64 x.p, .int .i64 x.r.a, .int .i64 x.r.b, .int .i64 x.r.c] 25)) from (hB3.out.trans (hB.mono hB3.out.size)).alloc (Nat.le_trans hB3.out.size hB.size) _)
    have X9 := Lib.hid (blk_new w9 (.cells #[.int .i64 x.k, .int .i64 x.n, .int .i64 x.j, .int .i64 x.i, .int .i64 x.p, .int .i64 x.r.a, .int .i64 x.r.b, .int .i64 x.r.c] 25))
    clear hB
    by_cases hh : hx = 0
    · obtain ⟨y1, y2, y3⟩ := HY9.out hh
      subst hh
      have P9 := Lib.hid (show ∀ w', Calls Try.prog 6 #[.agg #[.int .i64 x.k, .int .i64 x.n, .int .i64 x.j, .int .i64 x.i, .int .i64 x.p, .int .i64 x.r.a, .int .i64 x.r.b, .int .i64 x.r.c]] w' fun e w'' => e = .returned (.tuple #[.string a1, .int .i64 0]) ∧ Below w'.heap.size w' w'' from fun w' => by
        have := evput_any x w' y3
        rw [y1, bs_of] at this
        exact this)
      have U9 := Lib.hid (show ∀ w', Calls Try.prog 10 #[x.val] w' fun e w'' => e = .returned x.val ∧ Below w'.heap.size w' w'' from fun w' => by
        have := evpure_any x w' y3
        rwa [y2] at this)
      have EQ9 := Lib.hid (show ∀ w, (binOp .eql 25 x.val x.val).run Try.prog w = .ok (.bool true) w from fun w => by rw [eqlE_run, eqE_self])
      have EG9 := Lib.hid (fun w a b => eqlE_guard w x x a b)
      have dss : (a1.toList == a1.toList) = true := by simp
      clear y1 y2 y3 HY9 HZ9
      obtain ⟨x0, x1, x2, x3, x4, x5, x6, x7⟩ := evt_cells (v := x) X9.out
      have hs9 : (w9.alloc (.cells #[.int .i64 x.k, .int .i64 x.n, .int .i64 x.j, .int .i64 x.i, .int .i64 x.p, .int .i64 x.r.a, .int .i64 x.r.b, .int .i64 x.r.c] 25)).heap.size = w9.heap.size + 1 := by simp
      go_wp2_with fail
      refine (P9.out _).mono ?_; rintro e w10 ⟨rfl, hB⟩
      have X10 := Lib.hid (show w10.heap[w9.heap.size]? = some (.cells x.cells 25 (0, 0)) from blk_below hB X9.out (by simp))
      have hB10 := Lib.hid (hB9.out.trans (hB.mono hB9.out.size))
      have hl10 : w9.heap.size < w10.heap.size := lt_of_block X10.out
      clear hB X9 hB9 x0 x1 x2 x3 x4 x5 x6 x7 hs9
      have HL10 := Lib.hid (show ∀ w', Below w10.heap.size w10 w' → w'.heap[w9.heap.size]? = some (.cells x.cells 25 (0, 0)) from fun w' hb => blk_below hb X10.out hl10)
      go_wp2_with fail
      refine wp_region_hold (fun w' => Below w10.heap.size w10 w') (by kernel_rfl) (by kernel_rfl) ⟨rfl, rfl, rfl, Nat.le_refl _, fun _ _ => rfl⟩ ?_
      repeat
        first
        | (refine hold_call (v := x.val) (by rfl) ?_ (fun w' hS => made_call hS (Nat.le_refl _) (U9.out w')) ?_
           · (intro w' hS; go_simp; done)
           simp only [Act.put, List.setIfInBounds_toArray, List.set_cons_zero, List.set_cons_succ])
        | (refine hold_call (v := .bool true) (by rfl) ?_ (fun w' hS => made_call hS (Nat.le_refl _) (AW.out w')) ?_
           · (intro w' hS; go_simp; done)
           simp only [Act.put, List.setIfInBounds_toArray, List.set_cons_zero, List.set_cons_succ])
        | (refine hold_val (v := x.val) (by rfl) ?_ ?_
           · (intro w' hS
              obtain ⟨x0, x1, x2, x3, x4, x5, x6, x7⟩ := evt_cells (HL10.out w' hS)
              unfold Evt.val
              go_simp
              done)
           simp only [Act.put, List.setIfInBounds_toArray, List.set_cons_zero, List.set_cons_succ])
        | (refine hold_val (v := ?_) (by rfl) ?_ ?_
           rotate_left
           · (intro w' hS
              have e1 := EQ9.out w'
              have e2 := EG9.out w'
              go_simp
              try with_reducible rfl)
           simp only [Act.put, List.setIfInBounds_toArray, List.set_cons_zero, List.set_cons_succ])
        | (refine hold_skip (by rfl) ?_
           simp only [Act.put, List.setIfInBounds_toArray, List.set_cons_zero, List.set_cons_succ])
      refine hold_nil (fun w11 hS => ?_)
      have HF := Lib.hid (hB10.out.trans (hS.mono hB10.out.size))
      clear hS
      go_wp2_with fail
      go_ret
      exact ⟨rfl, HF.out⟩
    · have hzz := HZ9.out hh
      subst hzz
      have dn : (hx != 0) = true := by simpa using hh
      have ER0 : ∀ w' : World, (Op.equalIn 9999 23 (.agg #[.int .i64 0, .int .i64 0, .int .i64 0]) (.agg #[.int .i64 0, .int .i64 0, .int .i64 0])).run Try.prog w' = .ok true w' := fun w' => eqRes_run w' zero3 zero3
      clear hh HY9 HZ9
      obtain ⟨x0, x1, x2, x3, x4, x5, x6, x7⟩ := evt_cells (v := zeroE) X9.out
      unfold zeroE zero3 at x0 x1 x2 x3 x4 x5 x6 x7 hB9 ⊢
      simp only at x0 x1 x2 x3 x4 x5 x6 x7 hB9 ⊢
      go_wp2_with fail
      refine (AW.out _).mono ?_; rintro e w11 ⟨rfl, hB⟩
      have HF := Lib.hid (hB9.out.trans (hB.mono hB9.out.size))
      clear hB
      go_wp2_with fail
      go_ret
      exact ⟨rfl, HF.out⟩

set_option maxRecDepth 100000 in
theorem lifted (os : Os) (started : os.Started) (H : Type) (enc : TypeId × Value → H) :
    ReturnsInHanded {} Try.checked os 5 .any (Rows.eventBackSpec.pre6 enc Try.prog Try.f5 Rows.eventBackRow.domain false) (Rows.eventBackSpec.post enc Try.prog Try.f5 false true false false) := by
  refine returnsInHanded_of_change (C := Try.checked) own started (by kernel_rfl) Try.func5
    (ChangeSpec.witness6 (enc := enc) (C := Try.checked) false ⟨#[], #[.agg #[.int .i64 0, .int .i64 0, .int .i64 0, .int .i64 0, .int .i64 0, .int .i64 0, .int .i64 0, .int .i64 0], .string ByteArray.empty], []⟩ 8 (by kernel_rfl) (by kernel_rfl) (by kernel_rfl) (by kernel_rfl)) ?_
  intro W base args ds gs before hval0 hW hcnd _
  have hval : ∀ (j : Nat) t v, Try.f5.params[j]? = some t → args[j]? = some v → Value.okWide Try.prog W .any base t v := hval0
  have hW' := hW
  obtain ⟨p, q, hA0, hV, rfl, hfz, hnd⟩ := hW
  have hA : DataW.TrodAll enc Try.prog W 0 (fun _ => true) true Try.f5.params.toList args.toList ds p := hA0
  rw [Try.params5] at hA hval
  obtain ⟨v0, vs0, d0, ds0, p0, q0, hargs, rfl, rfl, h0, r0⟩ := trodAll_cons hA
  obtain ⟨v1, vs1, d1, ds1, p1, q1, rfl, rfl, rfl, h1, r1⟩ := trodAll_cons r0
  obtain ⟨rfl, rfl, rfl⟩ := trodAll_nil r1
  obtain rfl : args = #[v0, v1] := by cases args; simp_all
  obtain ⟨rfl, rfl⟩ := trodVars_none hV
  obtain ⟨c0, rfl, _⟩ := okWide_struct Try.underlying25 (hval 0 25 v0 rfl rfl)
  have k0 := h0
  have lt0 : ∀ x ∈ p0, x.block < W.heap.size := by obtain ⟨m, hm⟩ := k0; exact DataW.trod_lt m _ _ _ hm
  have w0 : Has W (.pair (.int .i64) (.pair (.int .i64) (.pair (.int .i64) (.pair (.int .i64) (.pair (.int .i64) (.pair (Sh.rep (.int .i64) 3) .unit)))))) c0.toList := by obtain ⟨m, hm⟩ := h0; exact op25 _ _ _ _ _ _ _ _ _ hm
  obtain ⟨a1, rfl, rfl, rfl, w1⟩ := open_string Try.underlying9 (hval 1 9 v1 rfl rfl) h1
  clear hA0 hval0
  refine (walk c0 a1 W w0 w1).mono fun e W' ⟨he, bel⟩ => ?_
  subst he
  exact ⟨_, rfl, _, _, _, [], _, [], hW', trodAll_mk1 (shut_bool Try.underlying4 _), (trodAll_cons_mk (Below.trod laidOut (by kernel_rfl) (of_decide_eq_true (by kernel_rfl)) k0 bel lt0) (trodAll_cons_mk (shut_string Try.underlying9 w1) trodAll_mk0)), rfl, bel.frame _, fun h => by cases h⟩

theorem over : Rows.eventBackRow.holds Try.pinned (OpenSpec.ofChange Rows.eventBackSpec) :=
  OpenClaim.holds_of_wide 5 Try.f5 rfl rfl rfl rfl rfl rfl rfl ⟨rfl, rfl, rfl, rfl, rfl⟩ rfl rfl rfl rfl rfl (by kernel_rfl) Try.func5 (by kernel_rfl)
    (of_decide_eq_true (by kernel_rfl)) (by unfold Func.isWrapper; first | (rw [if_pos (by decide +kernel)]; kernel_rfl) | (rw [if_neg (by decide +kernel)]; exact ⟨rfl, rfl⟩))
    (fun os started H enc _ => lifted os started H enc)

/-- ████ THE STATEMENT ████ -/
theorem proved : Rows.EventBackSaid := over
end Go.Proofs.Ytkahdmhgfojbiaa.eventBack
