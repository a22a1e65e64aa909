/- The law QueueOrders of the repository answers true for every input. No conditions. -/
import Derived.Test.YtalpocgajecjbaaQueArgs
import Derived.Deep.DeepCutAuto
import Derived.Deep.LoopGhost
import Derived.Deep.CutBlock
import Derived.StillTailTactics
import Derived.Test.YtalpocgajecjbaaRows
import Derived.WalkKit
import Derived.ProofKit
import Derived.OpenShut
import Derived.Below
import Derived.ShutString
import Derived.Carry
import Derived.Test.YtalpocgajecjbaaArgs
namespace Go.Proofs.Ytalpocgajecjbaa.queueOrders
open Go.ChangeShapes Go.WideShapes Go.ChangeAt Go.RowKit
open Go.ChangeMaps (open_string shut_string)
set_option linter.unusedVariables false
set_option linter.unusedSimpArgs false

theorem own : ownKnob Try.prog.godebug = none := by kernel_rfl
theorem laidOut : laidOutB Try.prog = true := by kernel_rfl
theorem op3 : Opens Try.prog 3 (.int .i64) := opens_int Try.underlying3
theorem op35 : Opens Try.prog 35 (Sh.rep (.int .i64) 3) := opens_array Try.underlying35 (by kernel_rfl) (by kernel_rfl) op3
theorem op37 : Opens Try.prog 37 (.pair (.int .i64) (.pair (.int .i64) (.pair (.int .i64) (.pair (.int .i64) (.pair (.int .i64) (.pair (Sh.rep (.int .i64) 3) .unit)))))) := opens_struct Try.underlying37 (by kernel_rfl) (fields_cons rfl (by kernel_rfl) op3 (fields_cons rfl (by kernel_rfl) op3 (fields_cons rfl (by kernel_rfl) op3 (fields_cons rfl (by kernel_rfl) op3 (fields_cons rfl (by kernel_rfl) op3 (fields_cons rfl (by kernel_rfl) op35 fields_nil))))))
theorem op39 : Opens Try.prog 39 (.pair (.int .i64) (.pair (.pair (.int .i64) (.pair (.int .i64) (.pair (.int .i64) (.pair (.int .i64) (.pair (.int .i64) (.pair (Sh.rep (.int .i64) 3) .unit)))))) .unit)) := opens_struct Try.underlying39 (by kernel_rfl) (fields_cons rfl (by kernel_rfl) op3 (fields_cons rfl (by kernel_rfl) op37 fields_nil))
theorem op22 : Opens Try.prog 22 (.slice (.pair (.int .i64) (.pair (.pair (.int .i64) (.pair (.int .i64) (.pair (.int .i64) (.pair (.int .i64) (.pair (.int .i64) (.pair (Sh.rep (.int .i64) 3) .unit)))))) .unit))) := opens_slice Try.underlying22 (by kernel_rfl) (by decide) op39

set_option maxRecDepth 100000 in
set_option maxHeartbeats 16000000 in
theorem walk (a0 : Option Addr) (len0 cap0 : Nat) (w : World) (w0 : Has w (.slice (.pair (.int .i64) (.pair (.pair (.int .i64) (.pair (.int .i64) (.pair (.int .i64) (.pair (.int .i64) (.pair (.int .i64) (.pair (Sh.rep (.int .i64) 3) .unit)))))) .unit))) [.slice a0 len0 cap0]) :
    Calls Try.prog 4 #[.slice a0 len0 cap0] w fun e w' => e = .returned (.bool true) ∧ Below w.heap.size w w' := by
  obtain ⟨acts, hlen, hok, hat⟩ := qacts_came w0
  subst hlen
  have HOK := Lib.hid hok
  have HA := Lib.hid hat
  clear hok hat w0
  have AW := Lib.hid fun w => queue_awake w
  by_cases hg : 150 < acts.length
  · have d1 : decide ((150 : Int) < (acts.length : Int)) = true := decide_eq_true (by omega)
    have d2 : decide (150 < acts.length) = true := decide_eq_true hg
    go_enter Try.func4, Try.ntmps4
    go_wp2_with fail
    refine (AW.out _).mono ?_; rintro e wy ⟨rfl, hb⟩
    have HF := Lib.hid hb
    clear hb
    go_wp2_with fail
    go_ret
    exact ⟨rfl, HF.out⟩
  · have d1 : decide ((150 : Int) < (acts.length : Int)) = false := decide_eq_false (by omega)
    have d2 : decide (150 < acts.length) = false := decide_eq_false hg
    have NW := Lib.hid fun w => qnew_any w
    have HG := Lib.hid hg
    clear hg
    go_enter Try.func4, Try.ntmps4
    go_wp2_with fail
    refine (NW.out _).mono ?_; rintro e w1 ⟨vh, F, rfl, hp, hF, hbn⟩
    have HI := Lib.hid (qone_start hp hF hbn)
    obtain ⟨bh, hvh⟩ := HI.out.ptr
    subst hvh
    clear hp hF hbn NW d1 d2
    go_wp2_with fail
    go_loopg [4] acts.length (fun g i wy => ∃ (k : Nat) (l : List Jb), k + g = acts.length ∧ i = .int .i64 k ∧ l.length ≤ k ∧ QInv1 w (fun _ => False) (.pointer (some ⟨bh, 0, none⟩)) l wy)
    case atStart => exact ⟨0, [], by omega, rfl, by simp, HI.out⟩
    case round =>
      obtain ⟨k, l, hkg, rfl, hlk, hI⟩ := hrel
      replace HI := Lib.hid hI
      clear hI
      have hk150 : acts.length ≤ 150 := by have := HG.out; omega
      by_cases hlt : k < acts.length
      · obtain ⟨ba, oa, rfl, hcells⟩ := HA.out k hlt
        have HC := Lib.hid hcells
        have dk : decide (k < acts.length) = true := decide_eq_true hlt
        have HOK1 := Lib.hid (HOK.out acts[k] (List.getElem_mem hlt))
        have q3 : IntKind.i64.wrap ((k : Int) + 1) = ((k + 1 : Nat) : Int) := by rw [IntWalk.i64_in _ (by omega)]; omega
        clear hcells
        generalize acts[k] = act at *
        obtain ⟨p0, ⟨j0, j1, j2, j3, j4, j5, j6, j7⟩⟩ := HC.out wr HI.out.bel
        have HPL := Lib.hid (putJ_le l act.j)
        have HDL := Lib.hid (dropJ_le l act.j.id)
        by_cases hk1 : act.kind = 1
        · have e1 : (act.kind == 1) = true := by rw [hk1]; rfl
          have PH := oqput act.j HOK1.out (by omega) HI.out
          unfold Jb.val at PH
          replace PH := Lib.hid PH
          clear hk1
          go_wp2_with fail
          refine PH.out.mono ?_; rintro e w3 ⟨rfl, hI3, _⟩
          have HI3 := Lib.hid hI3
          clear hI3 PH p0 j0 j1 j2 j3 j4 j5 j6 j7
          go_wp2_with fail
          go_roundg (acts.length - (k + 1))
          case measure => omega
          case rel => exact ⟨k + 1, putJ l act.j, by omega, by go_num, by have := HPL.out; omega, HI3.out⟩
        · have e1 : (act.kind == 1) = false := beq_false_of_ne hk1
          clear hk1
          by_cases hk2 : act.kind = 2
          · have e2 : (act.kind == 2) = true := by rw [hk2]; rfl
            have PD := Lib.hid (oqdrop act.j.id HOK1.out.1 (by omega) HI.out)
            clear hk2 j1 j2 j3 j4 j5 j6 j7
            go_wp2_with fail
            refine PD.out.mono ?_; rintro e w3 ⟨rfl, hI3, _⟩
            have HI3 := Lib.hid hI3
            clear hI3 PD p0 j0
            go_wp2_with fail
            go_roundg (acts.length - (k + 1))
            case measure => omega
            case rel => exact ⟨k + 1, dropJ l act.j.id, by omega, by go_num, by have := HDL.out; omega, HI3.out⟩
          · have e2 : (act.kind == 2) = false := beq_false_of_ne hk2
            have PT := Lib.hid (oqtake (by omega) HI.out)
            clear hk2 j0 j1 j2 j3 j4 j5 j6 j7
            go_wp2_with fail
            refine PT.out.mono ?_; rintro e w3 ⟨rfl, hI3, _⟩
            have HI3 := Lib.hid hI3
            clear hI3 PT p0
            go_wp2_with fail
            go_roundg (acts.length - (k + 1))
            case measure => omega
            case rel => exact ⟨k + 1, l.tail, by omega, by go_num, by simp; omega, HI3.out⟩
      · have dk : decide (k < acts.length) = false := decide_eq_false hlt
        have hl150 : l.length ≤ 150 := by omega
        have AL := Lib.hid (oqall (by omega) HI.out)
        clear hlt hkg hlk hk150 HA HOK HG
        go_wp2_with fail
        refine AL.out.mono ?_; rintro e wA ⟨vA, rfl, hrd, hbA⟩
        have HIA := Lib.hid (HI.out.below hbA)
        obtain ⟨A5, c5, rfl, _, _⟩ := hrd.form
        rw [rowsJ_len]
        rw [rowsJ_len] at hrd
        have LN := Lib.hid (oqlen (by omega) HIA.out)
        have HRD := Lib.hid hrd
        have HBA := Lib.hid hbA
        have e5 : ((l.length : Int) != (l.length : Int)) = false := by simp
        clear hrd hbA AL
        go_wp2_with fail
        refine LN.out.mono ?_; rintro e wL ⟨rfl, hbL⟩
        obtain ⟨hq, hJ⟩ := qone_row HI.out HRD.out HBA.out hbL
        have HIL := Lib.hid hq
        have HJ8 := Lib.hid hJ
        have HSL := Lib.hid HI.out.sorted
        clear hq hJ hbL LN HRD HBA HIA HI
        go_wp2_with fail
        go_loopg [6] l.length (fun g i wy => ∃ (k : Nat) (m : List Jb), k + m.length = l.length ∧ g = m.length ∧ i = .int .i64 k ∧ m = l.drop k ∧ QInv1 w (rowG A5 l) (.pointer (some ⟨bh, 0, none⟩)) m wy ∧ StayQ (rowG A5 l) wL wy)
        case atStart => exact ⟨0, l, by omega, rfl, rfl, rfl, HIL.out, fun _ _ => rfl⟩
        case round =>
          clear HIL
          rename World => w2r
          obtain ⟨k, m, hkm, rfl, rfl, hm, hI2, hs2⟩ := hrel
          have HI2 := Lib.hid hI2
          have HS2 := Lib.hid hs2
          clear hI2 hs2
          have i2 : (l.length : Int) ≤ 150 := by omega
          cases m with
          | nil =>
            have hk : k = l.length := by simpa using hkm
            have dk2 : decide ((k : Int) < (l.length : Int)) = false := decide_eq_false (by omega)
            have dk3 : decide (k < l.length) = false := decide_eq_false (by omega)
            have TK := oqtake (by simp) HI2.out
            have TK := Lib.hid (show Calls Try.prog 13 #[.pointer (some ⟨bh, 0, none⟩)] w2r fun e w' => e = .returned (.tuple #[.agg #[.int .i64 0, .int .i64 0, .int .i64 0, .int .i64 0, .int .i64 0, .int .i64 0, .int .i64 0, .int .i64 0], .bool false]) ∧ QInv1 w (rowG A5 l) (.pointer (some ⟨bh, 0, none⟩)) [] w' ∧ StayQ (rowG A5 l) w2r w' from TK)
            clear hk hkm hm
            go_wp2_with fail
            refine TK.out.mono ?_; rintro e w4 ⟨rfl, hI4, _⟩
            have hz := jz_blk w4
            obtain ⟨z0, z1, z2, z3, z4, z5, z6, z7⟩ := z8_of hz
            obtain ⟨f0, f1, f2, f3, f4, f5, f6, f7⟩ := hz.free
            have HF := Lib.hid (hI4.bel.trans ((jz_below w4).mono hI4.bel.size))
            clear hI4 hz TK
            go_wp2_with fail
            refine (AW.out _).mono ?_; rintro e w5 ⟨rfl, hb⟩
            replace HF := Lib.hid (HF.out.trans (hb.mono HF.out.size))
            clear hb z0 z1 z2 z3 z4 z5 z6 z7 f0 f1 f2 f3 f4 f5 f6 f7
            go_wp2_with fail
            go_ret
            exact ⟨rfl, HF.out⟩
          | cons x r =>
            have hk : k < l.length := by simp at hkm; omega
            have hm2 := List.drop_eq_getElem_cons hk
            rw [← hm] at hm2
            obtain ⟨hx, hr⟩ := List.cons.inj hm2
            have HDR := Lib.hid hr
            have dk2 : decide ((k : Int) < (l.length : Int)) = true := decide_eq_true (by omega)
            have dk3 : decide (k < l.length) = true := decide_eq_true hk
            have q3 : IntKind.i64.wrap ((k : Int) + 1) = ((k + 1 : Nat) : Int) := by rw [IntWalk.i64_in _ (by omega)]; omega
            have ib0 : (0 : Int) ≤ (k : Int) := by omega
            have ib1 : (k : Int) < (l.length : Int) := by omega
            obtain ⟨b5, o5, rfl, hJk⟩ := HJ8.out k hk
            have HJK := Lib.hid (show ∀ w', StayQ (rowG (some ⟨b5, o5, none⟩) l) wL w' → J8 b5 (o5 + k * 8) x w' from fun w' h => by rw [hx]; exact hJk w' h)
            have E1 := fun w => jeq_same x w
            by_cases hz : k = 0
            · have dz : decide ((0 : Int) < (k : Int)) = false := decide_eq_false (by omega)
              have dz2 : decide ((k : Int) > 0) = false := dz
              have dz3 : decide (0 < k) = false := decide_eq_false (by omega)
              clear hm hm2 hx hr hJk hz
              go_wp2_with fail
              refine wp_region_hold (fun w' => Below w2r.heap.size w2r w') (by kernel_rfl) (by kernel_rfl) ⟨rfl, rfl, rfl, Nat.le_refl _, fun _ _ => rfl⟩ ?_
              repeat
                first
                | (refine hold_val (v := ?_) (by rfl) ?_ ?_
                   rotate_left
                   · (intro w' hS
                      go_simp
                      try with_reducible rfl)
                   simp only [Act.put, List.setIfInBounds_toArray, List.set_cons_zero, List.set_cons_succ])
                | (refine hold_skip (by rfl) ?_
                   simp only [Act.put, List.setIfInBounds_toArray, List.set_cons_zero, List.set_cons_succ])
                | (refine hold_call (by rfl) ?_ (fun w' hS => made_call hS (Nat.le_refl _) (JC.out w')) ?_; focus (intro w' hS; go_simp; done)
                   simp only [Act.put, List.setIfInBounds_toArray, List.set_cons_zero, List.set_cons_succ])
              refine hold_nil (fun w3 hS => ?_)
              have HI3 := Lib.hid (HI2.out.below hS)
              have HS3 := Lib.hid (HS2.out.trans (HI2.out.stay hS))
              clear hS HI2 HS2
              have TK := oqtake (by simp at hkm ⊢; omega) HI3.out
              have TK := show Calls Try.prog 13 #[.pointer (some ⟨bh, 0, none⟩)] w3 fun e w' => e = .returned (.tuple #[x.val, .bool true]) ∧ QInv1 w (rowG (some ⟨b5, o5, none⟩) l) (.pointer (some ⟨bh, 0, none⟩)) r w' ∧ StayQ (rowG (some ⟨b5, o5, none⟩) l) w3 w' from TK
              unfold Jb.val at TK
              replace TK := Lib.hid TK
              go_wp2_with fail
              refine TK.out.mono ?_; rintro e w4 ⟨rfl, hI4, hs4⟩
              have hz := jz_blk w4
              obtain ⟨z0, z1, z2, z3, z4, z5, z6, z7⟩ := z8_of hz
              obtain ⟨f0, f1, f2, f3, f4, f5, f6, f7⟩ := hz.free
              obtain ⟨y0, y1, y2, y3, y4, y5, y6, y7⟩ := (jv_blk w4 x).cells
              have hI5 := hI4.below (jv_below w4 x)
              have hs5 := (HS3.out.trans hs4).trans (hI4.stay (jv_below w4 x))
              obtain ⟨g0, g1, g2, g3, g4, g5, g6, g7⟩ := HJK.out (jv w4 x) hs5
              have HI5 := Lib.hid hI5
              have HS5 := Lib.hid hs5
              clear hI4 hs4 hI5 hs5 hz TK HI3 HS3
              unfold jz at z0 z1 z2 z3 z4 z5 z6 z7 f0 f1 f2 f3 f4 f5 f6 f7
              unfold jv at y0 y1 y2 y3 y4 y5 y6 y7 g0 g1 g2 g3 g4 g5 g6 g7 HI5 HS5
              go_wp2_with fail
              go_quiet (fail)
              have HI6 := Lib.hid (HI5.out.below (w' := (jv w4 x).drewN nq) ⟨rfl, rfl, rfl, Nat.le_refl _, fun _ _ => rfl⟩)
              have HS6 := Lib.hid (HS5.out.trans (c := (jv w4 x).drewN nq) (HI5.out.stay (w' := (jv w4 x).drewN nq) ⟨rfl, rfl, rfl, Nat.le_refl _, fun _ _ => rfl⟩))
              clear z0 z1 z2 z3 z4 z5 z6 z7 f0 f1 f2 f3 f4 f5 f6 f7 y0 y1 y2 y3 y4 y5 y6 y7 g0 g1 g2 g3 g4 g5 g6 g7 HI5 HS5
              unfold jv at HI6 HS6
              generalize (w4.alloc (.cells #[.int .i64 x.id, .int .i64 x.prio, .int .i64 x.seq, .int .i64 x.phase, .int .i64 x.node, .int .i64 x.need.a, .int .i64 x.need.b, .int .i64 x.need.c] 37)).drewN nq = w6 at *
              go_wp2_with fail
              go_roundg r.length
              case measure => simp
              case rel => exact ⟨k + 1, r, by simp at hkm; omega, rfl, by go_num, HDR.out, HI6.out, HS6.out⟩
            · obtain ⟨j, hj⟩ : ∃ j, k = j + 1 := ⟨k - 1, by omega⟩
              have dz : decide ((0 : Int) < (k : Int)) = true := decide_eq_true (by omega)
              have dz2 : decide ((k : Int) > 0) = true := dz
              have dz3 : decide (0 < k) = true := decide_eq_true (by omega)
              have q6 : IntKind.i64.wrap ((k : Int) - 1) = (j : Int) := by rw [IntWalk.i64_in _ (by omega)]; omega
              have ic0 : (0 : Int) ≤ (j : Int) := by omega
              have ic1 : (j : Int) < (l.length : Int) := by omega
              have hjl : j < l.length := by omega
              obtain ⟨b6, o6, e6, hJj⟩ := HJ8.out j hjl
              cases e6
              have hord : jobB l[j] l[k] = true := List.pairwise_iff_getElem.1 HSL.out.1 j k hjl hk (by omega)
              have JC := fun w => grw_call (kjob_any l[j] x w)
              rw [hx] at JC
              rw [hord] at JC
              rw [← hx] at JC
              unfold Jb.val at JC
              replace JC := Lib.hid JC
              have HLD := Lib.hid (show ∀ w', Below w2r.heap.size w2r w' → J8 b5 (o5 + j * 8) l[j] w' ∧ J8 b5 (o5 + k * 8) x w' from fun w' hb => ⟨hJj w' (HS2.out.trans (HI2.out.stay hb)), HJK.out w' (HS2.out.trans (HI2.out.stay hb))⟩)
              clear hm hm2 hx hr hJk hz hJj hord hj
              generalize l[j] = y at *
              clear hjl
              go_wp2_with fail
              refine wp_region_hold (fun w' => Below w2r.heap.size w2r w') (by kernel_rfl) (by kernel_rfl) ⟨rfl, rfl, rfl, Nat.le_refl _, fun _ _ => rfl⟩ ?_
              repeat
                first
                | (refine hold_val (v := ?_) (by rfl) ?_ ?_
                   rotate_left
                   · (intro w' hS
                      obtain ⟨⟨_, _, _, _, _, _, _, _⟩, ⟨_, _, _, _, _, _, _, _⟩⟩ := HLD.out w' hS
                      go_simp
                      try with_reducible rfl)
                   simp only [Act.put, List.setIfInBounds_toArray, List.set_cons_zero, List.set_cons_succ])
                | (refine hold_skip (by rfl) ?_
                   simp only [Act.put, List.setIfInBounds_toArray, List.set_cons_zero, List.set_cons_succ])
                | (refine hold_call (by rfl) ?_ (fun w' hS => made_call hS (Nat.le_refl _) (JC.out w')) ?_; focus (intro w' hS; go_simp; done)
                   simp only [Act.put, List.setIfInBounds_toArray, List.set_cons_zero, List.set_cons_succ])
              refine hold_nil (fun w3 hS => ?_)
              have HI3 := Lib.hid (HI2.out.below hS)
              have HS3 := Lib.hid (HS2.out.trans (HI2.out.stay hS))
              clear hS HI2 HS2 JC HLD
              have TK := oqtake (by simp at hkm ⊢; omega) HI3.out
              have TK := show Calls Try.prog 13 #[.pointer (some ⟨bh, 0, none⟩)] w3 fun e w' => e = .returned (.tuple #[x.val, .bool true]) ∧ QInv1 w (rowG (some ⟨b5, o5, none⟩) l) (.pointer (some ⟨bh, 0, none⟩)) r w' ∧ StayQ (rowG (some ⟨b5, o5, none⟩) l) w3 w' from TK
              unfold Jb.val at TK
              replace TK := Lib.hid TK
              go_wp2_with fail
              refine TK.out.mono ?_; rintro e w4 ⟨rfl, hI4, hs4⟩
              have hz := jz_blk w4
              obtain ⟨z0, z1, z2, z3, z4, z5, z6, z7⟩ := z8_of hz
              obtain ⟨f0, f1, f2, f3, f4, f5, f6, f7⟩ := hz.free
              obtain ⟨y0, y1, y2, y3, y4, y5, y6, y7⟩ := (jv_blk w4 x).cells
              have hI5 := hI4.below (jv_below w4 x)
              have hs5 := (HS3.out.trans hs4).trans (hI4.stay (jv_below w4 x))
              obtain ⟨g0, g1, g2, g3, g4, g5, g6, g7⟩ := HJK.out (jv w4 x) hs5
              have HI5 := Lib.hid hI5
              have HS5 := Lib.hid hs5
              clear hI4 hs4 hI5 hs5 hz TK HI3 HS3
              unfold jz at z0 z1 z2 z3 z4 z5 z6 z7 f0 f1 f2 f3 f4 f5 f6 f7
              unfold jv at y0 y1 y2 y3 y4 y5 y6 y7 g0 g1 g2 g3 g4 g5 g6 g7 HI5 HS5
              go_wp2_with fail
              go_quiet (fail)
              have HI6 := Lib.hid (HI5.out.below (w' := (jv w4 x).drewN nq) ⟨rfl, rfl, rfl, Nat.le_refl _, fun _ _ => rfl⟩)
              have HS6 := Lib.hid (HS5.out.trans (c := (jv w4 x).drewN nq) (HI5.out.stay (w' := (jv w4 x).drewN nq) ⟨rfl, rfl, rfl, Nat.le_refl _, fun _ _ => rfl⟩))
              clear z0 z1 z2 z3 z4 z5 z6 z7 f0 f1 f2 f3 f4 f5 f6 f7 y0 y1 y2 y3 y4 y5 y6 y7 g0 g1 g2 g3 g4 g5 g6 g7 HI5 HS5
              unfold jv at HI6 HS6
              generalize (w4.alloc (.cells #[.int .i64 x.id, .int .i64 x.prio, .int .i64 x.seq, .int .i64 x.phase, .int .i64 x.node, .int .i64 x.need.a, .int .i64 x.need.b, .int .i64 x.need.c] 37)).drewN nq = w6 at *
              go_wp2_with fail
              go_roundg r.length
              case measure => simp
              case rel => exact ⟨k + 1, r, by simp at hkm; omega, rfl, by go_num, HDR.out, HI6.out, HS6.out⟩

set_option maxRecDepth 100000 in
theorem lifted (os : Os) (started : os.Started) (H : Type) (enc : TypeId × Value → H) :
    ReturnsInHanded {} Try.checked os 4 .any (Rows.queueOrdersSpec.pre6 enc Try.prog Try.f4 Rows.queueOrdersRow.domain false) (Rows.queueOrdersSpec.post enc Try.prog Try.f4 false true false false) := by
  refine returnsInHanded_of_change (C := Try.checked) own started (by kernel_rfl) Try.func4
    (ChangeSpec.witness6 (enc := enc) (C := Try.checked) false ⟨#[], #[.slice none 0 0], []⟩ 8 (by kernel_rfl) (by kernel_rfl) (by kernel_rfl) (by kernel_rfl)) ?_
  intro W base args ds gs before hval0 hW hcnd _
  have hval : ∀ (j : Nat) t v, Try.f4.params[j]? = some t → args[j]? = some v → Value.okWide Try.prog W .any base t v := hval0
  have hW' := hW
  obtain ⟨p, q, hA0, hV, rfl, hfz, hnd⟩ := hW
  have hA : DataW.TrodAll enc Try.prog W 0 (fun _ => true) true Try.f4.params.toList args.toList ds p := hA0
  rw [Try.params4] at hA hval
  obtain ⟨v0, vs0, d0, ds0, p0, q0, hargs, rfl, rfl, h0, r0⟩ := trodAll_cons hA
  obtain ⟨rfl, rfl, rfl⟩ := trodAll_nil r0
  obtain rfl : args = #[v0] := by cases args; simp_all
  obtain ⟨rfl, rfl⟩ := trodVars_none hV
  obtain ⟨a0, len0, cap0, rfl⟩ := okWide_slice Try.underlying22 (hval 0 22 v0 rfl rfl)
  have k0 := h0
  have lt0 : ∀ x ∈ p0, x.block < W.heap.size := by obtain ⟨m, hm⟩ := k0; exact DataW.trod_lt m _ _ _ hm
  have w0 : Has W (.slice (.pair (.int .i64) (.pair (.pair (.int .i64) (.pair (.int .i64) (.pair (.int .i64) (.pair (.int .i64) (.pair (.int .i64) (.pair (Sh.rep (.int .i64) 3) .unit)))))) .unit))) [.slice a0 len0 cap0] := by obtain ⟨m, hm⟩ := h0; exact op22 _ _ _ _ _ _ _ _ _ hm
  clear hA0 hval0
  refine (walk a0 len0 cap0 W w0).mono fun e W' ⟨he, bel⟩ => ?_
  subst he
  exact ⟨_, rfl, _, _, _, [], _, [], hW', trodAll_mk1 (shut_bool Try.underlying4 _), (trodAll_cons_mk (Below.trod laidOut (by kernel_rfl) (of_decide_eq_true (by kernel_rfl)) k0 bel lt0) trodAll_mk0), rfl, bel.frame _, fun h => by cases h⟩

theorem over : Rows.queueOrdersRow.holds Try.pinned (OpenSpec.ofChange Rows.queueOrdersSpec) :=
  OpenClaim.holds_of_wide 4 Try.f4 rfl rfl rfl rfl rfl rfl rfl ⟨rfl, rfl, rfl, rfl, rfl⟩ rfl rfl rfl rfl rfl (by kernel_rfl) Try.func4 (by kernel_rfl)
    (of_decide_eq_true (by kernel_rfl)) (by unfold Func.isWrapper; first | (rw [if_pos (by decide +kernel)]; kernel_rfl) | (rw [if_neg (by decide +kernel)]; exact ⟨rfl, rfl⟩))
    (fun os started H enc _ => lifted os started H enc)

/-- ████ THE STATEMENT ████ -/
theorem proved : Rows.QueueOrdersSaid := over
end Go.Proofs.Ytalpocgajecjbaa.queueOrders
