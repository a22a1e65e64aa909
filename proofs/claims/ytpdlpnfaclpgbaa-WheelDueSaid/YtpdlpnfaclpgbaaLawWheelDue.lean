/- The law WheelDue of the repository answers true for every input. No conditions. -/
import Derived.Test.YtpdlpnfaclpgbaaWhlArgs
import Derived.Deep.DeepCutAuto
import Derived.Deep.LoopGhost
import Derived.Deep.CutBlock
import Derived.StillTailTactics
import Derived.Test.YtpdlpnfaclpgbaaRows
import Derived.WalkKit
import Derived.ProofKit
import Derived.OpenShut
import Derived.Below
import Derived.ShutString
import Derived.Carry
import Derived.Test.YtpdlpnfaclpgbaaArgs
namespace Go.Proofs.Ytpdlpnfaclpgbaa.wheelDue
open Go.ChangeShapes Go.WideShapes Go.ChangeAt Go.RowKit
open Go.ChangeMaps (open_string shut_string)
set_option linter.unusedVariables false
set_option linter.unusedSimpArgs false

theorem own : ownKnob Try.prog.godebug = none := by kernel_rfl
theorem laidOut : laidOutB Try.prog = true := by kernel_rfl
theorem op52 : Opens Try.prog 52 (.int .u16) := opens_int Try.underlying52
theorem op50 : Opens Try.prog 50 (.slice (.int .u16)) := opens_slice Try.underlying50 (by kernel_rfl) (by decide) op52
theorem op5 : Opens Try.prog 5 (.int .u8) := opens_int Try.underlying5
theorem op51 : Opens Try.prog 51 (.slice (.int .u8)) := opens_slice Try.underlying51 (by kernel_rfl) (by decide) op5

set_option maxRecDepth 100000 in
set_option maxHeartbeats 16000000 in
theorem walk (a0 : Option Addr) (len0 cap0 : Nat) (a1 : Option Addr) (len1 cap1 : Nat) (w : World) (w0 : Has w (.slice (.int .u16)) [.slice a0 len0 cap0]) (w1 : Has w (.slice (.int .u8)) [.slice a1 len1 cap1]) :
    Calls Try.prog 4 #[.slice a0 len0 cap0, .slice a1 len1 cap1] w fun e w' => e = .returned (.bool true) ∧ Below w.heap.size w w' := by
  obtain ⟨ts, hlen, hwf, HT⟩ := nums_came w0
  obtain ⟨ss, hlen2, hwf2, HS⟩ := nums_came w1
  subst hlen
  subst hlen2
  have HT := Lib.hid HT
  have HS := Lib.hid HS
  clear w0 w1
  have AW := Lib.hid fun w => wheel_awake w
  by_cases hg : 60 < ts.length
  · have d1 : decide ((60 : Int) < (ts.length : Int)) = true := decide_eq_true (by omega)
    have d2 : decide (60 < ts.length) = true := decide_eq_true hg
    have d3 : decide ((ts.length : Int) > 60) = true := d1
    go_enter Try.func4, Try.ntmps4
    go_wp2_with fail
    refine (AW.out _).mono ?_; rintro e wy ⟨rfl, hb⟩
    have HF := Lib.hid hb
    clear hb
    go_wp2_with fail
    go_ret
    exact ⟨rfl, HF.out⟩
  · have d1 : decide ((60 : Int) < (ts.length : Int)) = false := decide_eq_false (by omega)
    have d2 : decide (60 < ts.length) = false := decide_eq_false hg
    have d3 : decide ((ts.length : Int) > 60) = false := d1
    by_cases hg2 : 200 < ss.length
    · have e1 : decide ((200 : Int) < (ss.length : Int)) = true := decide_eq_true (by omega)
      have e2 : decide (200 < ss.length) = true := decide_eq_true hg2
      have e3 : decide ((ss.length : Int) > 200) = true := e1
      go_enter Try.func4, Try.ntmps4
      go_wp2_with fail
      refine (AW.out _).mono ?_; rintro e wy ⟨rfl, hb⟩
      have HF := Lib.hid hb
      clear hb
      go_wp2_with fail
      go_ret
      exact ⟨rfl, HF.out⟩
    · have e1 : decide ((200 : Int) < (ss.length : Int)) = false := decide_eq_false (by omega)
      have e2 : decide (200 < ss.length) = false := decide_eq_false hg2
      have e3 : decide ((ss.length : Int) > 200) = false := e1
      have h60 : ts.length ≤ 60 := by omega
      have h200 : ss.length ≤ 200 := by omega
      have NW := Lib.hid fun w => wnew_any w
      clear hg hg2
      go_enter Try.func4, Try.ntmps4
      go_wp2_with fail
      refine (NW.out _).mono ?_; rintro e w1 ⟨rfl, hp, hb1⟩
      have hI := one_start (O := whlO) (wL := w) hp (fun k hk => by omega) hb1
      generalize hvv : Value.pointer (some ⟨w.heap.size, 0, none⟩) = v at *
      clear hvv hp hb1
      go_wp2_with fail
      go_loopw [6] (fun i wr => ∃ (k : Nat) (l : List Tm), k ≤ ts.length ∧ i = .int .i64 (k : Int) ∧ MemW ts k (fun _ => true) l ∧ l.length ≤ k ∧ D1 w v l wr) (fun i _ => ts.length - (intOf i).toNat)
      case atStart => exact ⟨0, [], by omega, rfl, memW_nil ts, by simp, hI⟩
      case round =>
        clear hI
        obtain ⟨k, l, hk, rfl, hM, hll, hI⟩ := hrel
        by_cases hlt : k < ts.length
        · have dk : decide (k < ts.length) = true := decide_eq_true hlt
          have dk2 : decide ((k : Int) < (ts.length : Int)) = true := decide_eq_true (by omega)
          obtain ⟨b, o, rfl, hbl, hx⟩ := HT.out k hlt
          have g0 : wr.cell? ⟨b, o + k, none⟩ = some (.int .u16 ts[k]) := (hI.bel.cell (p := ⟨b, o + k, none⟩) hbl).trans hx
          have hz := bounds_u16 (hwf _ (List.getElem_mem hlt))
          have ST := Lib.hid (show Calls Try.prog 8 #[v, .int .i64 (k : Int), .int .i64 (bits .and .i64 ts[k] 1023)] wr fun e w' => e = .returned (.bool true) ∧ D1 w v (setW l ⟨(k : Int), tauL ts k⟩) w' from by
            have h := owset (id := (k : Int)) (tick := tau ts[k]) (by unfold inI; omega) (by have := tau_le ts[k]; unfold inI; omega) (by omega) hI
            rw [may_tau] at h
            refine h.mono fun e w' ⟨h1, h2, _⟩ => ⟨h1, ?_⟩
            unfold tauL
            rw [nth0_eq ts k hlt]
            exact h2)
          have HM := Lib.hid (memW_set hM (by omega))
          have hl2 := setW_len l ⟨(k : Int), tauL ts k⟩
          generalize ts[k] = z at *
          generalize setW l ⟨(k : Int), tauL ts k⟩ = l2 at *
          clear hx hI hM
          go_wp2_with fail
          refine ST.out.mono ?_; rintro e w2 ⟨rfl, hI⟩
          go_wp2_with fail
          go_roundw
          case rel => exact ⟨k + 1, l2, by omega, by go_num, HM.out, by omega, hI⟩
          case measure => simp [intOf]; omega
        · obtain rfl : k = ts.length := by omega
          have dk2 : decide ((ts.length : Int) < (ts.length : Int)) = false := decide_eq_false (by omega)
          have hM0 : MemW ts ts.length (toCome ts true 0) l := hM
          have hM0 := Lib.hid hM0
          obtain ⟨i0, hif, hz0, hz1, hz2⟩ := info_parts infoI64
          clear hM
          go_wp2_with (at_make; refine wpList_make_full _ rfl _ _ 40 rfl wr.heap.size 3 i0 (.int .i64 0) 1 Try.underlying40 hif hz0 hz1 .i64 .i64 _ _ ts.length rfl rfl rfl rfl ?m1 ?m2 (Nat.le_refl _) ?_)
          case m1 => rw [hz2]; omega
          case m2 => unfold maxLen; omega
          intro w3 hown3 hgr3
          rw [madeZ] at hown3
          have HG := own_cellsZ hown3
          have hb3 : Below wr.heap.size wr w3 := ⟨hgr3.os, hgr3.tape, hgr3.output, hgr3.size, fun k hk => hgr3.block k hk (by simp)⟩
          have hI3 : One whlO w (fun k => k = wr.heap.size) v l w3 := hI.more hb3 (fun k hk => .inr ⟨by omega, by rw [hk]; exact lt_of_block HG⟩)
          have HG : GotB w3 wr.heap.size (gotL ts.length (gotF (toCome ts true 0) [])) := by unfold GotB; rw [gotL_zero]; exact HG
          clear hown3 hgr3 hb3 hI
          generalize wr.heap.size = bg at *
          go_wp2_with fail
          rename World => wo
          go_loopw [8, 9] (fun t i wr => ∃ (k : Nat) (nw : Int) (l : List Tm), k ≤ ss.length + 1 ∧ i = .int .i64 (k : Int) ∧ t = .int .i64 nw ∧ 0 ≤ nw ∧ nw ≤ 1200 * (k : Int) ∧ (k = ss.length + 1 → 1023 ≤ nw) ∧ MemW ts ts.length (toCome ts (k == 0) nw) l ∧ l.length ≤ 60 ∧
              One whlO w (fun k => k = bg) v l wr ∧ GotB wr bg (gotL ts.length (gotF (toCome ts (k == 0) nw) []))) (fun _ i _ => ss.length + 1 - (intOf i).toNat)
          case atStart => exact ⟨0, 0, l, by omega, rfl, rfl, by omega, by omega, by omega, hM0.out, by omega, hI3, HG⟩
          case round =>
            clear hI3 HG hM0 hll
            obtain ⟨k, nw, l, hk, rfl, rfl, hn0, hn1, hn2, hM, hll, hI, HG⟩ := hrel
            by_cases hle : k ≤ ss.length
            · have dk : decide (k ≤ ss.length) = true := decide_eq_true hle
              have dk2 : decide ((k : Int) ≤ (ss.length : Int)) = true := decide_eq_true (by omega)
              have HM := Lib.hid hM
              have HI := Lib.hid hI
              have HGG := Lib.hid HG
              have HN2 := Lib.hid hn2
              clear hM HG hn2
              go_upto_if 54 with (fail)
              go_cut [8] from 55 to 64 (fun t wx => ∃ n2 : Int, t = .int .i64 n2 ∧ nw ≤ n2 ∧ n2 ≤ 1200 * ((k : Int) + 1) ∧ (k = ss.length → 1023 ≤ n2) ∧ wr = wx)
              case first =>
                by_cases hlt : k < ss.length
                · have dl : decide (k < ss.length) = true := decide_eq_true hlt
                  have dl2 : decide ((k : Int) < (ss.length : Int)) = true := decide_eq_true (by omega)
                  obtain ⟨b, o, rfl, hbl, hx⟩ := HS.out k hlt
                  have g0 : wr.cell? ⟨b, o + k, none⟩ = some (.int .u8 ss[k]) := (HI.out.bel.cell (p := ⟨b, o + k, none⟩) hbl).trans hx
                  have hz := bounds_u8 (hwf2 _ (List.getElem_mem hlt))
                  generalize ss[k] = z at *
                  have hz2 : 0 ≤ z % 200 ∧ z % 200 < 200 := by omega
                  clear hx
                  go_wp2_with fail
                  go_meet
                  exact ⟨nw + z % 200, rfl, by omega, by omega, by omega, rfl⟩
                · have dl : decide (k < ss.length) = false := decide_eq_false hlt
                  have dl2 : decide ((k : Int) < (ss.length : Int)) = false := decide_eq_false (by omega)
                  go_wp2_with fail
                  go_meet
                  exact ⟨nw + 1024, rfl, by omega, by omega, by omega, rfl⟩
              case rest =>
                obtain ⟨n2, rfl, h1, h2, h3, rfl⟩ := hcut
                have DU := Lib.hid (owdue n2 (by omega) HI.out)
                have hbz : bg < wr.heap.size := HI.out.own_lt bg rfl
                have HML := Lib.hid (memW_left HM.out h1)
                have HGE := Lib.hid (gotL_end HM.out h1)
                have hl2 := leftW_len l n2
                have HAT := Lib.hid (show ∀ (m : Nat) (hm : m < (dueT l n2).length), ∃ j, j < ts.length ∧ toCome ts (k == 0) nw j = true ∧ (dueT l n2)[m]'hm = ⟨(j : Int), tauL ts j⟩ ∧ tauL ts j ≤ n2 from fun m hm => dueT_at HM.out n2 m hm)
                have HNE := Lib.hid (show ∀ (m : Nat) (h1 : m < (dueT l n2).length) (h2 : m + 1 < (dueT l n2).length), ((dueT l n2)[m]'h1).tick ≤ ((dueT l n2)[m + 1]'h2).tick from fun m h1 h2 => dueT_next HM.out.srt n2 (m + 1) h2 (by omega))
                have HAP := Lib.hid (show ∀ (m : Nat) (hm : m < (dueT l n2).length), ∀ x ∈ (dueT l n2).take m, x.id ≠ ((dueT l n2)[m]'hm).id from fun m hm => dueT_apart HM.out.srt n2 m hm)
                have hDl := dueT_len l n2
                have HGG2 := Lib.hid (show ∀ w', Stay (fun k => k = bg) wr w' → GotB w' bg (gotL ts.length (gotF (toCome ts (k == 0) nw) [])) from fun w' hs => gotB_stay HGG.out hs)
                rw [dueT_ids] at DU
                generalize dueT l n2 = D at *
                generalize leftW l n2 = l2 at *
                generalize hbs : wr.heap.size = bz at *
                clear hbs HGG HI
                go_wp2_with fail
                refine DU.out.mono ?_; rintro e w5 ⟨u, rfl, hr, hI2, hSt⟩
                have HG5 := HGG2.out w5 hSt
                have hDm : (D.map Tm.id).length = D.length := List.length_map _
                obtain ⟨A5, c5, rfl, _, _⟩ := hr.form
                rw [hDm] at hr ⊢
                clear DU HGG2 hSt
                go_wp2_with fail
                go_loopw [12] (fun i wq => ∃ m : Nat, m ≤ D.length ∧ i = .int .i64 (m : Int) ∧ One whlO w (fun k => k = bg) v l2 wq ∧ GotB wq bg (gotL ts.length (gotF (toCome ts (k == 0) nw) (D.take m))) ∧ RdI wq (fun k => bz ≤ k) (.slice A5 D.length c5) (D.map Tm.id)) (fun i _ => D.length - (intOf i).toNat)
                case atStart => exact ⟨0, by omega, rfl, hI2, HG5, hr⟩
                case round =>
                  clear hI2 HG5 hr
                  obtain ⟨m, hm, rfl, hI, hG, hr⟩ := hrel
                  by_cases hmt : m < D.length
                  · have dm : decide (m < D.length) = true := decide_eq_true hmt
                    have dm2 : decide ((m : Int) < (D.length : Int)) = true := decide_eq_true (by omega)
                    obtain ⟨j, hj, hp, hD, hle2⟩ := HAT.out m hmt
                    obtain ⟨b5, o5, rfl, hb5, hK5, hx5⟩ := hr.at_ (k := m) (by rw [hDm]; exact hmt)
                    obtain ⟨bt, ot, ha0, hbt, hxt⟩ := HT.out j hj
                    have hne5 : b5 ≠ bg := by omega
                    have hbg2 : w.heap.size ≤ bg := by
                      obtain ⟨F, _, _, _, h4⟩ := hI
                      exact (h4 bg rfl).2.2
                    have hnet : bt ≠ bg := by omega
                    have q0 : wr.cell? ⟨b5, o5 + m, none⟩ = some (.int .i64 (j : Int)) := by
                      rw [hx5 m (by rw [hDm]; exact hmt), List.getElem_map, hD]
                    have qt : wr.cell? ⟨bt, ot + j, none⟩ = some (.int .u16 ts[j]) := (hI.bel.cell (p := ⟨bt, ot + j, none⟩) hbt).trans hxt
                    have hz := bounds_u16 (hwf _ (List.getElem_mem hj))
                    have hap := HAP.out m hmt
                    rw [hD] at hap
                    have hg0 : gotF (toCome ts (k == 0) nw) (D.take m) j = 0 := gotF_zero hp hap
                    have qg := gotB_cell hG j 0 (by rw [gotL_get _ _ _ hj, hg0])
                    have qf := blk_free hG j
                    have ht5 : tauL ts j = bits .and .i64 ts[j] 1023 := by unfold tauL tau; rw [nth0_eq ts j hj]
                    have HR2 := Lib.hid (show RdI (wr.setCell ⟨bg, j, none⟩ (.int .i64 1)) (fun k => bz ≤ k) (.slice (some ⟨b5, o5, none⟩) D.length c5) (D.map Tm.id) from hr.keep (fun q hq _ => Below.heap_setCell _ _ _ _ (by simp only; omega)) (by rw [World.size_setCell]; exact Nat.le_refl _))
                    have HI2 := Lib.hid (show One whlO w (fun k => k = bg) v l2 (wr.setCell ⟨bg, j, none⟩ (.int .i64 1)) from hI.write rfl ((Only.refl bg wr).setCell j _))
                    have HG2 := Lib.hid (show GotB (wr.setCell ⟨bg, j, none⟩ (.int .i64 1)) bg (gotL ts.length (gotF (toCome ts (k == 0) nw) (D.take (m + 1)))) from by
                      have := gotB_set hG j 1
                      rw [gotL_set (t := tauL ts j) hj] at this
                      rw [List.take_succ_eq_append_getElem hmt, hD]
                      exact this)
                    rw [ht5] at hle2
                    have dj0 : decide ((j : Int) < 0) = false := decide_eq_false (by omega)
                    have dj1 : decide ((ts.length : Int) ≤ (j : Int)) = false := decide_eq_false (by omega)
                    have dj2 : decide ((j : Int) ≥ (ts.length : Int)) = false := decide_eq_false (by omega)
                    have dj3 : decide (ts.length ≤ j) = false := decide_eq_false (by omega)
                    have dx1 : decide (n2 < bits .and .i64 ts[j] 1023) = false := decide_eq_false (by omega)
                    have dx2 : decide (bits .and .i64 ts[j] 1023 > n2) = false := dx1
                    have i0 : (0 : Int) ≤ (j : Int) := by omega
                    have i1 : (j : Int) < (ts.length : Int) := by omega
                    have i2 : (0 : Int) ≤ (m : Int) := by omega
                    have i3 : (m : Int) < (D.length : Int) := by omega
                    have hpl : k = 0 ∨ (0 < k ∧ decide (bits .and .i64 ts[j] 1023 ≤ nw) = false) := by
                      by_cases h0 : k = 0
                      · exact .inl h0
                      · refine .inr ⟨by omega, decide_eq_false ?_⟩
                        unfold toCome at hp
                        rw [show (k == 0) = false by simpa using h0, Bool.false_or, decide_eq_true_eq, ht5] at hp
                        omega
                    have hprev : m = 0 ∨ ∃ m', m = m' + 1 ∧ ∃ i : Nat, ∃ hi : i < ts.length, wr.cell? ⟨b5, o5 + m', none⟩ = some (.int .i64 (i : Int)) ∧ wr.cell? ⟨bt, ot + i, none⟩ = some (.int .u16 ts[i]) ∧ 0 ≤ ts[i] ∧ ts[i] ≤ 65535 ∧ bits .and .i64 ts[i] 1023 ≤ bits .and .i64 ts[j] 1023 := by
                      cases m with
                      | zero => exact .inl rfl
                      | succ m' =>
                        refine .inr ⟨m', rfl, ?_⟩
                        obtain ⟨i, hi, _, hDi, _⟩ := HAT.out m' (by omega)
                        have hn := HNE.out m' (by omega) hmt
                        rw [hD, hDi] at hn
                        obtain ⟨bt', ot', ha', _, hxt'⟩ := HT.out i hi
                        rw [ha0] at ha'
                        cases ha'
                        have hzi := bounds_u16 (hwf _ (List.getElem_mem hi))
                        refine ⟨i, hi, ?_, (hI.bel.cell (p := ⟨bt, ot + i, none⟩) hbt).trans hxt', hzi.1, hzi.2, ?_⟩
                        · rw [hx5 m' (by rw [hDm]; omega), List.getElem_map, hDi]
                        · have e1 : tauL ts i = bits .and .i64 ts[i] 1023 := by unfold tauL tau; rw [nth0_eq ts i hi]
                          rw [← e1, ← ht5]; exact hn
                    subst ha0
                    clear hx5 hxt hap hr hG hI hg0 ht5 hp hD hle2
                    generalize ts[j] = zj at *
                    generalize hbj : bits .and .i64 zj 1023 = xj at *
                    rcases hpl with hk0 | ⟨hk0, dl1⟩
                    · have dkk : decide ((k : Int) > 0) = false := decide_eq_false (by omega)
                      have dkk2 : decide ((0 : Int) < (k : Int)) = false := decide_eq_false (by omega)
                      have dkk3 : decide (0 < k) = false := decide_eq_false (by omega)
                      rcases hprev with rfl | ⟨m', rfl, i, hi, p0, pt, hzi0, hzi1, hle3⟩
                      · have q00 : wr.cell? ⟨b5, o5, none⟩ = some (.int .i64 (j : Int)) := by simpa using q0
                        go_wp2_with fail
                        go_roundw
                        case rel => exact ⟨0 + 1, by omega, by go_num, HI2.out, HG2.out, HR2.out⟩
                        case measure => simp [intOf]; omega
                      · have dmm : decide (((m' : Int) + 1) > 0) = true := decide_eq_true (by omega)
                        have dmm2 : decide ((0 : Int) < ((m' : Int) + 1)) = true := decide_eq_true (by omega)
                        have dmm3 : decide (0 < m' + 1) = true := decide_eq_true (by omega)
                        have q5 : IntKind.i64.wrap ((m' : Int) + 1 - 1) = (m' : Int) := by rw [IntWalk.i64_in _ (by omega)]; omega
                        have q6 : IntKind.i64.wrap (m' : Int) = (m' : Int) := IntWalk.i64_in _ (by omega)
                        have p0s : (wr.setCell ⟨bg, j, none⟩ (.int .i64 1)).cell? ⟨b5, o5 + m', none⟩ = some (.int .i64 (i : Int)) := by rw [← p0]; unfold World.cell?; rw [Below.heap_setCell _ _ _ _ (by simp only; omega)]
                        have pts : (wr.setCell ⟨bg, j, none⟩ (.int .i64 1)).cell? ⟨bt, ot + i, none⟩ = some (.int .u16 ts[i]) := by rw [← pt]; unfold World.cell?; rw [Below.heap_setCell _ _ _ _ (by simp only; omega)]
                        have j0 : (0 : Int) ≤ (i : Int) := by omega
                        have j1 : (i : Int) < (ts.length : Int) := by omega
                        have j2 : (0 : Int) ≤ (m' : Int) := by omega
                        have j3 : (m' : Int) < (D.length : Int) := by omega
                        have j4 : (m' : Int) + 1 < (D.length : Int) := by omega
                        have j5 : (0 : Int) ≤ (m' : Int) + 1 := by omega
                        generalize ts[i] = zi at *
                        generalize hbi : bits .and .i64 zi 1023 = xi at *
                        have dy1 : decide (xi > xj) = false := decide_eq_false (by omega)
                        have dy2 : decide (xj < xi) = false := dy1
                        go_wp2_with fail
                        go_roundw
                        case rel => exact ⟨m' + 1 + 1, by omega, by go_num, HI2.out, HG2.out, HR2.out⟩
                        case measure => simp [intOf]; omega
                    · have dkk : decide ((k : Int) > 0) = true := decide_eq_true (by omega)
                      have dkk2 : decide ((0 : Int) < (k : Int)) = true := decide_eq_true (by omega)
                      have dkk3 : decide (0 < k) = true := decide_eq_true hk0
                      rcases hprev with rfl | ⟨m', rfl, i, hi, p0, pt, hzi0, hzi1, hle3⟩
                      · have q00 : wr.cell? ⟨b5, o5, none⟩ = some (.int .i64 (j : Int)) := by simpa using q0
                        go_wp2_with fail
                        go_roundw
                        case rel => exact ⟨0 + 1, by omega, by go_num, HI2.out, HG2.out, HR2.out⟩
                        case measure => simp [intOf]; omega
                      · have dmm : decide (((m' : Int) + 1) > 0) = true := decide_eq_true (by omega)
                        have dmm2 : decide ((0 : Int) < ((m' : Int) + 1)) = true := decide_eq_true (by omega)
                        have dmm3 : decide (0 < m' + 1) = true := decide_eq_true (by omega)
                        have q5 : IntKind.i64.wrap ((m' : Int) + 1 - 1) = (m' : Int) := by rw [IntWalk.i64_in _ (by omega)]; omega
                        have q6 : IntKind.i64.wrap (m' : Int) = (m' : Int) := IntWalk.i64_in _ (by omega)
                        have p0s : (wr.setCell ⟨bg, j, none⟩ (.int .i64 1)).cell? ⟨b5, o5 + m', none⟩ = some (.int .i64 (i : Int)) := by rw [← p0]; unfold World.cell?; rw [Below.heap_setCell _ _ _ _ (by simp only; omega)]
                        have pts : (wr.setCell ⟨bg, j, none⟩ (.int .i64 1)).cell? ⟨bt, ot + i, none⟩ = some (.int .u16 ts[i]) := by rw [← pt]; unfold World.cell?; rw [Below.heap_setCell _ _ _ _ (by simp only; omega)]
                        have j0 : (0 : Int) ≤ (i : Int) := by omega
                        have j1 : (i : Int) < (ts.length : Int) := by omega
                        have j2 : (0 : Int) ≤ (m' : Int) := by omega
                        have j3 : (m' : Int) < (D.length : Int) := by omega
                        have j4 : (m' : Int) + 1 < (D.length : Int) := by omega
                        have j5 : (0 : Int) ≤ (m' : Int) + 1 := by omega
                        generalize ts[i] = zi at *
                        generalize hbi : bits .and .i64 zi 1023 = xi at *
                        have dy1 : decide (xi > xj) = false := decide_eq_false (by omega)
                        have dy2 : decide (xj < xi) = false := dy1
                        go_wp2_with fail
                        go_roundw
                        case rel => exact ⟨m' + 1 + 1, by omega, by go_num, HI2.out, HG2.out, HR2.out⟩
                        case measure => simp [intOf]; omega
                  · obtain rfl : m = D.length := by omega
                    have dm : decide (D.length < D.length) = false := decide_eq_false hmt
                    have dm2 : decide ((D.length : Int) < (D.length : Int)) = false := decide_eq_false (by omega)
                    rw [List.take_length, HGE.out] at hG
                    clear hr
                    go_wp2_with fail
                    go_roundw
                    case rel =>
                      refine ⟨k + 1, n2, l2, by omega, by go_num, rfl, by omega, by omega, fun h => h3 (by omega), ?_, by omega, hI, ?_⟩
                      · rw [show (k + 1 == 0) = false by simp]; exact HML.out
                      · rw [show (k + 1 == 0) = false by simp]; exact hG
                    case measure => simp [intOf]; omega
            · obtain rfl : k = ss.length + 1 := by omega
              have dk2 : decide (((ss.length + 1 : Nat) : Int) ≤ (ss.length : Int)) = false := decide_eq_false (by omega)
              have dk3 : decide (((ss.length : Int) + 1) ≤ (ss.length : Int)) = false := decide_eq_false (by omega)
              have dk : decide (ss.length + 1 ≤ ss.length) = false := decide_eq_false hle
              have hn3 := hn2 rfl
              rw [show (ss.length + 1 == 0) = false by simp] at hM HG
              obtain rfl : l = [] := memW_none hM hn3
              have HQ := Lib.hid (show ∀ j, j < ts.length → wr.cell? ⟨bg, j, none⟩ = some (.int .i64 1) from fun j hj => gotB_cell HG j 1 (by rw [gotL_get _ _ _ hj, got_all ts ts.length nw hn3 j]))
              have LN := Lib.hid (owlen (by simp) hI)
              clear hM HG hI hn2
              go_wp2_with fail
              go_loopw [14] (fun i wq => ∃ j : Nat, j ≤ ts.length ∧ i = .int .i64 (j : Int) ∧ wq = wr) (fun i _ => ts.length - (intOf i).toNat)
              case atStart => exact ⟨0, by omega, rfl, rfl⟩
              case round =>
                obtain ⟨j, hj, rfl, rfl⟩ := hrel
                by_cases hjt : j < ts.length
                · have dj : decide (j < ts.length) = true := decide_eq_true hjt
                  have dj2 : decide ((j : Int) < (ts.length : Int)) = true := decide_eq_true (by omega)
                  have i0 : (0 : Int) ≤ (j : Int) := by omega
                  have i1 : (j : Int) < (ts.length : Int) := by omega
                  have q0 := HQ.out j hjt
                  go_wp2_with fail
                  go_roundw
                  case rel => exact ⟨j + 1, by omega, by go_num, trivial⟩
                  case measure => simp [intOf]; omega
                · obtain rfl : j = ts.length := by omega
                  have dj2 : decide ((ts.length : Int) < (ts.length : Int)) = false := decide_eq_false (by omega)
                  clear HQ
                  go_wp2_with fail
                  refine LN.out.mono ?_; rintro e w8 ⟨rfl, hI8, _⟩
                  have HB8 := Lib.hid hI8.bel
                  clear hI8 LN
                  simp only [List.length_nil]
                  go_wp2_with fail
                  refine (AW.out _).mono ?_; rintro e w9 ⟨rfl, hb9⟩
                  have HF := Lib.hid (HB8.out.trans (hb9.mono HB8.out.size))
                  clear hb9 HB8
                  go_wp2_with fail
                  go_ret
                  exact ⟨rfl, HF.out⟩

set_option maxRecDepth 100000 in
theorem lifted (os : Os) (started : os.Started) (H : Type) (enc : TypeId × Value → H) :
    ReturnsInHanded {} Try.checked os 4 .any (Rows.wheelDueSpec.pre6 enc Try.prog Try.f4 Rows.wheelDueRow.domain false) (Rows.wheelDueSpec.post enc Try.prog Try.f4 false true false false) := by
  refine returnsInHanded_of_change (C := Try.checked) own started (by kernel_rfl) Try.func4
    (ChangeSpec.witness6 (enc := enc) (C := Try.checked) false ⟨#[], #[.slice none 0 0, .slice none 0 0], []⟩ 8 (by kernel_rfl) (by kernel_rfl) (by kernel_rfl) (by kernel_rfl)) ?_
  intro W base args ds gs before hval0 hW hcnd _
  have hval : ∀ (j : Nat) t v, Try.f4.params[j]? = some t → args[j]? = some v → Value.okWide Try.prog W .any base t v := hval0
  have hW' := hW
  obtain ⟨p, q, hA0, hV, rfl, hfz, hnd⟩ := hW
  have hA : DataW.TrodAll enc Try.prog W 0 (fun _ => true) true Try.f4.params.toList args.toList ds p := hA0
  rw [Try.params4] at hA hval
  obtain ⟨v0, vs0, d0, ds0, p0, q0, hargs, rfl, rfl, h0, r0⟩ := trodAll_cons hA
  obtain ⟨v1, vs1, d1, ds1, p1, q1, rfl, rfl, rfl, h1, r1⟩ := trodAll_cons r0
  obtain ⟨rfl, rfl, rfl⟩ := trodAll_nil r1
  obtain rfl : args = #[v0, v1] := by cases args; simp_all
  obtain ⟨rfl, rfl⟩ := trodVars_none hV
  obtain ⟨a0, len0, cap0, rfl⟩ := okWide_slice Try.underlying50 (hval 0 50 v0 rfl rfl)
  have k0 := h0
  have lt0 : ∀ x ∈ p0, x.block < W.heap.size := by obtain ⟨m, hm⟩ := k0; exact DataW.trod_lt m _ _ _ hm
  have w0 : Has W (.slice (.int .u16)) [.slice a0 len0 cap0] := by obtain ⟨m, hm⟩ := h0; exact op50 _ _ _ _ _ _ _ _ _ hm
  obtain ⟨a1, len1, cap1, rfl⟩ := okWide_slice Try.underlying51 (hval 1 51 v1 rfl rfl)
  have k1 := h1
  have lt1 : ∀ x ∈ p1, x.block < W.heap.size := by obtain ⟨m, hm⟩ := k1; exact DataW.trod_lt m _ _ _ hm
  have w1 : Has W (.slice (.int .u8)) [.slice a1 len1 cap1] := by obtain ⟨m, hm⟩ := h1; exact op51 _ _ _ _ _ _ _ _ _ hm
  clear hA0 hval0
  refine (walk a0 len0 cap0 a1 len1 cap1 W w0 w1).mono fun e W' ⟨he, bel⟩ => ?_
  subst he
  exact ⟨_, rfl, _, _, _, [], _, [], hW', trodAll_mk1 (shut_bool Try.underlying4 _), (trodAll_cons_mk (Below.trod laidOut (by kernel_rfl) (of_decide_eq_true (by kernel_rfl)) k0 bel lt0) (trodAll_cons_mk (Below.trod laidOut (by kernel_rfl) (of_decide_eq_true (by kernel_rfl)) k1 bel lt1) trodAll_mk0)), rfl, bel.frame _, fun h => by cases h⟩

theorem over : Rows.wheelDueRow.holds Try.pinned (OpenSpec.ofChange Rows.wheelDueSpec) :=
  OpenClaim.holds_of_wide 4 Try.f4 rfl rfl rfl rfl rfl rfl rfl ⟨rfl, rfl, rfl, rfl, rfl⟩ rfl rfl rfl rfl rfl (by kernel_rfl) Try.func4 (by kernel_rfl)
    (of_decide_eq_true (by kernel_rfl)) (by unfold Func.isWrapper; first | (rw [if_pos (by decide +kernel)]; kernel_rfl) | (rw [if_neg (by decide +kernel)]; exact ⟨rfl, rfl⟩))
    (fun os started H enc _ => lifted os started H enc)

/-- ████ THE STATEMENT ████ -/
theorem proved : Rows.WheelDueSaid := over
end Go.Proofs.Ytpdlpnfaclpgbaa.wheelDue
