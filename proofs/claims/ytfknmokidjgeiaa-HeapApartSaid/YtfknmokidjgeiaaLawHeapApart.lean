/- The law HeapApart of the repository answers true for every input. No conditions. -/
import Derived.Test.YtfknmokidjgeiaaHeapTwo
import Derived.Deep.DeepCutAuto
import Derived.Deep.LoopGhost
import Derived.Deep.CutBlock
import Derived.StillTailTactics
import Derived.Laws.AppendOwn
import Derived.Test.YtfknmokidjgeiaaRows
import Derived.WalkKit
import Derived.ProofKit
import Derived.OpenShut
import Derived.Below
import Derived.ShutString
import Derived.Carry
import Derived.Test.YtfknmokidjgeiaaArgs
namespace Go.Proofs.Ytfknmokidjgeiaa.heapApart
open Go.ChangeShapes Go.WideShapes Go.ChangeAt Go.RowKit
open Go.ChangeMaps (open_string shut_string)
set_option linter.unusedVariables false
set_option linter.unusedSimpArgs false

theorem own : ownKnob Try.prog.godebug = none := by kernel_rfl
theorem laidOut : laidOutB Try.prog = true := by kernel_rfl
theorem op3 : Opens Try.prog 3 (.int .i64) := opens_int Try.underlying3
theorem op24 : Opens Try.prog 24 (Sh.rep (.int .i64) 3) := opens_array Try.underlying24 (by kernel_rfl) (by kernel_rfl) op3
theorem op37 : Opens Try.prog 37 (.pair (.int .i64) (.pair (.int .i64) (.pair (Sh.rep (.int .i64) 3) .unit))) := opens_struct Try.underlying37 (by kernel_rfl) (fields_cons rfl (by kernel_rfl) op3 (fields_cons rfl (by kernel_rfl) op3 (fields_cons rfl (by kernel_rfl) op24 fields_nil)))
theorem op22 : Opens Try.prog 22 (.slice (.pair (.int .i64) (.pair (.int .i64) (.pair (Sh.rep (.int .i64) 3) .unit)))) := opens_slice Try.underlying22 (by kernel_rfl) (by decide) op37

set_option maxRecDepth 100000 in
set_option maxHeartbeats 4000000 in
theorem walk (a0 : Option Addr) (len0 cap0 : Nat) (a1 : Int) (c2 : Array Value) (w : World) (w0 : Has w (.slice (.pair (.int .i64) (.pair (.int .i64) (.pair (Sh.rep (.int .i64) 3) .unit)))) [.slice a0 len0 cap0]) (w1 : (Lit.int .i64 a1).wf = true) (w2 : Has w (Sh.rep (.int .i64) 3) c2.toList) :
    Calls Try.prog 5 #[.slice a0 len0 cap0, .int .i64 a1, .agg c2] w fun e w' => e = .returned (.bool true) ∧ Below w.heap.size w w' := by
  obtain ⟨acts, hlen, hrd, hok⟩ := acts_came w0
  subst hlen
  have hin : inI a1 := wf_in w1
  obtain ⟨key, hkey, hc2⟩ := key_of w2
  obtain rfl : c2 = #[.int .i64 key.a, .int .i64 key.b, .int .i64 key.c] := by cases c2; simp_all
  have HRD := Lib.hid hrd
  have HOK := Lib.hid hok
  have HXO := Lib.hid (show (⟨a1, key⟩ : Thg).ok from ⟨hin, hkey⟩)
  clear hrd hok w0 w1 w2 hc2 hin hkey
  have AW := Lib.hid fun w => heap_awake w
  have HB := Lib.hid ((Below.refl w.heap.size w).alloc (Nat.le_refl _) (.cells #[.int .i64 key.a, .int .i64 key.b, .int .i64 key.c] 24))
  have H5 := Lib.hid (blk_new w (.cells #[.int .i64 key.a, .int .i64 key.b, .int .i64 key.c] 24))
  obtain ⟨i0, hi, hz0, hz1, hz2⟩ := info_parts infoI64
  by_cases hg : 80 < acts.length
  · have d1 : decide ((80 : Int) < (acts.length : Int)) = true := decide_eq_true (by omega)
    have d2 : decide (80 < acts.length) = true := decide_eq_true hg
    go_enter Try.func5, Try.ntmps5
    go_wp2_with fail
    refine (AW.out _).mono ?_; rintro e wy ⟨rfl, hb⟩
    have HF := Lib.hid (HB.out.trans (hb.mono HB.out.size))
    clear hb
    go_wp2_with fail
    go_ret
    exact ⟨rfl, HF.out⟩
  · have d1 : decide ((80 : Int) < (acts.length : Int)) = false := decide_eq_false (by omega)
    have d2 : decide (80 < acts.length) = false := decide_eq_false hg
    have NW := Lib.hid fun w => hnew_any w
    have HG := Lib.hid hg
    clear hg
    go_enter Try.func5, Try.ntmps5
    go_wp2_with fail
    refine (NW.out _).mono ?_; rintro e w1 ⟨vh, F, rfl, hp, hF, hbn⟩
    have HP1 := Lib.hid hp
    have HF1 := Lib.hid hF
    have HBN := Lib.hid hbn
    clear hp hF hbn
    go_wp2_with fail
    refine (NW.out _).mono ?_; rintro e w2 ⟨vg, F2, rfl, hp, hF, hbn⟩
    generalize w.alloc (.cells #[.int .i64 key.a, .int .i64 key.b, .int .i64 key.c] 24) = wb at *
    have HI := Lib.hid (two_start HP1.out HF1.out HBN.out hp hF hbn)
    obtain ⟨⟨bh, hvh⟩, ⟨bg, hvg⟩⟩ := HI.out.ptrs
    subst hvh
    subst hvg
    clear hp hF hbn NW d1 d2 HP1 HF1 HBN
    have HA := Lib.hid (show ∀ k (hk : k < acts.length), ∃ b o, a0 = some ⟨b, o, none⟩ ∧ ∀ w', Below wb.heap.size wb w' → (w'.cell? ⟨b, o + k * 5, none⟩ = some (.int .i64 acts[k].kind) ∧ w'.cell? ⟨b, o + k * 5 + 1, none⟩ = some (.int .i64 acts[k].t.id) ∧ w'.cell? ⟨b, o + k * 5 + 2, none⟩ = some (.int .i64 acts[k].t.key.a) ∧ w'.cell? ⟨b, o + k * 5 + 2 + 1, none⟩ = some (.int .i64 acts[k].t.key.b) ∧ w'.cell? ⟨b, o + k * 5 + 2 + 2, none⟩ = some (.int .i64 acts[k].t.key.c)) from fun k hk => by
      obtain ⟨b, o, ha, hb, _, hx⟩ := HRD.out.at_ (k := k) (by rw [rowsA_len]; exact hk)
      refine ⟨b, o, ha, fun w' hw => ?_⟩
      have hq := HB.out.trans (hw.mono HB.out.size)
      exact ⟨(hq.cell (p := ⟨b, o + k * 5, none⟩) hb).trans (hx k _ (rowsA_get acts k hk) 0 _ rfl), (hq.cell (p := ⟨b, o + k * 5 + 1, none⟩) hb).trans (hx k _ (rowsA_get acts k hk) 1 _ rfl), (hq.cell (p := ⟨b, o + k * 5 + 2, none⟩) hb).trans (hx k _ (rowsA_get acts k hk) 2 _ rfl), (hq.cell (p := ⟨b, o + k * 5 + 3, none⟩) hb).trans (hx k _ (rowsA_get acts k hk) 3 _ rfl), (hq.cell (p := ⟨b, o + k * 5 + 4, none⟩) hb).trans (hx k _ (rowsA_get acts k hk) 4 _ rfl)⟩)
    go_wp2_with fail
    go_loopg [9] acts.length (fun g i wy => ∃ (k : Nat) (l : List Thg), k + g = acts.length ∧ i = .int .i64 k ∧ l.length ≤ k ∧ Inv3 wb (fun _ => False) (.pointer (some ⟨bh, 0, none⟩)) l (.pointer (some ⟨bg, 0, none⟩)) l (.slice none 0 0) [] wy)
    case atStart => exact ⟨0, [], by omega, rfl, by simp, HI.out⟩
    case round =>
      obtain ⟨k, l, hkg, rfl, hlk, hI⟩ := hrel
      replace HI := Lib.hid hI
      clear hI
      have hk300 : acts.length ≤ 80 := by have := HG.out; omega
      by_cases hlt : k < acts.length
      · obtain ⟨ba, oa, rfl, hcells⟩ := HA.out k hlt
        have HC := Lib.hid hcells
        have dk : decide (k < acts.length) = true := decide_eq_true hlt
        have hokk := HOK.out acts[k] (List.getElem_mem hlt)
        have HOK1 := Lib.hid hokk
        have q3 : IntKind.i64.wrap ((k : Int) + 1) = ((k + 1 : Nat) : Int) := by rw [IntWalk.i64_in _ (by omega)]; omega
        clear hcells hokk
        generalize acts[k] = act at *
        obtain ⟨p0, p1, p2, p3, p4⟩ := HC.out wr HI.out.bel
        by_cases hk1 : act.kind = 1
        · have e1 : (act.kind == 1) = true := by rw [hk1]; rfl
          have hpl := putT_len l act.t
          clear hk1
          go_wp2_with fail
          go_still_tail 11, (by kernel_rfl)
          change wpList _ _ _ _ _ wr.drew
          have hI2 := HI.out.below (w' := wr.drew) ⟨rfl, rfl, rfl, Nat.le_refl _, fun _ _ => rfl⟩
          have PH := iput_h act.t HOK1.out (by omega) hI2
          unfold V3.val at PH
          replace PH := Lib.hid PH
          clear p0 p1 p2 p3 p4 hI2
          generalize wr.drew = w2 at *
          go_wp2_with fail
          refine PH.out.mono ?_; rintro e w3 ⟨rfl, hI3⟩
          have HI3 := Lib.hid hI3
          obtain ⟨p0, p1, p2, p3, p4⟩ := HC.out w3 hI3.bel
          clear hI3 PH
          go_wp2_with fail
          go_still_tail 11, (by kernel_rfl)
          change wpList _ _ _ _ _ w3.drew
          have hI4 := HI3.out.below (w' := w3.drew) ⟨rfl, rfl, rfl, Nat.le_refl _, fun _ _ => rfl⟩
          have PZ := iput_z act.t HOK1.out (by omega) hI4
          unfold V3.val at PZ
          replace PZ := Lib.hid PZ
          clear p0 p1 p2 p3 p4 hI4
          generalize w3.drew = w4 at *
          go_wp2_with fail
          refine PZ.out.mono ?_; rintro e w5 ⟨rfl, hI5⟩
          have HI5 := Lib.hid hI5
          clear hI5 PZ
          go_wp2_with fail
          go_roundg (acts.length - (k + 1))
          case measure => omega
          case rel => exact ⟨k + 1, putT l act.t, by omega, by go_num, by omega, HI5.out⟩
        · have e1 : (act.kind == 1) = false := beq_false_of_ne hk1
          clear hk1
          by_cases hk2 : act.kind = 2
          · have e2 : (act.kind == 2) = true := by rw [hk2]; rfl
            have hdl := dropT_len l act.t.id
            clear hk2
            have PD := Lib.hid (idrop_h act.t.id HOK1.out.1 (by omega) HI.out)
            go_wp2_with fail
            refine PD.out.mono ?_; rintro e w3 ⟨rfl, hI3⟩
            clear p0 p1 p2 p3 p4
            obtain ⟨p0, p1, p2, p3, p4⟩ := HC.out w3 hI3.bel
            have PZ := Lib.hid (idrop_z act.t.id HOK1.out.1 (by omega) hI3)
            clear hI3 PD
            go_wp2_with fail
            refine PZ.out.mono ?_; rintro e w5 ⟨rfl, hI5⟩
            have HI5 := Lib.hid hI5
            clear hI5 PZ
            go_wp2_with fail
            go_roundg (acts.length - (k + 1))
            case measure => omega
            case rel => exact ⟨k + 1, dropT l act.t.id, by omega, by go_num, by omega, HI5.out⟩
          · have e2 : (act.kind == 2) = false := beq_false_of_ne hk2
            clear hk2
            go_wp2_with fail
            go_roundg (acts.length - (k + 1))
            case measure => omega
            case rel => exact ⟨k + 1, l, by omega, by go_num, by omega, HI.out⟩
      · have dk : decide (k < acts.length) = false := decide_eq_false hlt
        have hl80 : l.length ≤ 80 := by omega
        clear hlt hkg hlk hk300 HA HRD
        obtain ⟨s0, s1, s2⟩ := kb_cells ((HI.out.bel.block _ (lt_of_block H5.out)).trans H5.out)
        have PH := iput_h ⟨a1, key⟩ HXO.out (by omega) HI.out
        unfold V3.val at PH
        dsimp only at PH
        replace PH := Lib.hid PH
        go_wp2_with fail
        refine PH.out.mono ?_; rintro e w3 ⟨rfl, hI3⟩
        have PZ := Lib.hid (idrop_z a1 HXO.out.1 (by omega) hI3)
        clear hI3 PH s0 s1 s2
        go_wp2_with fail
        refine PZ.out.mono ?_; rintro e w4 ⟨rfl, hI4⟩
        have hpl := putT_len l ⟨a1, key⟩
        have hp2 := put_len l ⟨a1, key⟩
        have hdl := dropT_len l a1
        have AL := ball_h (by omega) hI4
        have HI4 := Lib.hid hI4
        have AK := Lib.hid fun j hj hne => apart_key l ⟨a1, key⟩ j hj hne
        have PK := Lib.hid (put_key l ⟨a1, key⟩)
        have RI := Lib.hid (rest_ids l ⟨a1, key⟩)
        dsimp only at hp2 AK PK RI
        have hil := idsT_len (putT l ⟨a1, key⟩)
        generalize putT l ⟨a1, key⟩ = lh at *
        generalize dropT l a1 = lg at *
        unfold IntsN at AL
        replace AL := Lib.hid AL
        clear hI4 PZ
        go_wp2_with fail
        refine AL.out.mono ?_; rintro e W ⟨va, rfl, hra, bW⟩
        have HIW := Lib.hid (HI4.out.below bW)
        have HRA := Lib.hid hra
        obtain ⟨Aa, ca, rfl, _, _⟩ := hra.form
        rw [ints_len]
        clear hra bW AL HI4
        go_wp2_with fail
        go_loopw [10, 12] (fun rest i wy => ∃ (k : Nat) (out : List Int), k ≤ (idsT lh).length ∧ i = .int .i64 k ∧ out = ((idsT lh).take k).filter (· != a1) ∧ wy.ownsRow W.heap.size 3 1 rest out.length (ints out) ∧ Below W.heap.size W wy) (fun _ i _ => (idsT lh).length - (intOf i).toNat)
        case atStart => exact ⟨0, [], by omega, rfl, by simp, World.ownsRow_nil _ _ _ _, Below.refl _ _⟩
        case round =>
          obtain ⟨k2, out, hk2, rfl, hout, hown, hbw⟩ := hrel
          have HO := Lib.hid hown
          have HBW := Lib.hid hbw
          have HOUT := Lib.hid hout
          have hol : out.length ≤ 1000 := by
            rw [hout]
            refine Nat.le_trans (List.length_filter_le _ _) ?_
            rw [List.length_take]; omega
          clear hown hbw hout
          by_cases hlt : k2 < (idsT lh).length
          · obtain ⟨ba, oa, rfl, hba, hx⟩ := HRA.out.at_ (k := k2) (by rw [ints_len]; exact hlt)
            have gx : wr.cell? ⟨ba, oa + k2, none⟩ = some (.int .i64 (idsT lh)[k2]) := by
              rw [HBW.out.cell (p := ⟨ba, oa + k2, none⟩) hba, hx k2 (by rw [ints_len]; exact hlt), ints_get]
            have dk2 : decide (k2 < (idsT lh).length) = true := decide_eq_true hlt
            have q3 : IntKind.i64.wrap ((k2 : Int) + 1) = ((k2 + 1 : Nat) : Int) := by rw [IntWalk.i64_in _ (by omega)]; omega
            have AKJ := AK.out (idsT lh)[k2] (List.getElem_mem hlt)
            have hfn := filter_next (idsT lh) a1 k2 hlt
            rw [← HOUT.out] at hfn
            have HJI := Lib.hid (inv_ids_in HIW.out _ (List.getElem_mem (l := idsT lh) (n := k2) hlt))
            clear hx
            generalize (idsT lh)[k2] = j at *
            by_cases hj : j = a1
            · rw [if_pos hj, List.append_nil] at hfn
              have dj : (j == a1) = true := by rw [hj]; simp
              have dj2 : (j != a1) = false := by rw [hj]; simp
              have HFN := Lib.hid hfn
              clear hj hfn AKJ
              go_wp2_with fail
              go_roundw
              case rel => exact ⟨k2 + 1, out, by omega, by go_num, HFN.out.symm, HO.out, HBW.out⟩
              case measure => simp [intOf]; omega
            · rw [if_neg hj] at hfn
              have dj : (j == a1) = false := beq_false_of_ne hj
              have dj2 : (j != a1) = true := by simp [bne, dj]
              have HFN := Lib.hid hfn
              have hakj := AKJ hj
              have HAKJ := Lib.hid hakj
              clear hj hfn AKJ hakj
              have hsz : W.heap.size ≤ wr.heap.size := HBW.out.size
              go_wp2_with (at_builtin; refine wpList_append_own _ rfl _ _ 50 rfl W.heap.size 3 i0 (.int .i64 0) 1 8 Try.underlying50 hi hz0 hz1 hz2 rfl (by decide) _ _ _ rfl (HO.out.alloc _) ⟨wr.heap.size, 0, none⟩ 1 1 [.int .i64 j] rfl rfl (cell_one_new _ _ _) ?c2 ?c3 ?c4 ?c5 ?_)
              case c2 => intro u hu; simp at hu; subst hu; rfl
              case c3 => unfold maxLen; omega
              case c4 => omega
              case c5 => simp; omega
              intro v' w4 hown4 hgrow _
              have hb4 := grown_below (HBW.out.alloc (HBW.out.size) _) hgrow (fun g hg => owns_row HO.out hg) (by simp; omega)
              have HB4 := Lib.hid hb4
              have hown4' : w4.ownsRow W.heap.size 3 1 v' (out ++ [j]).length (ints (out ++ [j])) := by
                simpa [ints] using hown4
              have HO4 := Lib.hid hown4'
              have gx4 : w4.cell? ⟨ba, oa + k2, none⟩ = some (.int .i64 j) := by
                rw [hb4.cell (p := ⟨ba, oa + k2, none⟩) hba, ← HBW.out.cell (p := ⟨ba, oa + k2, none⟩) hba]; exact gx
              have HI4 := Lib.hid (HIW.out.below hb4)
              have hlh : lh.length ≤ 100000 := by omega
              have hlg : lg.length ≤ 100000 := by omega
              have KH := bkey_h j HJI.out hlh HI4.out
              have KG := fun w' (h : Inv3 wb (fun _ => False) (.pointer (some ⟨bh, 0, none⟩)) lh (.pointer (some ⟨bg, 0, none⟩)) lg (.slice none 0 0) [] w') => bkey_z j HJI.out hlg h
              rw [HAKJ.out.1, HAKJ.out.2.2] at KG
              rw [HAKJ.out.2.1] at KH
              unfold V3.val at KH KG
              generalize keyT lh j = K at *
              replace KH := Lib.hid KH
              replace KG := Lib.hid KG
              clear hb4 hown4 hown4' hgrow gx
              go_wp2_with fail
              refine KH.out.mono ?_; rintro e w5 ⟨rfl, b5⟩
              have HO5 := Lib.hid ((owns_below HO4.out b5).alloc (.cells #[.int .i64 K.a, .int .i64 K.b, .int .i64 K.c] 24))
              have HI5 := Lib.hid ((HI4.out.below b5).below ((Below.refl _ _).alloc (Nat.le_refl _) (.cells #[.int .i64 K.a, .int .i64 K.b, .int .i64 K.c] 24)))
              have HB5 := Lib.hid ((HB4.out.trans (b5.mono HB4.out.size)).alloc (Nat.le_trans HB4.out.size b5.size) (.cells #[.int .i64 K.a, .int .i64 K.b, .int .i64 K.c] 24))
              have H13 := Lib.hid (blk_new w5 (.cells #[.int .i64 K.a, .int .i64 K.b, .int .i64 K.c] 24))
              have gx5 : (w5.alloc (.cells #[.int .i64 K.a, .int .i64 K.b, .int .i64 K.c] 24)).cell? ⟨ba, oa + k2, none⟩ = some (.int .i64 j) := by
                rw [HB5.out.cell (p := ⟨ba, oa + k2, none⟩) hba, ← HB4.out.cell (p := ⟨ba, oa + k2, none⟩) hba]; exact gx4
              have KG5 := Lib.hid (KG.out _ HI5.out)
              clear b5 KH KG gx4
              go_wp2_with fail
              refine KG5.out.mono ?_; rintro e w6 ⟨rfl, b6⟩
              have HO6 := Lib.hid ((owns_below HO5.out b6).alloc (.cells #[.int .i64 K.a, .int .i64 K.b, .int .i64 K.c] 24))
              have HB6 := Lib.hid ((HB5.out.trans (b6.mono HB5.out.size)).alloc (Nat.le_trans HB5.out.size b6.size) (.cells #[.int .i64 K.a, .int .i64 K.b, .int .i64 K.c] 24))
              have H136 := Lib.hid (blk_old (.cells #[.int .i64 K.a, .int .i64 K.b, .int .i64 K.c] 24) ((b6.block _ (lt_of_block H13.out)).trans H13.out))
              have H15 := Lib.hid (blk_new w6 (.cells #[.int .i64 K.a, .int .i64 K.b, .int .i64 K.c] 24))
              obtain ⟨c0, c1, c2⟩ := kb_cells H136.out
              obtain ⟨d0, d1, d2⟩ := kb_cells H15.out
              have E1 := fun w => eqK_run w K K
              rw [show eq3 K K = true by unfold eq3; simp] at E1
              clear b6 KG5 gx5
              go_wp2_with fail
              go_roundw
              case rel => exact ⟨k2 + 1, out ++ [j], by omega, by go_num, HFN.out.symm, HO6.out, HB6.out⟩
              case measure => simp [intOf]; omega
          · obtain rfl : k2 = (idsT lh).length := by omega
            have dk2 : decide ((idsT lh).length < (idsT lh).length) = false := decide_eq_false hlt
            rw [List.take_length, RI.out] at HOUT
            have hout := HOUT.out
            subst hout
            have HIR := Lib.hid (HIW.out.below HBW.out)
            have hlh : lh.length ≤ 100000 := by omega
            have hlg : lg.length ≤ 100000 := by omega
            have KH := bkey_h a1 HXO.out.1 hlh HIR.out
            rw [PK.out.1, PK.out.2] at KH
            unfold V3.val at KH
            replace KH := Lib.hid KH
            have hrr := Rd.own HO.out
            obtain ⟨Ar, cr, rfl, _, _⟩ := hrr.form
            rw [ints_len] at *
            have HRR := Lib.hid hrr
            clear hlt hrr
            go_wp2_with fail
            refine KH.out.mono ?_; rintro e w5 ⟨rfl, b5⟩
            have HB5 := Lib.hid ((Below.refl wr.heap.size wr).trans b5 |>.alloc b5.size (.cells #[.int .i64 key.a, .int .i64 key.b, .int .i64 key.c] 24))
            have HI5 := Lib.hid (HIR.out.below HB5.out)
            have H17 := Lib.hid (blk_new w5 (.cells #[.int .i64 key.a, .int .i64 key.b, .int .i64 key.c] 24))
            have hb05 := HI5.out.bel
            obtain ⟨c0, c1, c2⟩ := kb_cells H17.out
            obtain ⟨s0, s1, s2⟩ := kb_cells ((hb05.block _ (lt_of_block H5.out)).trans H5.out)
            have E1 := fun w => eqK_run w key key
            rw [show eq3 key key = true by unfold eq3; simp] at E1
            have AL := ball_z hlg HI5.out
            unfold IntsN at AL
            replace AL := Lib.hid AL
            have HR5 := Lib.hid (HRR.out.below HB5.out)
            clear b5 KH hb05
            go_wp2_with fail
            refine AL.out.mono ?_; rintro e w6 ⟨vb, rfl, hrb, b6⟩
            have HR6 := (HR5.out.below (b6.mono HB5.out.size)).more (B' := w6.heap.size) (Nat.le_trans HB5.out.size b6.size)
            have SM := isame_below vb _ (idsT lg) w6.heap.size w6 (by rw [idsT_len]; omega) hrb HR6
            obtain ⟨Ab, cb, rfl, _, _⟩ := hrb.form
            rw [ints_len] at *
            have HI6 := Lib.hid (HI5.out.below b6)
            replace SM := Lib.hid SM
            clear hrb HR6 b6 AL
            go_wp2_with fail
            refine SM.out.mono ?_; rintro e w7 ⟨rfl, b7⟩
            have HI7 := Lib.hid (HI6.out.below b7)
            have LG := Lib.hid (blen_z hlg HI7.out)
            clear b7 SM
            go_wp2_with fail
            refine LG.out.mono ?_; rintro e w8 ⟨rfl, b8⟩
            have HI8 := Lib.hid (HI7.out.below b8)
            have LH := Lib.hid (blen_h hlh HI8.out)
            have qs : IntKind.i64.wrap ((lh.length : Int) - 1) = (lg.length : Int) := by rw [IntWalk.i64_in _ (by omega)]; omega
            have qe : ((lg.length : Int) == (lg.length : Int)) = true := by simp
            clear b8 LG
            go_wp2_with fail
            refine LH.out.mono ?_; rintro e w9 ⟨rfl, b9⟩
            have HF := Lib.hid (HB.out.trans ((HI8.out.below b9).bel.mono HB.out.size))
            clear b9 LH
            go_wp2_with fail
            refine (AW.out _).mono ?_; rintro e w10 ⟨rfl, b10⟩
            replace HF := Lib.hid (HF.out.trans (b10.mono HF.out.size))
            clear b10
            go_wp2_with fail
            go_ret
            exact ⟨rfl, HF.out⟩

set_option maxRecDepth 100000 in
theorem lifted (os : Os) (started : os.Started) (H : Type) (enc : TypeId × Value → H) :
    ReturnsInHanded {} Try.checked os 5 .any (Rows.heapApartSpec.pre6 enc Try.prog Try.f5 Rows.heapApartRow.domain false) (Rows.heapApartSpec.post enc Try.prog Try.f5 false true false false) := by
  refine returnsInHanded_of_change (C := Try.checked) own started (by kernel_rfl) Try.func5
    (ChangeSpec.witness6 (enc := enc) (C := Try.checked) false ⟨#[], #[.slice none 0 0, .int .i64 0, .agg #[.int .i64 0, .int .i64 0, .int .i64 0]], []⟩ 8 (by kernel_rfl) (by kernel_rfl) (by kernel_rfl) (by kernel_rfl)) ?_
  intro W base args ds gs before hval0 hW hcnd _
  have hval : ∀ (j : Nat) t v, Try.f5.params[j]? = some t → args[j]? = some v → Value.okWide Try.prog W .any base t v := hval0
  have hW' := hW
  obtain ⟨p, q, hA0, hV, rfl, hfz, hnd⟩ := hW
  have hA : DataW.TrodAll enc Try.prog W 0 (fun _ => true) true Try.f5.params.toList args.toList ds p := hA0
  rw [Try.params5] at hA hval
  obtain ⟨v0, vs0, d0, ds0, p0, q0, hargs, rfl, rfl, h0, r0⟩ := trodAll_cons hA
  obtain ⟨v1, vs1, d1, ds1, p1, q1, rfl, rfl, rfl, h1, r1⟩ := trodAll_cons r0
  obtain ⟨v2, vs2, d2, ds2, p2, q2, rfl, rfl, rfl, h2, r2⟩ := trodAll_cons r1
  obtain ⟨rfl, rfl, rfl⟩ := trodAll_nil r2
  obtain rfl : args = #[v0, v1, v2] := by cases args; simp_all
  obtain ⟨rfl, rfl⟩ := trodVars_none hV
  obtain ⟨a0, len0, cap0, rfl⟩ := okWide_slice Try.underlying22 (hval 0 22 v0 rfl rfl)
  have k0 := h0
  have lt0 : ∀ x ∈ p0, x.block < W.heap.size := by obtain ⟨m, hm⟩ := k0; exact DataW.trod_lt m _ _ _ hm
  have w0 : Has W (.slice (.pair (.int .i64) (.pair (.int .i64) (.pair (Sh.rep (.int .i64) 3) .unit)))) [.slice a0 len0 cap0] := by obtain ⟨m, hm⟩ := h0; exact op22 _ _ _ _ _ _ _ _ _ hm
  obtain ⟨a1, rfl, rfl, rfl, w1⟩ := open_int Try.underlying3 (hval 1 3 v1 rfl rfl) h1
  obtain ⟨c2, rfl, _⟩ := okWide_array Try.underlying24 (hval 2 24 v2 rfl rfl)
  have k2 := h2
  have lt2 : ∀ x ∈ p2, x.block < W.heap.size := by obtain ⟨m, hm⟩ := k2; exact DataW.trod_lt m _ _ _ hm
  have w2 : Has W (Sh.rep (.int .i64) 3) c2.toList := by obtain ⟨m, hm⟩ := h2; exact op24 _ _ _ _ _ _ _ _ _ hm
  clear hA0 hval0
  refine (walk a0 len0 cap0 a1 c2 W w0 w1 w2).mono fun e W' ⟨he, bel⟩ => ?_
  subst he
  exact ⟨_, rfl, _, _, _, [], _, [], hW', trodAll_mk1 (shut_bool Try.underlying4 _), (trodAll_cons_mk (Below.trod laidOut (by kernel_rfl) (of_decide_eq_true (by kernel_rfl)) k0 bel lt0) (trodAll_cons_mk (shut_int Try.underlying3 w1) (trodAll_cons_mk (Below.trod laidOut (by kernel_rfl) (of_decide_eq_true (by kernel_rfl)) k2 bel lt2) trodAll_mk0))), rfl, bel.frame _, fun h => by cases h⟩

theorem over : Rows.heapApartRow.holds Try.pinned (OpenSpec.ofChange Rows.heapApartSpec) :=
  OpenClaim.holds_of_wide 5 Try.f5 rfl rfl rfl rfl rfl rfl rfl ⟨rfl, rfl, rfl, rfl, rfl⟩ rfl rfl rfl rfl rfl (by kernel_rfl) Try.func5 (by kernel_rfl)
    (of_decide_eq_true (by kernel_rfl)) (by unfold Func.isWrapper; first | (rw [if_pos (by decide +kernel)]; kernel_rfl) | (rw [if_neg (by decide +kernel)]; exact ⟨rfl, rfl⟩))
    (fun os started H enc _ => lifted os started H enc)

/-- ████ THE STATEMENT ████ -/
theorem proved : Rows.HeapApartSaid := over
end Go.Proofs.Ytfknmokidjgeiaa.heapApart
