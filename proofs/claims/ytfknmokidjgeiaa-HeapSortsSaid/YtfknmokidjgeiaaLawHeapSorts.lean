/- The law HeapSorts of the repository answers true for every input. No conditions. -/
import Derived.Test.YtfknmokidjgeiaaHeapOne
import Derived.Deep.DeepCutAuto
import Derived.Deep.LoopGhost
import Derived.Deep.CutBlock
import Derived.StillTailTactics
import Derived.Test.YtfknmokidjgeiaaRows
import Derived.WalkKit
import Derived.ProofKit
import Derived.OpenShut
import Derived.Below
import Derived.ShutString
import Derived.Carry
import Derived.Test.YtfknmokidjgeiaaArgs
namespace Go.Proofs.Ytfknmokidjgeiaa.heapSorts
open Go.ChangeShapes Go.WideShapes Go.ChangeAt Go.RowKit
open Go.ChangeMaps (open_string shut_string)
set_option linter.unusedVariables false
set_option linter.unusedSimpArgs false

theorem own : ownKnob Try.prog.godebug = none := by kernel_rfl
theorem laidOut : laidOutB Try.prog = true := by kernel_rfl
theorem op3 : Opens Try.prog 3 (.int .i64) := opens_int Try.underlying3
theorem op24 : Opens Try.prog 24 (Sh.rep (.int .i64) 3) := opens_array Try.underlying24 (by kernel_rfl) (by kernel_rfl) op3
theorem op37 : Opens Try.prog 37 (.pair (.int .i64) (.pair (.int .i64) (.pair (Sh.rep (.int .i64) 3) .unit))) := opens_struct Try.underlying37 (by kernel_rfl) (fields_cons rfl (by kernel_rfl) op3 (fields_cons rfl (by kernel_rfl) op3 (fields_cons rfl (by kernel_rfl) op24 fields_nil)))
theorem op22 : Opens Try.prog 22 (.slice (.pair (.int .i64) (.pair (.int .i64) (.pair (Sh.rep (.int .i64) 3) .unit)))) := opens_slice Try.underlying22 (by kernel_rfl) (by decide) op37

set_option maxRecDepth 100000 in
set_option maxHeartbeats 4000000 in
theorem walk (a0 : Option Addr) (len0 cap0 : Nat) (w : World) (w0 : Has w (.slice (.pair (.int .i64) (.pair (.int .i64) (.pair (Sh.rep (.int .i64) 3) .unit)))) [.slice a0 len0 cap0]) :
    Calls Try.prog 4 #[.slice a0 len0 cap0] w fun e w' => e = .returned (.bool true) ∧ Below w.heap.size w w' := by
  obtain ⟨acts, hlen, hrd, hok⟩ := acts_came w0
  subst hlen
  have HRD := Lib.hid hrd
  have HOK := Lib.hid hok
  clear hrd hok w0
  have AW := Lib.hid fun w => heap_awake w
  by_cases hg : 300 < acts.length
  · have d1 : decide ((300 : Int) < (acts.length : Int)) = true := decide_eq_true (by omega)
    have d2 : decide (300 < acts.length) = true := decide_eq_true hg
    go_enter Try.func4, Try.ntmps4
    go_wp2_with fail
    refine (AW.out _).mono ?_; rintro e wy ⟨rfl, hb⟩
    have HF := Lib.hid hb
    clear hb
    go_wp2_with fail
    go_ret
    exact ⟨rfl, HF.out⟩
  · have d1 : decide ((300 : Int) < (acts.length : Int)) = false := decide_eq_false (by omega)
    have d2 : decide (300 < acts.length) = false := decide_eq_false hg
    have NW := Lib.hid fun w => hnew_any w
    have HG := Lib.hid hg
    clear hg
    go_enter Try.func4, Try.ntmps4
    go_wp2_with fail
    refine (NW.out _).mono ?_; rintro e w1 ⟨vh, F, rfl, hp, hF, hbn⟩
    have HI := Lib.hid (one_start hp hF hbn)
    obtain ⟨bh, hvh⟩ := HI.out.ptr
    subst hvh
    clear hp hF hbn NW d1 d2
    have HA := Lib.hid (show ∀ k (hk : k < acts.length), ∃ b o, a0 = some ⟨b, o, none⟩ ∧ ∀ w', Below w.heap.size w w' → (w'.cell? ⟨b, o + k * 5, none⟩ = some (.int .i64 acts[k].kind) ∧ w'.cell? ⟨b, o + k * 5 + 1, none⟩ = some (.int .i64 acts[k].t.id) ∧ w'.cell? ⟨b, o + k * 5 + 2, none⟩ = some (.int .i64 acts[k].t.key.a) ∧ w'.cell? ⟨b, o + k * 5 + 2 + 1, none⟩ = some (.int .i64 acts[k].t.key.b) ∧ w'.cell? ⟨b, o + k * 5 + 2 + 2, none⟩ = some (.int .i64 acts[k].t.key.c)) from fun k hk => by
      obtain ⟨b, o, ha, hb, _, hx⟩ := HRD.out.at_ (k := k) (by rw [rowsA_len]; exact hk)
      refine ⟨b, o, ha, fun w' hq => ?_⟩
      exact ⟨(hq.cell (p := ⟨b, o + k * 5, none⟩) hb).trans (hx k _ (rowsA_get acts k hk) 0 _ rfl), (hq.cell (p := ⟨b, o + k * 5 + 1, none⟩) hb).trans (hx k _ (rowsA_get acts k hk) 1 _ rfl), (hq.cell (p := ⟨b, o + k * 5 + 2, none⟩) hb).trans (hx k _ (rowsA_get acts k hk) 2 _ rfl), (hq.cell (p := ⟨b, o + k * 5 + 3, none⟩) hb).trans (hx k _ (rowsA_get acts k hk) 3 _ rfl), (hq.cell (p := ⟨b, o + k * 5 + 4, none⟩) hb).trans (hx k _ (rowsA_get acts k hk) 4 _ rfl)⟩)
    go_wp2_with fail
    go_loopg [4, 5] acts.length (fun g n i wy => ∃ (k : Nat) (l : List Thg), k + g = acts.length ∧ i = .int .i64 k ∧ n = .int .i64 l.length ∧ l.length ≤ k ∧ Inv1 w (fun _ => False) (.pointer (some ⟨bh, 0, none⟩)) l wy)
    case atStart => exact ⟨0, [], by omega, rfl, rfl, by simp, HI.out⟩
    case round =>
      obtain ⟨k, l, hkg, rfl, rfl, hlk, hI⟩ := hrel
      replace HI := Lib.hid hI
      clear hI
      have hk300 : acts.length ≤ 300 := by have := HG.out; omega
      by_cases hlt : k < acts.length
      · obtain ⟨ba, oa, rfl, hcells⟩ := HA.out k hlt
        have HC := Lib.hid hcells
        have dk : decide (k < acts.length) = true := decide_eq_true hlt
        have hokk := HOK.out acts[k] (List.getElem_mem hlt)
        have HOK1 := Lib.hid hokk
        have q3 : IntKind.i64.wrap ((k : Int) + 1) = ((k + 1 : Nat) : Int) := by rw [IntWalk.i64_in _ (by omega)]; omega
        have q4 : IntKind.i64.wrap ((l.length : Int) + 1) = ((l.length + 1 : Nat) : Int) := by rw [IntWalk.i64_in _ (by omega)]; omega
        clear hcells hokk
        generalize acts[k] = act at *
        obtain ⟨p0, p1, p2, p3, p4⟩ := HC.out wr HI.out.bel
        have hpl := put_len_new l act.t (sorted_uniq HI.out.sorted)
        have hdl := drop_len l act.t.id (sorted_uniq HI.out.sorted)
        by_cases hk1 : act.kind = 1
        · have e1 : (act.kind == 1) = true := by rw [hk1]; rfl
          clear hk1 hdl
          go_wp2_with fail
          go_still_tail 11, (by kernel_rfl)
          change wpList _ _ _ _ _ wr.drew
          have hI2 := HI.out.below (w' := wr.drew) ⟨rfl, rfl, rfl, Nat.le_refl _, fun _ _ => rfl⟩
          have PH := oput act.t HOK1.out (by omega) hI2
          unfold V3.val at PH
          replace PH := Lib.hid PH
          clear p0 p1 p2 p3 p4 hI2
          generalize wr.drew = w2 at *
          go_wp2_with fail
          refine PH.out.mono ?_; rintro e w3 ⟨rfl, hI3, _⟩
          have HI3 := Lib.hid hI3
          clear hI3 PH
          cases hfn : (findT l act.t.id).isNone
          · rw [hfn] at hpl
            have hpl2 : (putT l act.t).length = l.length := by simpa using hpl
            have HPL := Lib.hid hpl2
            clear hpl hpl2 hfn
            go_wp2_with fail
            go_roundg (acts.length - (k + 1))
            case measure => omega
            case rel => exact ⟨k + 1, putT l act.t, by omega, by go_num, by rw [HPL.out], by rw [HPL.out]; omega, HI3.out⟩
          · rw [hfn] at hpl
            have hpl2 : (putT l act.t).length = l.length + 1 := by simpa using hpl
            have HPL := Lib.hid hpl2
            clear hpl hpl2 hfn
            go_wp2_with fail
            go_roundg (acts.length - (k + 1))
            case measure => omega
            case rel => exact ⟨k + 1, putT l act.t, by omega, by go_num, by rw [HPL.out]; go_num, by rw [HPL.out]; omega, HI3.out⟩
        · have e1 : (act.kind == 1) = false := beq_false_of_ne hk1
          clear hk1 hpl
          by_cases hk2 : act.kind = 2
          · have e2 : (act.kind == 2) = true := by rw [hk2]; rfl
            clear hk2
            have PD := Lib.hid (odrop act.t.id HOK1.out.1 (by omega) HI.out)
            go_wp2_with fail
            refine PD.out.mono ?_; rintro e w3 ⟨rfl, hI3, _⟩
            have HI3 := Lib.hid hI3
            clear hI3 PD
            cases hfn : (findT l act.t.id).isSome
            · rw [hfn] at hdl
              have hdl2 : (dropT l act.t.id).length = l.length := by simpa using hdl
              have HPL := Lib.hid hdl2
              clear hdl hdl2 hfn
              go_wp2_with fail
              go_roundg (acts.length - (k + 1))
              case measure => omega
              case rel => exact ⟨k + 1, dropT l act.t.id, by omega, by go_num, by rw [HPL.out], by rw [HPL.out]; omega, HI3.out⟩
            · rw [hfn] at hdl
              have hdl2 : (dropT l act.t.id).length + 1 = l.length := by simpa using hdl
              have HPL := Lib.hid hdl2
              have q5 : IntKind.i64.wrap ((l.length : Int) - 1) = (((dropT l act.t.id).length : Nat) : Int) := by rw [IntWalk.i64_in _ (by omega)]; omega
              clear hdl hdl2 hfn
              generalize hl' : dropT l act.t.id = l' at *
              go_wp2_with fail
              go_roundg (acts.length - (k + 1))
              case measure => omega
              case rel => exact ⟨k + 1, l', by omega, by go_num, by have := HPL.out; go_num, by have := HPL.out; omega, HI3.out⟩
          · have e2 : (act.kind == 2) = false := beq_false_of_ne hk2
            clear hk2 hdl
            go_wp2_with fail
            go_roundg (acts.length - (k + 1))
            case measure => omega
            case rel => exact ⟨k + 1, l, by omega, by go_num, rfl, by omega, HI.out⟩
      · have dk : decide (k < acts.length) = false := decide_eq_false hlt
        have hl300 : l.length ≤ 300 := by omega
        clear hlt hkg hlk hk300 HA HRD
        have hI2 := HI.out.box (.cells #[.int .i64 0, .int .i64 0, .int .i64 0] 24)
        have hb6 : (wr.alloc (.cells #[.int .i64 0, .int .i64 0, .int .i64 0] 24)).heap[wr.heap.size]? = some (.cells #[.int .i64 zero3.a, .int .i64 zero3.b, .int .i64 zero3.c] 24 (0, 0)) := blk_new _ _
        have HI2 := Lib.hid (hI2.less (G' := fun q => q = wr.heap.size) fun q hq => Or.inr hq)
        have H6 := Lib.hid hb6
        clear hI2 hb6
        go_wp2_with fail
        generalize wr.alloc (.cells #[.int .i64 0, .int .i64 0, .int .i64 0] 24) = wx at *
        generalize wr.heap.size = b6 at *
        go_loopg [7, 8] l.length (fun g pid i wy => ∃ (k : Nat) (m : List Thg) (p : Thg), k + m.length = l.length ∧ g = m.length ∧ i = .int .i64 k ∧ pid = .int .i64 p.id ∧ Inv1 w (fun q => q = b6) (.pointer (some ⟨bh, 0, none⟩)) m wy ∧ wy.heap[b6]? = some (.cells #[.int .i64 p.key.a, .int .i64 p.key.b, .int .i64 p.key.c] 24 (0, 0)) ∧ (0 < k → ∀ t ∈ m, aheadT p t = true) ∧ p.ok)
        case atStart => exact ⟨0, l, ⟨0, zero3⟩, by omega, rfl, rfl, rfl, HI2.out, H6.out, fun h => absurd h (by omega), thg_zero_ok⟩
        case round =>
          obtain ⟨k2, m, p, hkm, rfl, rfl, rfl, hI3, hb6, hah, hpo⟩ := hrel
          have HI3 := Lib.hid hI3
          have H6' := Lib.hid hb6
          have HAH := Lib.hid hah
          have HPO := Lib.hid hpo
          clear hI3 hb6 hah hpo
          cases m with
          | nil =>
            have hk2 : k2 = l.length := by simpa using hkm
            have dk2 : decide ((k2 : Int) < (l.length : Int)) = false := decide_eq_false (by omega)
            have dk3 : decide (k2 < l.length) = false := decide_eq_false (by omega)
            have TK := otake (by simp) HI3.out
            unfold topT V3.val zero3 at TK
            replace TK := Lib.hid TK
            clear hk2 hkm
            go_wp2_with fail
            refine TK.out.mono ?_; rintro e w4 ⟨rfl, hI4, _⟩
            have HF := Lib.hid (hI4.bel.alloc hI4.bel.size (.cells #[.int .i64 0, .int .i64 0, .int .i64 0] 24))
            clear hI4 TK
            go_wp2_with fail
            refine (AW.out _).mono ?_; rintro e w5 ⟨rfl, hb⟩
            replace HF := Lib.hid (HF.out.trans (hb.mono HF.out.size))
            clear hb
            go_wp2_with fail
            go_ret
            exact ⟨rfl, HF.out⟩
          | cons t r =>
            have hlen : k2 + r.length + 1 = l.length := by simpa [Nat.add_assoc] using hkm
            have dk2 : decide ((k2 : Int) < (l.length : Int)) = true := decide_eq_true (by omega)
            have dk3 : decide (k2 < l.length) = true := decide_eq_true (by omega)
            have hn : (t :: r).length ≤ 100000 := by simp; omega
            have TO := Lib.hid (otopof hn HI3.out)
            have HTI := Lib.hid (HI3.out.sorted.2.1 t (by simp)).1
            clear hkm
            go_wp2_with fail
            refine TO.out.mono ?_; rintro e w4 ⟨rfl, b4⟩
            have hs4 := HI3.out.stay b4
            have hI4 := HI3.out.below b4
            have KY := okey t.id (hI4.sorted.2.1 t (by simp)).1 hn hI4
            rw [keyT_head, find_head] at KY
            unfold V3.val at KY
            replace KY := Lib.hid KY
            have H64 := Lib.hid ((hs4 b6 rfl).trans H6'.out)
            have HI4 := Lib.hid hI4
            clear b4 hs4 hI4 TO
            go_wp2_with fail
            refine KY.out.mono ?_; rintro e w5 ⟨rfl, b5⟩
            have hs5 := HI4.out.stay b5
            have hI5 := HI4.out.below b5
            have HI5 := Lib.hid (hI5.box (.cells #[.int .i64 t.key.a, .int .i64 t.key.b, .int .i64 t.key.c] 24))
            have H65 := Lib.hid (blk_old (.cells #[.int .i64 t.key.a, .int .i64 t.key.b, .int .i64 t.key.c] 24) ((hs5 b6 rfl).trans H64.out))
            have H95 := Lib.hid (blk_new w5 (.cells #[.int .i64 t.key.a, .int .i64 t.key.b, .int .i64 t.key.c] 24))
            clear b5 hs5 hI5 KY
            have TK := otake hn HI5.out
            unfold topT V3.val at TK
            replace TK := Lib.hid TK
            go_wp2_with fail
            refine TK.out.mono ?_; rintro e w6 ⟨rfl, hI6, hs6⟩
            have hI7 := hI6.box (.cells #[.int .i64 t.key.a, .int .i64 t.key.b, .int .i64 t.key.c] 24)
            have HI7 := Lib.hid hI7
            have H66 := Lib.hid (blk_old (.cells #[.int .i64 t.key.a, .int .i64 t.key.b, .int .i64 t.key.c] 24) ((hs6 b6 (Or.inl rfl)).trans H65.out))
            have H96 := Lib.hid (blk_old (.cells #[.int .i64 t.key.a, .int .i64 t.key.b, .int .i64 t.key.c] 24) ((hs6 w5.heap.size (Or.inr rfl)).trans H95.out))
            have H12 := Lib.hid (blk_new w6 (.cells #[.int .i64 t.key.a, .int .i64 t.key.b, .int .i64 t.key.c] 24))
            have hso := sorted_head HI3.out.sorted
            have HSO := Lib.hid hso
            have HU := Lib.hid (find_tail t r (sorted_uniq HI3.out.sorted))
            clear hI6 hs6 hI7 TK hso
            obtain ⟨a0', a1', a2'⟩ := kb_cells H66.out
            obtain ⟨b0', b1', b2'⟩ := kb_cells H96.out
            obtain ⟨c0', c1', c2'⟩ := kb_cells H12.out
            obtain ⟨f0, f1, f2⟩ := kb_free H66.out
            have E1 := fun w => eqK_run w t.key t.key
            rw [show eq3 t.key t.key = true by unfold eq3; simp] at E1
            by_cases hz : k2 = 0
            · have dz : decide ((0 : Int) < (k2 : Int)) = false := decide_eq_false (by omega)
              have q3 : IntKind.i64.wrap ((k2 : Int) + 1) = ((k2 + 1 : Nat) : Int) := by rw [IntWalk.i64_in _ (by omega)]; omega
              have dz2 : decide ((k2 : Int) > 0) = false := dz
              have dz3 : decide (0 < k2) = false := decide_eq_false (by omega)
              clear hz
              go_wp2_with fail
              clear a0' a1' a2' b0' b1' b2' c0' c1' c2' f0 f1 f2 E1
              have hI8 := HI7.out.setK (b := b6) (Or.inl (Or.inl rfl)) t.key
              have h68 := setK_blk (v := t.key) H66.out
              have KN := okey t.id HTI.out (show r.length ≤ 100000 by omega) hI8
              rw [keyT_none r t.id HU.out, HU.out] at KN
              unfold V3.val zero3 at KN
              unfold setK at hI8 h68 KN
              replace KN := Lib.hid KN
              have HI8 := Lib.hid hI8
              have H68 := Lib.hid h68
              clear hI8 h68
              refine KN.out.mono ?_; rintro e w8 ⟨rfl, b8⟩
              have HI9 := Lib.hid (((HI8.out.below b8).box (.cells #[.int .i64 0, .int .i64 0, .int .i64 0] 24)).less (G' := fun q => q = b6) fun q hq => Or.inl (Or.inl (Or.inl hq)))
              have H69 := Lib.hid (blk_old (.cells #[.int .i64 0, .int .i64 0, .int .i64 0] 24) ((HI8.out.stay b8 b6 (Or.inl (Or.inl rfl))).trans H68.out))
              clear b8 KN
              go_wp2_with fail
              go_roundg r.length
              case measure => simp
              case rel => exact ⟨k2 + 1, r, t, by omega, rfl, by go_num, rfl, HI9.out, H69.out, fun _ => HSO.out.1, HSO.out.2.1⟩
            · have dz : decide ((0 : Int) < (k2 : Int)) = true := decide_eq_true (by omega)
              have q3 : IntKind.i64.wrap ((k2 : Int) + 1) = ((k2 + 1 : Nat) : Int) := by rw [IntWalk.i64_in _ (by omega)]; omega
              have dz2 : decide ((k2 : Int) > 0) = true := dz
              have dz3 : decide (0 < k2) = true := decide_eq_true (by omega)
              have hn1 := ahead_not (HAH.out (by omega) t (by simp))
              have LS := hless_any t.key p.key (w6.alloc (.cells #[.int .i64 t.key.a, .int .i64 t.key.b, .int .i64 t.key.c] 24)) HSO.out.2.1.2 HPO.out.2
              rw [hn1.1] at LS
              unfold V3.val at LS
              replace LS := Lib.hid LS
              have HN2 := Lib.hid hn1.2
              clear hz hn1
              go_wp2_with fail
              refine LS.out.mono ?_; rintro e w7 ⟨rfl, b7⟩
              have HI7' := Lib.hid (HI7.out.below b7)
              have H66' := Lib.hid ((HI7.out.stay b7 b6 (Or.inl (Or.inl rfl))).trans H66.out)
              have H12' := Lib.hid ((b7.block _ (lt_of_block H12.out)).trans H12.out)
              clear b7 LS a0' a1' a2' b0' b1' b2' c0' c1' c2' f0 f1 f2 E1
              obtain ⟨a0', a1', a2'⟩ := kb_cells H66'.out
              obtain ⟨c0', c1', c2'⟩ := kb_cells H12'.out
              obtain ⟨f0, f1, f2⟩ := kb_free H66'.out
              have E2 := fun w => eqK_run w t.key p.key
              cases he : eq3 t.key p.key
              · rw [he] at E2
                clear he
                go_wp2_with fail
                clear a0' a1' a2' c0' c1' c2' f0 f1 f2 E2
                have hI8 := HI7'.out.setK (b := b6) (Or.inl (Or.inl rfl)) t.key
                have h68 := setK_blk (v := t.key) H66'.out
                have KN := okey t.id HTI.out (show r.length ≤ 100000 by omega) hI8
                rw [keyT_none r t.id HU.out, HU.out] at KN
                unfold V3.val zero3 at KN
                unfold setK at hI8 h68 KN
                replace KN := Lib.hid KN
                have HI8 := Lib.hid hI8
                have H68 := Lib.hid h68
                clear hI8 h68
                refine KN.out.mono ?_; rintro e w8 ⟨rfl, b8⟩
                have HI9 := Lib.hid (((HI8.out.below b8).box (.cells #[.int .i64 0, .int .i64 0, .int .i64 0] 24)).less (G' := fun q => q = b6) fun q hq => Or.inl (Or.inl (Or.inl hq)))
                have H69 := Lib.hid (blk_old (.cells #[.int .i64 0, .int .i64 0, .int .i64 0] 24) ((HI8.out.stay b8 b6 (Or.inl (Or.inl rfl))).trans H68.out))
                clear b8 KN
                go_wp2_with fail
                go_roundg r.length
                case measure => simp
                case rel => exact ⟨k2 + 1, r, t, by omega, rfl, by go_num, rfl, HI9.out, H69.out, fun _ => HSO.out.1, HSO.out.2.1⟩
              · rw [he] at E2
                have dle : decide (t.id ≤ p.id) = false := decide_eq_false (by have := HN2.out he; omega)
                clear he
                go_wp2_with fail
                clear a0' a1' a2' c0' c1' c2' f0 f1 f2 E2
                have hI8 := HI7'.out.setK (b := b6) (Or.inl (Or.inl rfl)) t.key
                have h68 := setK_blk (v := t.key) H66'.out
                have KN := okey t.id HTI.out (show r.length ≤ 100000 by omega) hI8
                rw [keyT_none r t.id HU.out, HU.out] at KN
                unfold V3.val zero3 at KN
                unfold setK at hI8 h68 KN
                replace KN := Lib.hid KN
                have HI8 := Lib.hid hI8
                have H68 := Lib.hid h68
                clear hI8 h68
                refine KN.out.mono ?_; rintro e w8 ⟨rfl, b8⟩
                have HI9 := Lib.hid (((HI8.out.below b8).box (.cells #[.int .i64 0, .int .i64 0, .int .i64 0] 24)).less (G' := fun q => q = b6) fun q hq => Or.inl (Or.inl (Or.inl hq)))
                have H69 := Lib.hid (blk_old (.cells #[.int .i64 0, .int .i64 0, .int .i64 0] 24) ((HI8.out.stay b8 b6 (Or.inl (Or.inl rfl))).trans H68.out))
                clear b8 KN
                go_wp2_with fail
                go_roundg r.length
                case measure => simp
                case rel => exact ⟨k2 + 1, r, t, by omega, rfl, by go_num, rfl, HI9.out, H69.out, fun _ => HSO.out.1, HSO.out.2.1⟩

set_option maxRecDepth 100000 in
theorem lifted (os : Os) (started : os.Started) (H : Type) (enc : TypeId × Value → H) :
    ReturnsInHanded {} Try.checked os 4 .any (Rows.heapSortsSpec.pre6 enc Try.prog Try.f4 Rows.heapSortsRow.domain false) (Rows.heapSortsSpec.post enc Try.prog Try.f4 false true false false) := by
  refine returnsInHanded_of_change (C := Try.checked) own started (by kernel_rfl) Try.func4
    (ChangeSpec.witness6 (enc := enc) (C := Try.checked) false ⟨#[], #[.slice none 0 0], []⟩ 8 (by kernel_rfl) (by kernel_rfl) (by kernel_rfl) (by kernel_rfl)) ?_
  intro W base args ds gs before hval0 hW hcnd _
  have hval : ∀ (j : Nat) t v, Try.f4.params[j]? = some t → args[j]? = some v → Value.okWide Try.prog W .any base t v := hval0
  have hW' := hW
  obtain ⟨p, q, hA0, hV, rfl, hfz, hnd⟩ := hW
  have hA : DataW.TrodAll enc Try.prog W 0 (fun _ => true) true Try.f4.params.toList args.toList ds p := hA0
  rw [Try.params4] at hA hval
  obtain ⟨v0, vs0, d0, ds0, p0, q0, hargs, rfl, rfl, h0, r0⟩ := trodAll_cons hA
  obtain ⟨rfl, rfl, rfl⟩ := trodAll_nil r0
  obtain rfl : args = #[v0] := by cases args; simp_all
  obtain ⟨rfl, rfl⟩ := trodVars_none hV
  obtain ⟨a0, len0, cap0, rfl⟩ := okWide_slice Try.underlying22 (hval 0 22 v0 rfl rfl)
  have k0 := h0
  have lt0 : ∀ x ∈ p0, x.block < W.heap.size := by obtain ⟨m, hm⟩ := k0; exact DataW.trod_lt m _ _ _ hm
  have w0 : Has W (.slice (.pair (.int .i64) (.pair (.int .i64) (.pair (Sh.rep (.int .i64) 3) .unit)))) [.slice a0 len0 cap0] := by obtain ⟨m, hm⟩ := h0; exact op22 _ _ _ _ _ _ _ _ _ hm
  clear hA0 hval0
  refine (walk a0 len0 cap0 W w0).mono fun e W' ⟨he, bel⟩ => ?_
  subst he
  exact ⟨_, rfl, _, _, _, [], _, [], hW', trodAll_mk1 (shut_bool Try.underlying4 _), (trodAll_cons_mk (Below.trod laidOut (by kernel_rfl) (of_decide_eq_true (by kernel_rfl)) k0 bel lt0) trodAll_mk0), rfl, bel.frame _, fun h => by cases h⟩

theorem over : Rows.heapSortsRow.holds Try.pinned (OpenSpec.ofChange Rows.heapSortsSpec) :=
  OpenClaim.holds_of_wide 4 Try.f4 rfl rfl rfl rfl rfl rfl rfl ⟨rfl, rfl, rfl, rfl, rfl⟩ rfl rfl rfl rfl rfl (by kernel_rfl) Try.func4 (by kernel_rfl)
    (of_decide_eq_true (by kernel_rfl)) (by unfold Func.isWrapper; first | (rw [if_pos (by decide +kernel)]; kernel_rfl) | (rw [if_neg (by decide +kernel)]; exact ⟨rfl, rfl⟩))
    (fun os started H enc _ => lifted os started H enc)

/-- ████ THE STATEMENT ████ -/
theorem proved : Rows.HeapSortsSaid := over
end Go.Proofs.Ytfknmokidjgeiaa.heapSorts
