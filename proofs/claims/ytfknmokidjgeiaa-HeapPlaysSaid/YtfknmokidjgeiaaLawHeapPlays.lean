/- The law HeapPlays of the repository answers true for every input. No conditions. -/
import Derived.Test.YtfknmokidjgeiaaHpE
import Derived.Deep.DeepCutAuto
import Derived.Deep.LoopGhost
import Derived.Deep.CutBlock
import Derived.StillTailTactics
import Derived.Test.YtfknmokidjgeiaaRows
import Derived.WalkKit
import Derived.ProofKit
import Derived.OpenShut
import Derived.Below
import Derived.ShutString
import Derived.Carry
import Derived.Test.YtfknmokidjgeiaaArgs
namespace Go.Proofs.Ytfknmokidjgeiaa.heapPlays
open Go.ChangeShapes Go.WideShapes Go.ChangeAt Go.RowKit
open Go.ChangeMaps (open_string shut_string)
set_option linter.unusedVariables false
set_option linter.unusedSimpArgs false

theorem own : ownKnob Try.prog.godebug = none := by kernel_rfl
theorem laidOut : laidOutB Try.prog = true := by kernel_rfl
theorem op3 : Opens Try.prog 3 (.int .i64) := opens_int Try.underlying3
theorem op24 : Opens Try.prog 24 (Sh.rep (.int .i64) 3) := opens_array Try.underlying24 (by kernel_rfl) (by kernel_rfl) op3
theorem op37 : Opens Try.prog 37 (.pair (.int .i64) (.pair (.int .i64) (.pair (Sh.rep (.int .i64) 3) .unit))) := opens_struct Try.underlying37 (by kernel_rfl) (fields_cons rfl (by kernel_rfl) op3 (fields_cons rfl (by kernel_rfl) op3 (fields_cons rfl (by kernel_rfl) op24 fields_nil)))
theorem op22 : Opens Try.prog 22 (.slice (.pair (.int .i64) (.pair (.int .i64) (.pair (Sh.rep (.int .i64) 3) .unit)))) := opens_slice Try.underlying22 (by kernel_rfl) (by decide) op37
theorem op25 : Opens Try.prog 25 (Sh.rep (Sh.rep (.int .i64) 3) 2) := opens_array Try.underlying25 (by kernel_rfl) (by kernel_rfl) op24

theorem fv_ret2 {P : Program} {fn : Func} {R : Ending → World → Prop} {A : Act} {w : World} {i : Nat} {v : Value} (hr : fn.results = #[.tmp i]) (hv : sl A.tmps i = v) (hd : A.defers = []) (hR : R (.returned v) w) : bodyPost P fn R .ret A w :=
  fv_ret hr hv hd hR

set_option maxRecDepth 100000 in
set_option maxHeartbeats 16000000 in
theorem walk (a0 : Option Addr) (len0 cap0 : Nat) (a1 : Int) (c2 : Array Value) (w : World) (w0 : Has w (.slice (.pair (.int .i64) (.pair (.int .i64) (.pair (Sh.rep (.int .i64) 3) .unit)))) [.slice a0 len0 cap0]) (w1 : (Lit.int .i64 a1).wf = true) (w2 : Has w (Sh.rep (Sh.rep (.int .i64) 3) 2) c2.toList) :
    Calls Try.prog 3 #[.slice a0 len0 cap0, .int .i64 a1, .agg c2] w fun e w' => e = .returned (.bool true) ∧ Below w.heap.size w w' := by
  obtain ⟨acts, hlen, hrd, hok⟩ := acts_came w0
  subst hlen
  have hin : inI a1 := wf_in w1
  obtain ⟨x, r, hc, hx, y, r2, rfl, hy, hr2⟩ := w2
  have hr2 : r2 = [] := hr2
  subst hr2
  obtain ⟨ka, hka, rfl⟩ := key_of hx
  obtain ⟨kb, hkb, rfl⟩ := key_of hy
  obtain rfl : c2 = #[.int .i64 ka.a, .int .i64 ka.b, .int .i64 ka.c, .int .i64 kb.a, .int .i64 kb.b, .int .i64 kb.c] := by cases c2; simp_all
  clear hc hx hy w0 w1
  have HRD := Lib.hid hrd
  have HOK := Lib.hid hok
  clear hrd hok
  have LS := fun w => hless_any ka kb w hka hkb
  have LR := fun w => k9less_any ka kb w
  unfold V3.val at LS LR
  generalize lessB ka kb = lb at *
  replace LS := Lib.hid LS
  replace LR := Lib.hid LR
  have HB := Lib.hid ((Below.refl w.heap.size w).alloc (Nat.le_refl _) (.cells #[.int .i64 ka.a, .int .i64 ka.b, .int .i64 ka.c, .int .i64 kb.a, .int .i64 kb.b, .int .i64 kb.c] 25))
  clear hr2
  go_enter Try.func3, Try.ntmps3
  go_upto_region 1 with (fail)
  go_cut [7, 8] from 27 to 30 (fun p q wx => ∃ b7 b8, p = .pointer (some ⟨b7, 0, none⟩) ∧ q = .pointer (some ⟨b8, 0, none⟩) ∧ wx.heap[b7]? = some (.cells #[.int .i64 ka.a, .int .i64 ka.b, .int .i64 ka.c] 24 (0, 0)) ∧ wx.heap[b8]? = some (.cells #[.int .i64 kb.a, .int .i64 kb.b, .int .i64 kb.c] 24 (0, 0)) ∧ Below w.heap.size w wx)
  case first =>
    go_region
    all_goals go_wp2_with fail
    all_goals go_meet
    · exact ⟨_, _, rfl, rfl, (blk_three w _ _ _).1, (blk_three w _ _ _).2, (three_below w _ _ _).drew⟩
    · exact ⟨_, _, rfl, rfl, (blk_three w _ _ _).2, (blk_three w _ _ _).1, (three_below w _ _ _).drew⟩
  case rest =>
    obtain ⟨b7, b8, rfl, rfl, h7, h8, hbc⟩ := hcut
    have H7 := Lib.hid h7
    have H8 := Lib.hid h8
    replace HB := Lib.hid hbc
    have HL := Lib.hid (show ∀ w', Below wc.heap.size wc w' → (w'.cell? ⟨b7, 0, none⟩ = some (.int .i64 ka.a) ∧ w'.cell? ⟨b7, 1, none⟩ = some (.int .i64 ka.b) ∧ w'.cell? ⟨b7, 2, none⟩ = some (.int .i64 ka.c)) ∧ (w'.cell? ⟨b8, 0, none⟩ = some (.int .i64 kb.a) ∧ w'.cell? ⟨b8, 1, none⟩ = some (.int .i64 kb.b) ∧ w'.cell? ⟨b8, 2, none⟩ = some (.int .i64 kb.c)) from fun w' hb =>
      ⟨⟨blk_cell ((hb.block _ (lt_of_block h7)).trans h7) 0, blk_cell ((hb.block _ (lt_of_block h7)).trans h7) 1, blk_cell ((hb.block _ (lt_of_block h7)).trans h7) 2⟩, ⟨blk_cell ((hb.block _ (lt_of_block h8)).trans h8) 0, blk_cell ((hb.block _ (lt_of_block h8)).trans h8) 1, blk_cell ((hb.block _ (lt_of_block h8)).trans h8) 2⟩⟩)
    clear h7 h8 hbc
    by_cases hg : 120 < acts.length
    · have d1 : decide ((120 : Int) < (acts.length : Int)) = true := decide_eq_true (by omega)
      have d2 : decide (120 < acts.length) = true := decide_eq_true hg
      have AW := Lib.hid fun w => heap_awake w
      go_wp2_with fail
      refine wp_region_hold (fun w' => Below wc.heap.size wc w') (by kernel_rfl) (by kernel_rfl) ⟨rfl, rfl, rfl, Nat.le_refl _, fun _ _ => rfl⟩ ?_
      repeat
        first
        | (refine hold_val (v := ?_) (by rfl) ?_ ?_
           rotate_left
           · (intro w' hS
              go_simp
              try with_reducible rfl)
           ((simp only [Act.put, List.setIfInBounds_toArray]); (try simp only [set32]); (simp only [List.set_cons_zero, List.set_cons_succ])))
        | (refine hold_skip (by rfl) ?_
           ((simp only [Act.put, List.setIfInBounds_toArray]); (try simp only [set32]); (simp only [List.set_cons_zero, List.set_cons_succ])))
      refine hold_nil (fun wx hS => ?_)
      have HF := Lib.hid (HB.out.trans (hS.mono HB.out.size))
      clear hS
      go_wp2_with fail
      refine (AW.out _).mono ?_; rintro e wy ⟨rfl, hb⟩
      replace HF := Lib.hid (HF.out.trans (hb.mono HF.out.size))
      clear hb
      go_wp2_with fail
      go_ret
      exact ⟨rfl, HF.out⟩
    · have d1 : decide ((120 : Int) < (acts.length : Int)) = false := decide_eq_false (by omega)
      have d2 : decide (120 < acts.length) = false := decide_eq_false hg
      have NW := Lib.hid fun w => hnew_any w
      go_wp2_with fail
      refine wp_region_hold (fun w' => Below wc.heap.size wc w') (by kernel_rfl) (by kernel_rfl) ⟨rfl, rfl, rfl, Nat.le_refl _, fun _ _ => rfl⟩ ?_
      repeat
        first
        | (refine hold_val (v := ?_) (by rfl) ?_ ?_
           rotate_left
           · (intro w' hS
              obtain ⟨⟨_, _, _⟩, ⟨_, _, _⟩⟩ := HL.out w' hS
              go_simp
              try with_reducible rfl)
           ((simp only [Act.put, List.setIfInBounds_toArray]); (try simp only [set32]); (simp only [List.set_cons_zero, List.set_cons_succ])))
        | (refine hold_skip (by rfl) ?_
           ((simp only [Act.put, List.setIfInBounds_toArray]); (try simp only [set32]); (simp only [List.set_cons_zero, List.set_cons_succ])))
        | ((first
            | (refine hold_call (by rfl) ?_ (fun w' hS => made_call hS (Nat.le_refl _) (LS.out w')) ?_; focus (intro w' hS; go_simp; done))
            | (refine hold_call (by rfl) ?_ (fun w' hS => made_call hS (Nat.le_refl _) (LR.out w')) ?_; focus (intro w' hS; go_simp; done)))
           ((simp only [Act.put, List.setIfInBounds_toArray]); (try simp only [set32]); (simp only [List.set_cons_zero, List.set_cons_succ])))
      refine hold_nil (fun wx hS => ?_)
      replace HB := Lib.hid (HB.out.trans (hS.mono HB.out.size))
      replace H7 := Lib.hid ((hS.block _ (lt_of_block H7.out)).trans H7.out)
      clear hS HL H8 LS LR
      go_wp2_with fail
      refine (NW.out _).mono ?_; rintro e w1 ⟨vh, F, rfl, hp, hF, hbn⟩
      have HI := Lib.hid (inv_start hp hF hbn)
      obtain ⟨⟨bh, hvh⟩, _⟩ := HI.out.ptrs
      subst hvh
      clear hp hF hbn NW
      go_wp2_with fail
      have HA := Lib.hid (show ∀ k (hk : k < acts.length), ∃ b o, a0 = some ⟨b, o, none⟩ ∧ ∀ w', Below wx.heap.size wx w' → (w'.cell? ⟨b, o + k * 5, none⟩ = some (.int .i64 acts[k].kind) ∧ w'.cell? ⟨b, o + k * 5 + 1, none⟩ = some (.int .i64 acts[k].t.id) ∧ w'.cell? ⟨b, o + k * 5 + 2, none⟩ = some (.int .i64 acts[k].t.key.a) ∧ w'.cell? ⟨b, o + k * 5 + 2 + 1, none⟩ = some (.int .i64 acts[k].t.key.b) ∧ w'.cell? ⟨b, o + k * 5 + 2 + 2, none⟩ = some (.int .i64 acts[k].t.key.c)) from fun k hk => by
        obtain ⟨b, o, ha, hb, _, hx⟩ := HRD.out.at_ (k := k) (by rw [rowsA_len]; exact hk)
        refine ⟨b, o, ha, fun w' hw => ?_⟩
        have hq := HB.out.trans (hw.mono HB.out.size)
        exact ⟨(hq.cell (p := ⟨b, o + k * 5, none⟩) hb).trans (hx k _ (rowsA_get acts k hk) 0 _ rfl), (hq.cell (p := ⟨b, o + k * 5 + 1, none⟩) hb).trans (hx k _ (rowsA_get acts k hk) 1 _ rfl), (hq.cell (p := ⟨b, o + k * 5 + 2, none⟩) hb).trans (hx k _ (rowsA_get acts k hk) 2 _ rfl), (hq.cell (p := ⟨b, o + k * 5 + 3, none⟩) hb).trans (hx k _ (rowsA_get acts k hk) 3 _ rfl), (hq.cell (p := ⟨b, o + k * 5 + 4, none⟩) hb).trans (hx k _ (rowsA_get acts k hk) 4 _ rfl)⟩)
      have h120 : acts.length ≤ 120 := by omega
      clear hg d1 d2
      refine tloop _ _ wx _ cap0 bh w1.heap.size b7 a1 hin a0 acts h120 HA.out HOK.out ⟨rfl, rfl, rfl, rfl, rfl, rfl, rfl⟩ rfl rfl HI.out (fun A w' row l L hI => ?_)
      replace HI := Lib.hid hI
      obtain ⟨bs, bd, l0, l1, l7, l9, l10⟩ := L
      have f1 := sl_get l1
      have f7 := sl_get l7
      clear l0 l1 l7 l9 l10 hI
      obtain ⟨s0, s1, s2⟩ := kb_cells ((HI.out.bel.block _ (lt_of_block H7.out)).trans H7.out)
      have HBR := Lib.hid (HB.out.trans (HI.out.bel.mono HB.out.size))
      have NT := Lib.hid fun w => ntake_any w
      have NP := Lib.hid fun w => ntop_any w
      have NU := fun w => nput_any ⟨a1, ka⟩ w ⟨hin, hka⟩
      unfold topT V3.val zero3 at NT NP
      unfold V3.val at NU
      dsimp only at NU
      replace NU := Lib.hid NU
      have ND := Lib.hid fun w => ndrop_any a1 w
      have NL := Lib.hid fun w => nlen_any w
      have NA := Lib.hid fun w => nall_any w
      have AW := Lib.hid fun w => heap_awake w
      have H7R := Lib.hid ((HI.out.bel.block _ (lt_of_block H7.out)).trans H7.out)
      clear s0 s1 s2
      repeat first | with_reducible refine inBlock_x ?_ | with_reducible refine then_n ?_
      go_wp2_with fail
      refine (NT.out _).mono ?_; rintro e w3 ⟨rfl, b3⟩
      have HB3 := Lib.hid ((HBR.out.trans (b3.mono HBR.out.size)).alloc (Nat.le_trans HBR.out.size b3.size) (.cells #[.int .i64 0, .int .i64 0, .int .i64 0] 24))
      have H73 := Lib.hid (blk_old (.cells #[.int .i64 0, .int .i64 0, .int .i64 0] 24) ((b3.block _ (lt_of_block H7R.out)).trans H7R.out))
      clear b3
      go_wp2_with fail
      refine (NP.out _).mono ?_; rintro e w4 ⟨rfl, b4⟩
      have HB4 := Lib.hid ((HB3.out.trans (b4.mono HB3.out.size)).alloc (Nat.le_trans HB3.out.size b4.size) (.cells #[.int .i64 0, .int .i64 0, .int .i64 0] 24))
      have H74 := Lib.hid (blk_old (.cells #[.int .i64 0, .int .i64 0, .int .i64 0] 24) ((b4.block _ (lt_of_block H73.out)).trans H73.out))
      clear b4
      obtain ⟨s0, s1, s2⟩ := kb_cells H74.out
      go_wp2_with fail
      refine (NU.out _).mono ?_; rintro e w5 ⟨rfl, b5⟩
      have HB5 := Lib.hid (HB4.out.trans (b5.mono HB4.out.size))
      clear b5 s0 s1 s2
      go_wp2_with fail
      refine (ND.out _).mono ?_; rintro e w6 ⟨rfl, b6⟩
      have HB6 := Lib.hid (HB5.out.trans (b6.mono HB5.out.size))
      clear b6
      go_wp2_with fail
      refine (NL.out _).mono ?_; rintro e w7 ⟨rfl, b7'⟩
      have HB7 := Lib.hid (HB6.out.trans (b7'.mono HB6.out.size))
      clear b7'
      go_wp2_with fail
      refine (NA.out _).mono ?_; rintro e w8 ⟨⟨An, cn, rfl⟩, b8'⟩
      have HB8 := Lib.hid (HB7.out.trans (b8'.mono HB7.out.size))
      clear b8'
      go_wp2_with fail
      refine (AW.out _).mono ?_; rintro e w9 ⟨rfl, b9⟩
      have HB9 := Lib.hid (HB8.out.trans (b9.mono HB8.out.size))
      clear b9
      go_wp2_with fail
      refine fv_ret2 (i := 6) (v := .bool true) (by kernel_rfl) ?_ ?_ ⟨rfl, HB9.out⟩
      · repeat first | rw [sl_ne _ (by decide)] | rw [sl_eq _ (by simp only [Array.size_setIfInBounds, bs]; decide)]
      · first | rfl | exact bd

set_option maxRecDepth 100000 in
theorem lifted (os : Os) (started : os.Started) (H : Type) (enc : TypeId × Value → H) :
    ReturnsInHanded {} Try.checked os 3 .any (Rows.heapPlaysSpec.pre6 enc Try.prog Try.f3 Rows.heapPlaysRow.domain false) (Rows.heapPlaysSpec.post enc Try.prog Try.f3 false true false false) := by
  refine returnsInHanded_of_change (C := Try.checked) own started (by kernel_rfl) Try.func3
    (ChangeSpec.witness6 (enc := enc) (C := Try.checked) false ⟨#[], #[.slice none 0 0, .int .i64 0, .agg #[.int .i64 0, .int .i64 0, .int .i64 0, .int .i64 0, .int .i64 0, .int .i64 0]], []⟩ 8 (by kernel_rfl) (by kernel_rfl) (by kernel_rfl) (by kernel_rfl)) ?_
  intro W base args ds gs before hval0 hW hcnd _
  have hval : ∀ (j : Nat) t v, Try.f3.params[j]? = some t → args[j]? = some v → Value.okWide Try.prog W .any base t v := hval0
  have hW' := hW
  obtain ⟨p, q, hA0, hV, rfl, hfz, hnd⟩ := hW
  have hA : DataW.TrodAll enc Try.prog W 0 (fun _ => true) true Try.f3.params.toList args.toList ds p := hA0
  rw [Try.params3] at hA hval
  obtain ⟨v0, vs0, d0, ds0, p0, q0, hargs, rfl, rfl, h0, r0⟩ := trodAll_cons hA
  obtain ⟨v1, vs1, d1, ds1, p1, q1, rfl, rfl, rfl, h1, r1⟩ := trodAll_cons r0
  obtain ⟨v2, vs2, d2, ds2, p2, q2, rfl, rfl, rfl, h2, r2⟩ := trodAll_cons r1
  obtain ⟨rfl, rfl, rfl⟩ := trodAll_nil r2
  obtain rfl : args = #[v0, v1, v2] := by cases args; simp_all
  obtain ⟨rfl, rfl⟩ := trodVars_none hV
  obtain ⟨a0, len0, cap0, rfl⟩ := okWide_slice Try.underlying22 (hval 0 22 v0 rfl rfl)
  have k0 := h0
  have lt0 : ∀ x ∈ p0, x.block < W.heap.size := by obtain ⟨m, hm⟩ := k0; exact DataW.trod_lt m _ _ _ hm
  have w0 : Has W (.slice (.pair (.int .i64) (.pair (.int .i64) (.pair (Sh.rep (.int .i64) 3) .unit)))) [.slice a0 len0 cap0] := by obtain ⟨m, hm⟩ := h0; exact op22 _ _ _ _ _ _ _ _ _ hm
  obtain ⟨a1, rfl, rfl, rfl, w1⟩ := open_int Try.underlying3 (hval 1 3 v1 rfl rfl) h1
  obtain ⟨c2, rfl, _⟩ := okWide_array Try.underlying25 (hval 2 25 v2 rfl rfl)
  have k2 := h2
  have lt2 : ∀ x ∈ p2, x.block < W.heap.size := by obtain ⟨m, hm⟩ := k2; exact DataW.trod_lt m _ _ _ hm
  have w2 : Has W (Sh.rep (Sh.rep (.int .i64) 3) 2) c2.toList := by obtain ⟨m, hm⟩ := h2; exact op25 _ _ _ _ _ _ _ _ _ hm
  clear hA0 hval0
  refine (walk a0 len0 cap0 a1 c2 W w0 w1 w2).mono fun e W' ⟨he, bel⟩ => ?_
  subst he
  exact ⟨_, rfl, _, _, _, [], _, [], hW', trodAll_mk1 (shut_bool Try.underlying4 _), (trodAll_cons_mk (Below.trod laidOut (by kernel_rfl) (of_decide_eq_true (by kernel_rfl)) k0 bel lt0) (trodAll_cons_mk (shut_int Try.underlying3 w1) (trodAll_cons_mk (Below.trod laidOut (by kernel_rfl) (of_decide_eq_true (by kernel_rfl)) k2 bel lt2) trodAll_mk0))), rfl, bel.frame _, fun h => by cases h⟩

theorem over : Rows.heapPlaysRow.holds Try.pinned (OpenSpec.ofChange Rows.heapPlaysSpec) :=
  OpenClaim.holds_of_wide 3 Try.f3 rfl rfl rfl rfl rfl rfl rfl ⟨rfl, rfl, rfl, rfl, rfl⟩ rfl rfl rfl rfl rfl (by kernel_rfl) Try.func3 (by kernel_rfl)
    (of_decide_eq_true (by kernel_rfl)) (by unfold Func.isWrapper; first | (rw [if_pos (by decide +kernel)]; kernel_rfl) | (rw [if_neg (by decide +kernel)]; exact ⟨rfl, rfl⟩))
    (fun os started H enc _ => lifted os started H enc)

/-- ████ THE STATEMENT ████ -/
theorem proved : Rows.HeapPlaysSaid := over
end Go.Proofs.Ytfknmokidjgeiaa.heapPlays
