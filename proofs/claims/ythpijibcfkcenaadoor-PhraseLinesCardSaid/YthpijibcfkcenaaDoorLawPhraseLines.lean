/- The law PhraseLines of the repository answers true for every input. No conditions. -/
import Derived.Test.YthpijibcfkcenaaDoorPhrW
import Derived.Test.YthpijibcfkcenaaDoorEvtArgs
import Derived.Test.YthpijibcfkcenaaDoorRows
import Derived.Test.YthpijibcfkcenaaDoorCards
import Derived.Test.YthpijibcfkcenaaDoorTie
import Derived.SevenTiedAt
import Derived.LaidMore
import Derived.Stop.LaidErr
import Derived.Stop.Joined
import Derived.MakeChecks
import Derived.Lib.LaidTab
import Derived.WalkKit
import Derived.ProofKit
import Derived.OpenShut
import Derived.Below
import Derived.ShutString
import Derived.Carry
import Derived.Test.YthpijibcfkcenaaDoorArgs
namespace Go.Proofs.YthpijibcfkcenaaDoor.phraseLines
open Go.ChangeShapes Go.WideShapes Go.ChangeAt Go.RowKit
open Go.ChangeMaps (open_string shut_string)
set_option linter.unusedVariables false
set_option linter.unusedSimpArgs false

theorem own : ownKnob Tryd.prog.godebug = none := by kernel_rfl
theorem laidOut : laidOutB Tryd.prog = true := by kernel_rfl
theorem op3 : Opens Tryd.prog 3 (.int .i64) := opens_int Tryd.underlying3
theorem op23 : Opens Tryd.prog 23 (Sh.rep (.int .i64) 3) := opens_array Tryd.underlying23 (by kernel_rfl) (by kernel_rfl) op3
theorem op25 : Opens Tryd.prog 25 (.pair (.int .i64) (.pair (.int .i64) (.pair (.int .i64) (.pair (.int .i64) (.pair (.int .i64) (.pair (Sh.rep (.int .i64) 3) .unit)))))) := opens_struct Tryd.underlying25 (by kernel_rfl) (fields_cons rfl (by kernel_rfl) op3 (fields_cons rfl (by kernel_rfl) op3 (fields_cons rfl (by kernel_rfl) op3 (fields_cons rfl (by kernel_rfl) op3 (fields_cons rfl (by kernel_rfl) op3 (fields_cons rfl (by kernel_rfl) op23 fields_nil))))))

theorem door_met (os : Os) (args : Array Value) : laidMetH Tryd.prog Rows.phraseLinesRow.laid ((World.doorLaid Tryd.prog 29 os).forCall (fun _ _ => 0) ⟨#[], args, []⟩).memory :=
  laidMetH_of_parts3 (fuel := 8) (laidMet_of_run' 8 (by kernel_rfl) (by kernel_rfl)) (by kernel_rfl) (by kernel_rfl)
theorem tb_of_laid {W : World} (h0 : laidMetH Tryd.prog Rows.phraseLinesRow.laid W) : Tb W := by
  rw [MakeChecks.laidMetH_plain _ _ _ (by kernel_rfl)] at h0
  have h : laidMet Tryd.prog [("math/bits.deBruijn32tab", Rows.laid_math_bits_deBruijn32tab), ("math/bits.deBruijn64tab", Rows.laid_math_bits_deBruijn64tab), ("internal/strconv.uint64pow10", Rows.laid_internal_strconv_uint64pow10), ("reeve/phrase.kinds", Rows.laid_reeve_phrase_kinds)] W := h0
  have e : (Rows.laid_internal_strconv_uint64pow10 : DataW Unit) = Lib.tabData .u64 Lib.pow10Tab := by kernel_rfl
  have h2 := h.tail.tail
  rw [e] at h2
  exact Lib.tabIs_of_head (g := 1) (t := 119) (e := 112) (n := 20) (by kernel_rfl) (by kernel_rfl) (by kernel_rfl) (by kernel_rfl) (by kernel_rfl) (by kernel_rfl) h2

theorem kd_of_laid {W : World} (h0 : laidMetH Tryd.prog Rows.phraseLinesRow.laid W) : Kd W := by
  rw [MakeChecks.laidMetH_plain _ _ _ (by kernel_rfl)] at h0
  have h : laidMet Tryd.prog [("math/bits.deBruijn32tab", Rows.laid_math_bits_deBruijn32tab), ("math/bits.deBruijn64tab", Rows.laid_math_bits_deBruijn64tab), ("internal/strconv.uint64pow10", Rows.laid_internal_strconv_uint64pow10), ("reeve/phrase.kinds", Rows.laid_reeve_phrase_kinds)] W := h0
  have e : (Rows.laid_reeve_phrase_kinds : DataW Unit) = textData words7 := by kernel_rfl
  have h2 := h.tail.tail.tail
  rw [e] at h2
  exact textsIs_of_head (g := 0) (t := 63) (e := 9) (n := 7) (by kernel_rfl) (by kernel_rfl) (by kernel_rfl) (by kernel_rfl) (by kernel_rfl) (by kernel_rfl) h2

set_option maxRecDepth 100000 in
set_option maxHeartbeats 16000000 in
theorem walk (c0 : Array Value) (a1 : ByteArray) (a2 : Int) (w : World) (w0 : Has w (.pair (.int .i64) (.pair (.int .i64) (.pair (.int .i64) (.pair (.int .i64) (.pair (.int .i64) (.pair (Sh.rep (.int .i64) 3) .unit)))))) c0.toList) (w1 : a1.size ≤ maxLen) (w2 : (Lit.int .i64 a2).wf = true) (ht : Tb w) (hKd : Kd w) :
    Calls Tryd.prog 3 #[.agg c0, .string a1, .int .i64 a2] w fun e w' => e = .returned (.bool true) ∧ Below w.heap.size w w' := by
  have HT : phT w := ⟨ht, hKd⟩
  obtain ⟨v, hv, rfl⟩ := evt_came w0
  have hk : inI a2 := wf_in w2
  have AW := Lib.hid fun w' (hb : Below w.heap.size w w') => phrase_awake w' (phT_below HT hb)
  clear w0 w1 w2
  have hbx : (w.alloc (.cells v.cells 25)).heap[w.heap.size]? = some (.cells v.cells 25 (0, 0)) := blk_new w _
  have hba : Below w.heap.size w (w.alloc (.cells v.cells 25)) := (Below.refl _ _).alloc (Nat.le_refl _) _
  have hrow : v.row.toArray = v.cells := rfl
  rw [hrow]
  by_cases hlen : a1.size ≤ 300
  · have L1 := Lib.hid fun w' (hb : Below w.heap.size w w') => phline_any v w' hv (phT_below HT hb)
    have L2 := Lib.hid fun w' => rphline_any v w'
    have P1 := Lib.hid fun w' (hb : Below w.heap.size w w') => phparse_any a1 w' (by omega) (phT_below HT hb)
    have P2 := Lib.hid fun w' => rphparse_any a1 w' (by omega)
    have W1 := Lib.hid fun w' (hb : Below w.heap.size w w') => phword_any a2 w' hk (phT_below HT hb)
    have W2 := Lib.hid fun w' => rphword_any a2 w'
    have dl : decide (a1.size > 300) = false := decide_eq_false (by omega)
    have dl2 : decide (300 < a1.size) = false := dl
    have dl3 : decide ((a1.size : Int) > 300) = false := decide_eq_false (by omega)
    have dl4 : decide (300 < (a1.size : Int)) = false := dl3
    generalize bs (lineP v).1 = s at *
    generalize (lineP v).2 = r at *
    generalize (parseP a1.data.toList).1 = x at *
    generalize (parseP a1.data.toList).2 = q at *
    generalize bs (wordP a2) = d at *
    generalize isK a2 = t at *
    have EQ : ∀ w, (binOp .eql 25 x.val x.val).run Tryd.prog w = .ok (.bool true) w := fun w => by rw [eqlV_run, eqV_self]
    have EG := fun w a b => eqlV_guard w x x a b
    have dss : (s.toList == s.toList) = true := by simp
    have ddd : (d.toList == d.toList) = true := by simp
    unfold Evt.val at L1 L2 P1 P2 EQ EG
    unfold Evt.cells
    clear hlen hk HT hv
    go_enter Tryd.func3, Tryd.ntmps3
    go_wp2_with fail
    refine (L1.out _ hba).mono ?_; rintro e w1 ⟨rfl, hB⟩
    rw [World.size_alloc] at hB
    have X1 := Lib.hid (blk_below hB hbx (by omega))
    have hB1 := Lib.hid (hba.trans (hB.mono (by omega)))
    have hl1 : w.heap.size + 1 ≤ w1.heap.size := by have := hB.size; simpa using this
    clear hB hbx hba L1
    obtain ⟨x0, x1, x2, x3, x4, x5, x6, x7⟩ := evt_cells X1.out
    go_wp2_with fail
    refine (L2.out _).mono ?_; rintro e w2 ⟨rfl, hB⟩
    have hB2 := Lib.hid (hB1.out.trans (hB.mono hB1.out.size))
    have hl2 : w1.heap.size ≤ w2.heap.size := hB.size
    clear hB X1 hB1 x0 x1 x2 x3 x4 x5 x6 x7 L2
    go_wp2_with fail
    refine (P1.out _ hB2.out).mono ?_; rintro e w3 ⟨rfl, hB⟩
    have hB3 := Lib.hid ((hB2.out.trans (hB.mono hB2.out.size)).alloc (hB2.out.trans (hB.mono hB2.out.size)).size (.cells x.cells 25))
    have Y3 := Lib.hid (blk_new w3 (.cells x.cells 25))
    clear hB hB2 P1
    go_wp2_with fail
    refine (P2.out _).mono ?_; rintro e w4 ⟨rfl, hB⟩
    rw [World.size_alloc] at hB
    have Y4 := Lib.hid (blk_old (.cells x.cells 25) (blk_below hB Y3.out (by omega)))
    have hB4 := Lib.hid ((hB3.out.trans (hB.mono (by have := hB3.out.size; simpa using this))).alloc (hB3.out.trans (hB.mono (by have := hB3.out.size; simpa using this))).size (.cells x.cells 25))
    have Z4 := Lib.hid (blk_new w4 (.cells x.cells 25))
    have hl4 : w3.heap.size + 1 ≤ w4.heap.size := by have := hB.size; simpa using this
    clear hB hB3 P2 Y3
    go_wp2_with fail
    refine (W1.out _ hB4.out).mono ?_; rintro e w5 ⟨rfl, hB⟩
    rw [World.size_alloc] at hB
    have Y5 := Lib.hid (blk_below hB Y4.out (by omega))
    have Z5 := Lib.hid (blk_below hB Z4.out (by omega))
    have hB5 := Lib.hid (hB4.out.trans (hB.mono (by have := hB4.out.size; simpa using this)))
    have hl5 : w4.heap.size + 1 ≤ w5.heap.size := by have := hB.size; simpa using this
    clear hB hB4 W1 Y4 Z4
    go_wp2_with fail
    refine (W2.out _).mono ?_; rintro e w6 ⟨rfl, hB⟩
    have Y6 := Lib.hid (blk_below hB Y5.out (by omega))
    have Z6 := Lib.hid (blk_below hB Z5.out (by omega))
    have hB6 := Lib.hid (hB5.out.trans (hB.mono hB5.out.size))
    clear hB hB5 W2 Y5 Z5
    obtain ⟨x0, x1, x2, x3, x4, x5, x6, x7⟩ := evt_cells Y6.out
    obtain ⟨y0, y1, y2, y3, y4, y5, y6, y7⟩ := evt_cells Z6.out
    clear Y6 Z6
    go_wp2_with fail
    refine (AW.out _ hB6.out).mono ?_; rintro e w7 ⟨rfl, hB⟩
    have hB7 := Lib.hid (hB6.out.trans (hB.mono hB6.out.size))
    clear hB hB6 x0 x1 x2 x3 x4 x5 x6 x7 y0 y1 y2 y3 y4 y5 y6 y7
    go_wp2_with fail
    go_ret
    exact ⟨rfl, hB7.out⟩
  · have dl : decide (a1.size > 300) = true := decide_eq_true (by omega)
    have dl2 : decide (300 < a1.size) = true := dl
    have dl3 : decide ((a1.size : Int) > 300) = true := decide_eq_true (by omega)
    have dl4 : decide (300 < (a1.size : Int)) = true := dl3
    unfold Evt.cells at hba hbx ⊢
    clear hlen
    go_enter Tryd.func3, Tryd.ntmps3
    go_wp2_with fail
    refine (AW.out _ hba).mono ?_; rintro e w1 ⟨rfl, hB⟩
    have hB1 := Lib.hid (hba.trans (hB.mono hba.size))
    clear hB
    go_wp2_with fail
    go_ret
    exact ⟨rfl, hB1.out⟩

set_option maxRecDepth 100000 in
theorem lifted (os : Os) (started : os.Started) (H : Type) (enc : TypeId × Value → H) :
    ReturnsInHanded {} Tryd.checked os 3 .any (fun w args => (Rows.phraseLinesSpec.pre enc Tryd.prog Tryd.f3 [] false w args ∧ laidMetH Tryd.prog Rows.phraseLinesRow.laid w) ∧ sizedMet enc Tryd.prog Tryd.f3 (OpenSpec.ofChange Rows.phraseLinesSpec) false w args)
      (Rows.phraseLinesSpec.post enc Tryd.prog Tryd.f3 false true false false) := by
  refine returnsInHanded_of_change_and (C := Tryd.checked) (X := fun w _ => laidMetH Tryd.prog Rows.phraseLinesRow.laid w) (fun _ _ _ hh h => h.of_heap hh) own started (by kernel_rfl) Tryd.func3
    (ChangeSpec.witness_shaped (enc := enc) (C := Tryd.checked) (os := os) (X := fun w _ => laidMetH Tryd.prog Rows.phraseLinesRow.laid w) false (World.doorLaid Tryd.prog 29 os) #[.agg #[.int .i64 0, .int .i64 0, .int .i64 0, .int .i64 0, .int .i64 0, .int .i64 0, .int .i64 0, .int .i64 0], .string ByteArray.empty, .int .i64 0] 8 rfl (World.shaped_of_RefB (by kernel_rfl) (by kernel_rfl)) (by kernel_rfl) (by kernel_rfl) (by kernel_rfl) (door_met os _)) ?_
  intro W base args ds gs before hval0 hW hcnd _ hL _
  have hval : ∀ (j : Nat) t v, Tryd.f3.params[j]? = some t → args[j]? = some v → Value.okWide Tryd.prog W .any base t v := hval0
  have hW' := hW
  obtain ⟨p, q, hA0, hV, rfl, hfz, hnd⟩ := hW
  have hA : DataW.TrodAll enc Tryd.prog W 0 (fun _ => true) true Tryd.f3.params.toList args.toList ds p := hA0
  rw [Tryd.params3] at hA hval
  obtain ⟨v0, vs0, d0, ds0, p0, q0, hargs, rfl, rfl, h0, r0⟩ := trodAll_cons hA
  obtain ⟨v1, vs1, d1, ds1, p1, q1, rfl, rfl, rfl, h1, r1⟩ := trodAll_cons r0
  obtain ⟨v2, vs2, d2, ds2, p2, q2, rfl, rfl, rfl, h2, r2⟩ := trodAll_cons r1
  obtain ⟨rfl, rfl, rfl⟩ := trodAll_nil r2
  obtain rfl : args = #[v0, v1, v2] := by cases args; simp_all
  obtain ⟨rfl, rfl⟩ := trodVars_none hV
  obtain ⟨c0, rfl, _⟩ := okWide_struct Tryd.underlying25 (hval 0 25 v0 rfl rfl)
  have k0 := h0
  have lt0 : ∀ x ∈ p0, x.block < W.heap.size := by obtain ⟨m, hm⟩ := k0; exact DataW.trod_lt m _ _ _ hm
  have w0 : Has W (.pair (.int .i64) (.pair (.int .i64) (.pair (.int .i64) (.pair (.int .i64) (.pair (.int .i64) (.pair (Sh.rep (.int .i64) 3) .unit)))))) c0.toList := by obtain ⟨m, hm⟩ := h0; exact op25 _ _ _ _ _ _ _ _ _ hm
  obtain ⟨a1, rfl, rfl, rfl, w1⟩ := open_string Tryd.underlying9 (hval 1 9 v1 rfl rfl) h1
  obtain ⟨a2, rfl, rfl, rfl, w2⟩ := open_int Tryd.underlying3 (hval 2 3 v2 rfl rfl) h2
  clear hA0 hval0
  refine (walk c0 a1 a2 W w0 w1 w2 (tb_of_laid hL) (kd_of_laid hL)).mono fun e W' ⟨he, bel⟩ => ?_
  subst he
  exact ⟨_, rfl, _, _, _, [], _, [], hW', trodAll_mk1 (shut_bool Tryd.underlying4 _), (trodAll_cons_mk (Below.trod laidOut (by kernel_rfl) (of_decide_eq_true (by kernel_rfl)) k0 bel lt0) (trodAll_cons_mk (shut_string Tryd.underlying9 w1) (trodAll_cons_mk (shut_int Tryd.underlying3 w2) trodAll_mk0))), rfl, bel.frame _, fun h => by cases h⟩

theorem over : Rows.phraseLinesRow.holds Tryd.pinned (OpenSpec.ofChange Rows.phraseLinesSpec) :=
  OpenClaim.holds_of_wide 3 Tryd.f3 rfl rfl rfl rfl rfl rfl rfl ⟨rfl, rfl, rfl, rfl, rfl⟩ rfl rfl rfl rfl rfl (by kernel_rfl) Tryd.func3 (by kernel_rfl)
    (of_decide_eq_true (by kernel_rfl)) (by unfold Func.isWrapper; first | (rw [if_pos (by decide +kernel)]; kernel_rfl) | (rw [if_neg (by decide +kernel)]; exact ⟨rfl, rfl⟩))
    (fun os started H enc _ => lifted os started H enc)

/-- ████ THE STATEMENT ████ -/
theorem proved : Rows.PhraseLinesCardSaid :=
  Claim7.holds_tied_plain_at .later [] [.data, .data, .data, .data] true (true, "e7b8e969df539245d28662642bf8db658f0bc4ea9c504a54e108a1ec23ca8e3c") false
    over (fun _ h => by cases h) (by kernel_rfl) (fun _ h => by cases h) phraseLines_row_tie rfl ⟨rfl, rfl⟩ (by kernel_rfl) rfl
    (fun f fn hf hfn => by
      obtain rfl : f = 3 := Option.some.inj ((show Tryd.prog.funcNamed "reeve/reevelaw19.PhraseLines" = some 3 by kernel_rfl).symm.trans hf) |>.symm
      obtain rfl : fn = Tryd.f3 := (Option.some.inj (Tryd.func3.symm.trans hfn)).symm
      exact ⟨by kernel_rfl, fun j t ht => by
        rw [Tryd.params3] at ht
        have hm : t ∈ [25, 9, 3] := by simpa using Array.mem_of_getElem? ht
        have hall : ([25, 9, 3].all fun u => !Tryd.prog.wantsStandIn u) = true := by kernel_rfl
        exact (show Tryd.prog.wantsStandIn t = false by simpa using List.all_eq_true.1 hall t hm)⟩)
    (by kernel_rfl)
end Go.Proofs.YthpijibcfkcenaaDoor.phraseLines
