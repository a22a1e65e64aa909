/- The law PhraseTexts of the repository answers true for every input. No conditions. -/
import Derived.Test.YthpijibcfkcenaaDoorPhrW
import Derived.Test.YthpijibcfkcenaaDoorPhrArgs
import Derived.Test.YthpijibcfkcenaaDoorRows
import Derived.Test.YthpijibcfkcenaaDoorCards
import Derived.Test.YthpijibcfkcenaaDoorTie
import Derived.SevenTiedAt
import Derived.LaidMore
import Derived.Stop.LaidErr
import Derived.Stop.Joined
import Derived.MakeChecks
import Derived.Lib.LaidTab
import Derived.WalkKit
import Derived.ProofKit
import Derived.OpenShut
import Derived.Below
import Derived.ShutString
import Derived.Carry
import Derived.Test.YthpijibcfkcenaaDoorArgs
namespace Go.Proofs.YthpijibcfkcenaaDoor.phraseTexts
open Go.ChangeShapes Go.WideShapes Go.ChangeAt Go.RowKit
open Go.ChangeMaps (open_string shut_string)
set_option linter.unusedVariables false
set_option linter.unusedSimpArgs false

theorem own : ownKnob Tryd.prog.godebug = none := by kernel_rfl
theorem laidOut : laidOutB Tryd.prog = true := by kernel_rfl
theorem op3 : Opens Tryd.prog 3 (.int .i64) := opens_int Tryd.underlying3
theorem op23 : Opens Tryd.prog 23 (Sh.rep (.int .i64) 3) := opens_array Tryd.underlying23 (by kernel_rfl) (by kernel_rfl) op3
theorem op25 : Opens Tryd.prog 25 (.pair (.int .i64) (.pair (.int .i64) (.pair (.int .i64) (.pair (.int .i64) (.pair (.int .i64) (.pair (Sh.rep (.int .i64) 3) .unit)))))) := opens_struct Tryd.underlying25 (by kernel_rfl) (fields_cons rfl (by kernel_rfl) op3 (fields_cons rfl (by kernel_rfl) op3 (fields_cons rfl (by kernel_rfl) op3 (fields_cons rfl (by kernel_rfl) op3 (fields_cons rfl (by kernel_rfl) op3 (fields_cons rfl (by kernel_rfl) op23 fields_nil))))))
theorem op35 : Opens Tryd.prog 35 (.slice (.pair (.int .i64) (.pair (.int .i64) (.pair (.int .i64) (.pair (.int .i64) (.pair (.int .i64) (.pair (Sh.rep (.int .i64) 3) .unit))))))) := opens_slice Tryd.underlying35 (by kernel_rfl) (by decide) op25

theorem allP_len : ∀ (ls : List (List UInt8)) (i : Nat), (allP i ls).1.length ≤ ls.length
  | [], i => Nat.le_refl _
  | x :: t, i => by
    have ih := allP_len t (i + 1)
    rw [allP]
    split
    · exact Nat.le_trans ih (by simp)
    · split
      · simp
      · unfold joinR
        split
        · simp
        · simp; omega

theorem door_met (os : Os) (args : Array Value) : laidMetH Tryd.prog Rows.phraseTextsRow.laid ((World.doorLaid Tryd.prog 29 os).forCall (fun _ _ => 0) ⟨#[], args, []⟩).memory :=
  laidMetH_of_parts3 (fuel := 8) (laidMet_of_run' 8 (by kernel_rfl) (by kernel_rfl)) (by kernel_rfl) (by kernel_rfl)
theorem tb_of_laid {W : World} (h0 : laidMetH Tryd.prog Rows.phraseTextsRow.laid W) : Tb W := by
  rw [MakeChecks.laidMetH_plain _ _ _ (by kernel_rfl)] at h0
  have h : laidMet Tryd.prog [("math/bits.deBruijn32tab", Rows.laid_math_bits_deBruijn32tab), ("math/bits.deBruijn64tab", Rows.laid_math_bits_deBruijn64tab), ("internal/strconv.uint64pow10", Rows.laid_internal_strconv_uint64pow10), ("reeve/phrase.kinds", Rows.laid_reeve_phrase_kinds)] W := h0
  have e : (Rows.laid_internal_strconv_uint64pow10 : DataW Unit) = Lib.tabData .u64 Lib.pow10Tab := by kernel_rfl
  have h2 := h.tail.tail
  rw [e] at h2
  exact Lib.tabIs_of_head (g := 1) (t := 119) (e := 112) (n := 20) (by kernel_rfl) (by kernel_rfl) (by kernel_rfl) (by kernel_rfl) (by kernel_rfl) (by kernel_rfl) h2

theorem kd_of_laid {W : World} (h0 : laidMetH Tryd.prog Rows.phraseTextsRow.laid W) : Kd W := by
  rw [MakeChecks.laidMetH_plain _ _ _ (by kernel_rfl)] at h0
  have h : laidMet Tryd.prog [("math/bits.deBruijn32tab", Rows.laid_math_bits_deBruijn32tab), ("math/bits.deBruijn64tab", Rows.laid_math_bits_deBruijn64tab), ("internal/strconv.uint64pow10", Rows.laid_internal_strconv_uint64pow10), ("reeve/phrase.kinds", Rows.laid_reeve_phrase_kinds)] W := h0
  have e : (Rows.laid_reeve_phrase_kinds : DataW Unit) = textData words7 := by kernel_rfl
  have h2 := h.tail.tail.tail
  rw [e] at h2
  exact textsIs_of_head (g := 0) (t := 63) (e := 9) (n := 7) (by kernel_rfl) (by kernel_rfl) (by kernel_rfl) (by kernel_rfl) (by kernel_rfl) (by kernel_rfl) h2

set_option maxRecDepth 100000 in
set_option maxHeartbeats 16000000 in
theorem walk (a0 : Option Addr) (len0 cap0 : Nat) (a1 : ByteArray) (w : World) (w0 : Has w (.slice (.pair (.int .i64) (.pair (.int .i64) (.pair (.int .i64) (.pair (.int .i64) (.pair (.int .i64) (.pair (Sh.rep (.int .i64) 3) .unit))))))) [.slice a0 len0 cap0]) (w1 : a1.size ≤ maxLen) (ht : Tb w) (hKd : Kd w) :
    Calls Tryd.prog 4 #[.slice a0 len0 cap0, .string a1] w fun e w' => e = .returned (.bool true) ∧ Below w.heap.size w w' := by
  have HT : phT w := ⟨ht, hKd⟩
  obtain ⟨l, hl, hr, hok⟩ := evts_came w0
  subst hl
  have AW := Lib.hid fun w' (hb : Below w.heap.size w w') => phrase_awake w' (phT_below HT hb)
  have hun : undef = Value.tuple #[] := rfl
  clear w0 w1
  have HR := Lib.hid hr
  clear hr
  by_cases hll : l.length ≤ 40
  · have cl : decide (l.length > 40) = false := decide_eq_false (by omega)
    have cl2 : decide (40 < l.length) = false := cl
    have cl3 : decide ((l.length : Int) > 40) = false := decide_eq_false (by omega)
    have cl4 : decide (40 < (l.length : Int)) = false := cl3
    by_cases hlen : a1.size ≤ 2000
    · have dl : decide (a1.size > 2000) = false := decide_eq_false (by omega)
      have dl2 : decide (2000 < a1.size) = false := dl
      have dl3 : decide ((a1.size : Int) > 2000) = false := decide_eq_false (by omega)
      have dl4 : decide (2000 < (a1.size : Int)) = false := dl3
      have T1 := Lib.hid (phtext_any _ l _ w (by omega) hok HR.out HT)
      have T2 := Lib.hid fun w' (hb : Below w.heap.size w w') => rptext_any _ l _ w' (by omega) (RdK.below HR.out hb)
      have A1 := Lib.hid fun w' (hb : Below w.heap.size w w') => phall_any a1 w' (by omega) (phT_below HT hb)
      have A2 := Lib.hid fun w' => rpall_any a1 w' (by omega)
      have hle : (allP 0 (linesL a1.data.toList)).1.length ≤ 100000 := by
        have h1 := allP_len (linesL a1.data.toList) 0
        have h2 := linesA_len a1.data.toList []
        have h3 : a1.data.toList.length = a1.size := rfl
        unfold linesL at h1 ⊢
        omega
      unfold PhAR at A1 A2
      generalize bs (textP l).1 = s at *
      generalize (textP l).2 = r at *
      generalize (allP 0 (linesL a1.data.toList)).1 = out at *
      generalize (allP 0 (linesL a1.data.toList)).2.1 = n at *
      generalize (allP 0 (linesL a1.data.toList)).2.2 = q at *
      have SM := Lib.hid fun v u K1 K2 w' (h1 : RdV w' K1 v out) (h2 : RdV w' K2 u out) => esame_any v u out K1 K2 w' hle h1 h2
      have dss : (s.toList == s.toList) = true := by simp
      clear hlen hll hok HT hle
      go_enter Tryd.func4, Tryd.ntmps4
      go_wp2_with fail
      refine T1.out.mono ?_; rintro e w1 ⟨rfl, hB⟩
      have hB1 := Lib.hid hB
      clear hB T1
      go_wp2_with fail
      refine (T2.out _ hB1.out).mono ?_; rintro e w2 ⟨rfl, hB⟩
      have hB2 := Lib.hid (hB1.out.trans (hB.mono hB1.out.size))
      clear hB hB1 T2
      go_wp2_with fail
      refine (A1.out _ hB2.out).mono ?_; rintro e w3 ⟨x, rfl, hx, hB⟩
      have hB3 := Lib.hid (hB2.out.trans (hB.mono hB2.out.size))
      have X3 := Lib.hid hx
      clear hB hB2 A1 hx
      go_wp2_with fail
      refine (A2.out _).mono ?_; rintro e w4 ⟨y, rfl, hy, hB⟩
      have hB4 := Lib.hid (hB3.out.trans (hB.mono hB3.out.size))
      have X4 := Lib.hid (RdK.below X3.out hB)
      have Y4 := Lib.hid hy
      clear hB hB3 A2 hy X3
      go_wp2_with fail
      refine (SM.out _ _ _ _ _ X4.out Y4.out).mono ?_; rintro e w5 ⟨rfl, hB⟩
      have hB5 := Lib.hid (hB4.out.trans (hB.mono hB4.out.size))
      clear hB hB4 X4 Y4 SM
      go_wp2_with fail
      refine (AW.out _ hB5.out).mono ?_; rintro e w7 ⟨rfl, hB⟩
      have hB7 := Lib.hid (hB5.out.trans (hB.mono hB5.out.size))
      clear hB hB5
      go_wp2_with fail
      go_ret
      exact ⟨rfl, hB7.out⟩
    · have dl : decide (a1.size > 2000) = true := decide_eq_true (by omega)
      have dl2 : decide (2000 < a1.size) = true := dl
      have dl3 : decide ((a1.size : Int) > 2000) = true := decide_eq_true (by omega)
      have dl4 : decide (2000 < (a1.size : Int)) = true := dl3
      clear hlen hll
      go_enter Tryd.func4, Tryd.ntmps4
      go_wp2_with fail
      refine (AW.out _ (Below.refl _ _)).mono ?_; rintro e w1 ⟨rfl, hB⟩
      have hB1 := Lib.hid hB
      clear hB
      go_wp2_with fail
      go_ret
      exact ⟨rfl, hB1.out⟩
  · have cl : decide (l.length > 40) = true := decide_eq_true (by omega)
    have cl2 : decide (40 < l.length) = true := cl
    have cl3 : decide ((l.length : Int) > 40) = true := decide_eq_true (by omega)
    have cl4 : decide (40 < (l.length : Int)) = true := cl3
    clear hll
    go_enter Tryd.func4, Tryd.ntmps4
    go_wp2_with fail
    refine (AW.out _ (Below.refl _ _)).mono ?_; rintro e w1 ⟨rfl, hB⟩
    have hB1 := Lib.hid hB
    clear hB
    go_wp2_with fail
    go_ret
    exact ⟨rfl, hB1.out⟩

set_option maxRecDepth 100000 in
theorem lifted (os : Os) (started : os.Started) (H : Type) (enc : TypeId × Value → H) :
    ReturnsInHanded {} Tryd.checked os 4 .any (fun w args => (Rows.phraseTextsSpec.pre enc Tryd.prog Tryd.f4 [] false w args ∧ laidMetH Tryd.prog Rows.phraseTextsRow.laid w) ∧ sizedMet enc Tryd.prog Tryd.f4 (OpenSpec.ofChange Rows.phraseTextsSpec) false w args)
      (Rows.phraseTextsSpec.post enc Tryd.prog Tryd.f4 false true false false) := by
  refine returnsInHanded_of_change_and (C := Tryd.checked) (X := fun w _ => laidMetH Tryd.prog Rows.phraseTextsRow.laid w) (fun _ _ _ hh h => h.of_heap hh) own started (by kernel_rfl) Tryd.func4
    (ChangeSpec.witness_shaped (enc := enc) (C := Tryd.checked) (os := os) (X := fun w _ => laidMetH Tryd.prog Rows.phraseTextsRow.laid w) false (World.doorLaid Tryd.prog 29 os) #[.slice none 0 0, .string ByteArray.empty] 8 rfl (World.shaped_of_RefB (by kernel_rfl) (by kernel_rfl)) (by kernel_rfl) (by kernel_rfl) (by kernel_rfl) (door_met os _)) ?_
  intro W base args ds gs before hval0 hW hcnd _ hL _
  have hval : ∀ (j : Nat) t v, Tryd.f4.params[j]? = some t → args[j]? = some v → Value.okWide Tryd.prog W .any base t v := hval0
  have hW' := hW
  obtain ⟨p, q, hA0, hV, rfl, hfz, hnd⟩ := hW
  have hA : DataW.TrodAll enc Tryd.prog W 0 (fun _ => true) true Tryd.f4.params.toList args.toList ds p := hA0
  rw [Tryd.params4] at hA hval
  obtain ⟨v0, vs0, d0, ds0, p0, q0, hargs, rfl, rfl, h0, r0⟩ := trodAll_cons hA
  obtain ⟨v1, vs1, d1, ds1, p1, q1, rfl, rfl, rfl, h1, r1⟩ := trodAll_cons r0
  obtain ⟨rfl, rfl, rfl⟩ := trodAll_nil r1
  obtain rfl : args = #[v0, v1] := by cases args; simp_all
  obtain ⟨rfl, rfl⟩ := trodVars_none hV
  obtain ⟨a0, len0, cap0, rfl⟩ := okWide_slice Tryd.underlying35 (hval 0 35 v0 rfl rfl)
  have k0 := h0
  have lt0 : ∀ x ∈ p0, x.block < W.heap.size := by obtain ⟨m, hm⟩ := k0; exact DataW.trod_lt m _ _ _ hm
  have w0 : Has W (.slice (.pair (.int .i64) (.pair (.int .i64) (.pair (.int .i64) (.pair (.int .i64) (.pair (.int .i64) (.pair (Sh.rep (.int .i64) 3) .unit))))))) [.slice a0 len0 cap0] := by obtain ⟨m, hm⟩ := h0; exact op35 _ _ _ _ _ _ _ _ _ hm
  obtain ⟨a1, rfl, rfl, rfl, w1⟩ := open_string Tryd.underlying9 (hval 1 9 v1 rfl rfl) h1
  clear hA0 hval0
  refine (walk a0 len0 cap0 a1 W w0 w1 (tb_of_laid hL) (kd_of_laid hL)).mono fun e W' ⟨he, bel⟩ => ?_
  subst he
  exact ⟨_, rfl, _, _, _, [], _, [], hW', trodAll_mk1 (shut_bool Tryd.underlying4 _), (trodAll_cons_mk (Below.trod laidOut (by kernel_rfl) (of_decide_eq_true (by kernel_rfl)) k0 bel lt0) (trodAll_cons_mk (shut_string Tryd.underlying9 w1) trodAll_mk0)), rfl, bel.frame _, fun h => by cases h⟩

theorem over : Rows.phraseTextsRow.holds Tryd.pinned (OpenSpec.ofChange Rows.phraseTextsSpec) :=
  OpenClaim.holds_of_wide 4 Tryd.f4 rfl rfl rfl rfl rfl rfl rfl ⟨rfl, rfl, rfl, rfl, rfl⟩ rfl rfl rfl rfl rfl (by kernel_rfl) Tryd.func4 (by kernel_rfl)
    (of_decide_eq_true (by kernel_rfl)) (by unfold Func.isWrapper; first | (rw [if_pos (by decide +kernel)]; kernel_rfl) | (rw [if_neg (by decide +kernel)]; exact ⟨rfl, rfl⟩))
    (fun os started H enc _ => lifted os started H enc)

/-- ████ THE STATEMENT ████ -/
theorem proved : Rows.PhraseTextsCardSaid :=
  Claim7.holds_tied_plain_at .later [] [.data, .data, .data, .data] true (true, "e7b8e969df539245d28662642bf8db658f0bc4ea9c504a54e108a1ec23ca8e3c") false
    over (fun _ h => by cases h) (by kernel_rfl) (fun _ h => by cases h) phraseTexts_row_tie rfl ⟨rfl, rfl⟩ (by kernel_rfl) rfl
    (fun f fn hf hfn => by
      obtain rfl : f = 4 := Option.some.inj ((show Tryd.prog.funcNamed "reeve/reevelaw19.PhraseTexts" = some 4 by kernel_rfl).symm.trans hf) |>.symm
      obtain rfl : fn = Tryd.f4 := (Option.some.inj (Tryd.func4.symm.trans hfn)).symm
      exact ⟨by kernel_rfl, fun j t ht => by
        rw [Tryd.params4] at ht
        have hm : t ∈ [35, 9] := by simpa using Array.mem_of_getElem? ht
        have hall : ([35, 9].all fun u => !Tryd.prog.wantsStandIn u) = true := by kernel_rfl
        exact (show Tryd.prog.wantsStandIn t = false by simpa using List.all_eq_true.1 hall t hm)⟩)
    (by kernel_rfl)
end Go.Proofs.YthpijibcfkcenaaDoor.phraseTexts
