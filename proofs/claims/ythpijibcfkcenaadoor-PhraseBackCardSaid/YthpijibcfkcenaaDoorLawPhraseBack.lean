/- The law PhraseBack of the repository answers true for every input. No conditions. -/
import Derived.Test.YthpijibcfkcenaaDoorPhrW
import Derived.Test.YthpijibcfkcenaaDoorPhrArgs
import Derived.Test.YthpijibcfkcenaaDoorRows
import Derived.Test.YthpijibcfkcenaaDoorCards
import Derived.Test.YthpijibcfkcenaaDoorTie
import Derived.SevenTiedAt
import Derived.LaidMore
import Derived.Stop.LaidErr
import Derived.Stop.Joined
import Derived.MakeChecks
import Derived.Lib.LaidTab
import Derived.WalkKit
import Derived.ProofKit
import Derived.OpenShut
import Derived.Below
import Derived.ShutString
import Derived.Carry
import Derived.Test.YthpijibcfkcenaaDoorArgs
namespace Go.Proofs.YthpijibcfkcenaaDoor.phraseBack
open Go.ChangeShapes Go.WideShapes Go.ChangeAt Go.RowKit
open Go.ChangeMaps (open_string shut_string)
set_option linter.unusedVariables false
set_option linter.unusedSimpArgs false

theorem own : ownKnob Tryd.prog.godebug = none := by kernel_rfl
theorem laidOut : laidOutB Tryd.prog = true := by kernel_rfl
theorem op3 : Opens Tryd.prog 3 (.int .i64) := opens_int Tryd.underlying3
theorem op23 : Opens Tryd.prog 23 (Sh.rep (.int .i64) 3) := opens_array Tryd.underlying23 (by kernel_rfl) (by kernel_rfl) op3
theorem op25 : Opens Tryd.prog 25 (.pair (.int .i64) (.pair (.int .i64) (.pair (.int .i64) (.pair (.int .i64) (.pair (.int .i64) (.pair (Sh.rep (.int .i64) 3) .unit)))))) := opens_struct Tryd.underlying25 (by kernel_rfl) (fields_cons rfl (by kernel_rfl) op3 (fields_cons rfl (by kernel_rfl) op3 (fields_cons rfl (by kernel_rfl) op3 (fields_cons rfl (by kernel_rfl) op3 (fields_cons rfl (by kernel_rfl) op3 (fields_cons rfl (by kernel_rfl) op23 fields_nil))))))
theorem op35 : Opens Tryd.prog 35 (.slice (.pair (.int .i64) (.pair (.int .i64) (.pair (.int .i64) (.pair (.int .i64) (.pair (.int .i64) (.pair (Sh.rep (.int .i64) 3) .unit))))))) := opens_slice Tryd.underlying35 (by kernel_rfl) (by decide) op25

def mayE (l : List Evt) : List Evt := (l.map pureE).filter fun v => checkE v == 0
theorem mayE_all (l : List Evt) : ∀ v ∈ mayE l, checkE v = 0 := fun v hv => by simpa using (List.mem_filter.1 hv).2
theorem mayE_ok {l : List Evt} (h : ∀ v ∈ l, v.ok) : ∀ v ∈ mayE l, v.ok := fun v hv => check_fits (mayE_all l v hv)
theorem mayE_len (l : List Evt) : (mayE l).length ≤ l.length := Nat.le_trans (List.length_filter_le _ _) (by simp)
theorem mayE_next (l : List Evt) (k : Nat) (h : k < l.length) : mayE (l.take (k + 1)) = mayE (l.take k) ++ if checkE (pureE l[k]) = 0 then [pureE l[k]] else [] := by
  unfold mayE
  rw [List.take_succ_eq_append_getElem h, List.map_append, List.filter_append]
  congr 1
  by_cases hc : checkE (pureE l[k]) = 0 <;> simp [hc]
theorem mayE_take_len (l : List Evt) (k : Nat) : (mayE (l.take k)).length ≤ k := Nat.le_trans (mayE_len _) (by rw [List.length_take]; omega)
theorem back_bytes (T : List UInt8) : ByteArray.mk #[35, 10] ++ bs T ++ ByteArray.mk #[10] = bs ([35, 10] ++ T ++ [10]) := by
  rw [show ByteArray.mk #[35, 10] = bs [35, 10] from rfl, show ByteArray.mk #[10] = bs [10] from rfl, bs_append, bs_append]

theorem door_met (os : Os) (args : Array Value) : laidMetH Tryd.prog Rows.phraseBackRow.laid ((World.doorLaid Tryd.prog 29 os).forCall (fun _ _ => 0) ⟨#[], args, []⟩).memory :=
  laidMetH_of_parts3 (fuel := 8) (laidMet_of_run' 8 (by kernel_rfl) (by kernel_rfl)) (by kernel_rfl) (by kernel_rfl)
theorem tb_of_laid {W : World} (h0 : laidMetH Tryd.prog Rows.phraseBackRow.laid W) : Tb W := by
  rw [MakeChecks.laidMetH_plain _ _ _ (by kernel_rfl)] at h0
  have h : laidMet Tryd.prog [("math/bits.deBruijn32tab", Rows.laid_math_bits_deBruijn32tab), ("math/bits.deBruijn64tab", Rows.laid_math_bits_deBruijn64tab), ("internal/strconv.uint64pow10", Rows.laid_internal_strconv_uint64pow10), ("reeve/phrase.kinds", Rows.laid_reeve_phrase_kinds)] W := h0
  have e : (Rows.laid_internal_strconv_uint64pow10 : DataW Unit) = Lib.tabData .u64 Lib.pow10Tab := by kernel_rfl
  have h2 := h.tail.tail
  rw [e] at h2
  exact Lib.tabIs_of_head (g := 1) (t := 119) (e := 112) (n := 20) (by kernel_rfl) (by kernel_rfl) (by kernel_rfl) (by kernel_rfl) (by kernel_rfl) (by kernel_rfl) h2

theorem kd_of_laid {W : World} (h0 : laidMetH Tryd.prog Rows.phraseBackRow.laid W) : Kd W := by
  rw [MakeChecks.laidMetH_plain _ _ _ (by kernel_rfl)] at h0
  have h : laidMet Tryd.prog [("math/bits.deBruijn32tab", Rows.laid_math_bits_deBruijn32tab), ("math/bits.deBruijn64tab", Rows.laid_math_bits_deBruijn64tab), ("internal/strconv.uint64pow10", Rows.laid_internal_strconv_uint64pow10), ("reeve/phrase.kinds", Rows.laid_reeve_phrase_kinds)] W := h0
  have e : (Rows.laid_reeve_phrase_kinds : DataW Unit) = textData words7 := by kernel_rfl
  have h2 := h.tail.tail.tail
  rw [e] at h2
  exact textsIs_of_head (g := 0) (t := 63) (e := 9) (n := 7) (by kernel_rfl) (by kernel_rfl) (by kernel_rfl) (by kernel_rfl) (by kernel_rfl) (by kernel_rfl) h2

set_option maxRecDepth 100000 in
set_option maxHeartbeats 16000000 in
theorem walk (a0 : Option Addr) (len0 cap0 : Nat) (w : World) (w0 : Has w (.slice (.pair (.int .i64) (.pair (.int .i64) (.pair (.int .i64) (.pair (.int .i64) (.pair (.int .i64) (.pair (Sh.rep (.int .i64) 3) .unit))))))) [.slice a0 len0 cap0]) (ht : Tb w) (hKd : Kd w) :
    Calls Tryd.prog 5 #[.slice a0 len0 cap0] w fun e w' => e = .returned (.bool true) ∧ Below w.heap.size w w' := by
  have HT : phT w := ⟨ht, hKd⟩
  obtain ⟨l, hl, hr, hok⟩ := evts_came w0
  subst hl
  have AW := Lib.hid fun w' (hb : Below w.heap.size w w') => phrase_awake w' (phT_below HT hb)
  clear w0
  by_cases hll : l.length ≤ 40
  · have cl : decide (l.length > 40) = false := decide_eq_false (by omega)
    have cl2 : decide (40 < l.length) = false := cl
    have cl3 : decide ((l.length : Int) > 40) = false := decide_eq_false (by omega)
    have cl4 : decide (40 < (l.length : Int)) = false := cl3
    have H := Lib.hid fun k (hk : k < l.length) => rdV_at hr hk
    have hml := mayE_len l
    have hma := mayE_all l
    have hmo := mayE_ok hok
    have T1 := Lib.hid fun v K w' (h : RdV w' K v (mayE l)) (hb : Below w.heap.size w w') => phtext_any v (mayE l) K w' (by omega) hmo h (phT_below HT hb)
    have hte := text_end hma
    have hab := all_back hma
    have htl := texts_len (mayE l) hma
    have hts : (textP (mayE l)).1.length ≤ 6040 := by rw [hte]; show (textW ((mayE l).map lineL)).length ≤ 6040; omega
    have h2 : (textP (mayE l)).2 = 0 := by rw [hte]
    have A1 := Lib.hid fun w' (hb : Below w.heap.size w w') => phall_any (ByteArray.mk #[35, 10] ++ bs (textP (mayE l)).1 ++ ByteArray.mk #[10]) w' (by rw [back_bytes, bs_size, List.length_append, List.length_append]; simp; omega) (phT_below HT hb)
    have SM := Lib.hid fun v u K1 K2 w' (h1 : RdV w' K1 v (mayE l)) (h2 : RdV w' K2 u (mayE l)) => esame_any v u (mayE l) K1 K2 w' (by omega) h1 h2
    unfold PhAR at A1
    simp only [back_bytes, bs_list] at A1
    rw [hab] at A1
    simp only [← back_bytes] at A1
    rw [h2] at T1
    have hbs : (bs (textP (mayE l)).1).size ≤ 6040 := by rw [bs_size]; exact hts
    have hbt : (ByteArray.mk #[35, 10] ++ bs (textP (mayE l)).1).size ≤ 6042 := by rw [ByteArray.size_append]; show 2 + _ ≤ _; omega
    have PU := Lib.hid fun v w' => rpure_any v w'
    have CK := Lib.hid fun v w' => rcheck_any v w'
    have HB0 := Lib.hid (show (mayE l).length ≤ 40 by omega)
    generalize bs (textP (mayE l)).1 = s at *
    obtain ⟨ie, hie, hy0, hy1, hy2⟩ := info_parts infoEv
    clear hr hok HT hml hma hmo hte hab htl hts h2
    go_enter Tryd.func5, Tryd.ntmps5
    go_wp2_with fail
    go_loopw [3, 4] (fun r i wr => ∃ k : Nat, k ≤ l.length ∧ i = .int .i64 k ∧ wr.ownsRow w.heap.size 25 8 r (mayE (l.take k)).length (rowsV (mayE (l.take k))).flatten ∧ Below w.heap.size w wr) (fun _ i _ => l.length - (intOf i).toNat)
    case atStart => exact ⟨0, by omega, rfl, World.ownsRow_nil _ _ _ _, Below.refl _ _⟩
    case round =>
      obtain ⟨k, hk, rfl, hown, hb⟩ := hrel
      have HO := Lib.hid hown
      have HB := Lib.hid hb
      clear hown
      by_cases hlt : k < l.length
      · have dk : decide (k < l.length) = true := decide_eq_true hlt
        obtain ⟨b, o, rfl, hbl, x0⟩ := H.out k hlt
        obtain ⟨c0, c1, c2, c3, c4, c5, c6, c7⟩ := x0.below hb hbl
        have hnx := mayE_next l k hlt
        have hkl := mayE_take_len l k
        have PUx := Lib.hid (PU.out l[k])
        have CKx := Lib.hid (CK.out (pureE l[k]))
        generalize pureE l[k] = x at *
        generalize l[k] = v at *
        generalize mayE (l.take k) = ms at *
        unfold Evt.val at PUx CKx
        clear x0 hb
        go_wp2_with fail
        refine (PUx.out _).mono ?_; rintro e w2 ⟨rfl, hB⟩
        have HB2 := Lib.hid ((HB.out.trans (hB.mono HB.out.size)).alloc (HB.out.trans (hB.mono HB.out.size)).size (.cells x.cells 25))
        have HO2 := Lib.hid ((owns_below HO.out hB).alloc (.cells x.cells 25))
        have X2 := Lib.hid (blk_new w2 (.cells x.cells 25))
        clear hB c0 c1 c2 c3 c4 c5 c6 c7 PUx
        unfold Evt.cells at HB2 HO2 X2
        go_wp2_with fail
        refine (CKx.out _).mono ?_; rintro e w3 ⟨rfl, hB⟩
        have HB3 := Lib.hid (HB2.out.trans (hB.mono HB2.out.size))
        have HO3 := Lib.hid (owns_below HO2.out hB)
        have X3 := Lib.hid (show w3.heap[w2.heap.size]? = some (.cells x.cells 25 (0, 0)) from blk_below hB X2.out (by simp))
        clear hB CKx HB2 HO2 X2
        obtain ⟨c0, c1, c2, c3, c4, c5, c6, c7⟩ := evt_cells X3.out
        by_cases hc : checkE x = 0
        · rw [if_pos hc] at hnx
          have HNX := Lib.hid hnx
          clear hnx
          rw [hc]
          clear hc
          go_wp2_with (at_builtin; refine wpList_append_rdK rfl _ _ 35 rfl w.heap.size 25 zeroEv 8 64 infoEv rfl (by decide) (by decide) Tryd.underlying35 _ _ _ rfl (HO3.out.alloc _) (fun _ => True) _ (rowsV [x]) rfl ?c2 (rowsV_eight _) (rowsV_one _) ?c3 ?c4 ?_)
          case c2 => exact (rdK_lit1 w3 x.row x.cells 25 rfl).imp fun _ _ _ => trivial
          case c3 => rw [rowsV_len]; simp; omega
          case c4 => have := HB3.out.size; simp; omega
          intro v' w4 hown4 hgrow
          have HB4 := Lib.hid (grown_below (HB3.out.alloc HB3.out.size _) hgrow (fun g hg => owns_row HO3.out hg) (by have := HB3.out.size; simp; omega))
          have hown4' : w4.ownsRow w.heap.size 25 8 v' (ms ++ [x]).length (rowsV (ms ++ [x])).flatten := by
            rw [List.length_append, rowsV_append]
            exact hown4
          have HO4 := Lib.hid hown4'
          clear hown4 hown4' hgrow
          go_wp2_with fail
          go_roundw
          case rel => exact ⟨k + 1, by omega, by go_num, by rw [HNX.out]; exact HO4.out, HB4.out⟩
          case measure => simp [intOf]; omega
        · rw [if_neg hc, List.append_nil] at hnx
          have HNX := Lib.hid hnx
          clear hnx
          have dn : (checkE x == 0) = false := by simpa using hc
          generalize checkE x = q at *
          clear hc
          go_wp2_with fail
          go_roundw
          case rel => exact ⟨k + 1, by omega, by go_num, by rw [HNX.out]; exact HO3.out, HB3.out⟩
          case measure => simp [intOf]; omega
      · obtain rfl : k = l.length := by omega
        have dk : decide (l.length < l.length) = false := decide_eq_false hlt
        rw [List.take_length] at HO
        have HR := Lib.hid (rdV_own HO.out rfl)
        obtain ⟨A2, c2, rfl, _, _⟩ := rdV_form HR.out
        generalize mayE l = ms at *
        clear hb HO H
        go_wp2_with fail
        refine (T1.out _ _ _ HR.out HB.out).mono ?_; rintro e w2 ⟨rfl, hB⟩
        have HB2 := Lib.hid (HB.out.trans (hB.mono HB.out.size))
        have HR2 := Lib.hid (RdK.below HR.out hB)
        clear hB HB HR T1
        go_wp2_with fail
        refine (A1.out _ HB2.out).mono ?_; rintro e w3 ⟨u, rfl, hu, hB⟩
        have HB3 := Lib.hid (HB2.out.trans (hB.mono HB2.out.size))
        have HR3 := Lib.hid (RdK.below HR2.out hB)
        have HU := Lib.hid hu
        clear hB hu HB2 HR2 A1
        go_wp2_with fail
        refine (SM.out _ _ _ _ _ HU.out HR3.out).mono ?_; rintro e w4 ⟨rfl, hB⟩
        have HB4 := Lib.hid (HB3.out.trans (hB.mono HB3.out.size))
        clear hB HB3 HR3 HU SM
        go_wp2_with fail
        refine (AW.out _ HB4.out).mono ?_; rintro e w5 ⟨rfl, hB⟩
        have HB5 := Lib.hid (HB4.out.trans (hB.mono HB4.out.size))
        clear hB HB4
        go_wp2_with fail
        go_ret
        exact ⟨rfl, HB5.out⟩
  · have cl : decide (l.length > 40) = true := decide_eq_true (by omega)
    have cl2 : decide (40 < l.length) = true := cl
    have cl3 : decide ((l.length : Int) > 40) = true := decide_eq_true (by omega)
    have cl4 : decide (40 < (l.length : Int)) = true := cl3
    clear hll hr
    go_enter Tryd.func5, Tryd.ntmps5
    go_wp2_with fail
    refine (AW.out _ (Below.refl _ _)).mono ?_; rintro e w1 ⟨rfl, hB⟩
    have hB1 := Lib.hid hB
    clear hB
    go_wp2_with fail
    go_ret
    exact ⟨rfl, hB1.out⟩

set_option maxRecDepth 100000 in
theorem lifted (os : Os) (started : os.Started) (H : Type) (enc : TypeId × Value → H) :
    ReturnsInHanded {} Tryd.checked os 5 .any (fun w args => (Rows.phraseBackSpec.pre enc Tryd.prog Tryd.f5 [] false w args ∧ laidMetH Tryd.prog Rows.phraseBackRow.laid w) ∧ sizedMet enc Tryd.prog Tryd.f5 (OpenSpec.ofChange Rows.phraseBackSpec) false w args)
      (Rows.phraseBackSpec.post enc Tryd.prog Tryd.f5 false true false false) := by
  refine returnsInHanded_of_change_and (C := Tryd.checked) (X := fun w _ => laidMetH Tryd.prog Rows.phraseBackRow.laid w) (fun _ _ _ hh h => h.of_heap hh) own started (by kernel_rfl) Tryd.func5
    (ChangeSpec.witness_shaped (enc := enc) (C := Tryd.checked) (os := os) (X := fun w _ => laidMetH Tryd.prog Rows.phraseBackRow.laid w) false (World.doorLaid Tryd.prog 29 os) #[.slice none 0 0] 8 rfl (World.shaped_of_RefB (by kernel_rfl) (by kernel_rfl)) (by kernel_rfl) (by kernel_rfl) (by kernel_rfl) (door_met os _)) ?_
  intro W base args ds gs before hval0 hW hcnd _ hL _
  have hval : ∀ (j : Nat) t v, Tryd.f5.params[j]? = some t → args[j]? = some v → Value.okWide Tryd.prog W .any base t v := hval0
  have hW' := hW
  obtain ⟨p, q, hA0, hV, rfl, hfz, hnd⟩ := hW
  have hA : DataW.TrodAll enc Tryd.prog W 0 (fun _ => true) true Tryd.f5.params.toList args.toList ds p := hA0
  rw [Tryd.params5] at hA hval
  obtain ⟨v0, vs0, d0, ds0, p0, q0, hargs, rfl, rfl, h0, r0⟩ := trodAll_cons hA
  obtain ⟨rfl, rfl, rfl⟩ := trodAll_nil r0
  obtain rfl : args = #[v0] := by cases args; simp_all
  obtain ⟨rfl, rfl⟩ := trodVars_none hV
  obtain ⟨a0, len0, cap0, rfl⟩ := okWide_slice Tryd.underlying35 (hval 0 35 v0 rfl rfl)
  have k0 := h0
  have lt0 : ∀ x ∈ p0, x.block < W.heap.size := by obtain ⟨m, hm⟩ := k0; exact DataW.trod_lt m _ _ _ hm
  have w0 : Has W (.slice (.pair (.int .i64) (.pair (.int .i64) (.pair (.int .i64) (.pair (.int .i64) (.pair (.int .i64) (.pair (Sh.rep (.int .i64) 3) .unit))))))) [.slice a0 len0 cap0] := by obtain ⟨m, hm⟩ := h0; exact op35 _ _ _ _ _ _ _ _ _ hm
  clear hA0 hval0
  refine (walk a0 len0 cap0 W w0 (tb_of_laid hL) (kd_of_laid hL)).mono fun e W' ⟨he, bel⟩ => ?_
  subst he
  exact ⟨_, rfl, _, _, _, [], _, [], hW', trodAll_mk1 (shut_bool Tryd.underlying4 _), (trodAll_cons_mk (Below.trod laidOut (by kernel_rfl) (of_decide_eq_true (by kernel_rfl)) k0 bel lt0) trodAll_mk0), rfl, bel.frame _, fun h => by cases h⟩

theorem over : Rows.phraseBackRow.holds Tryd.pinned (OpenSpec.ofChange Rows.phraseBackSpec) :=
  OpenClaim.holds_of_wide 5 Tryd.f5 rfl rfl rfl rfl rfl rfl rfl ⟨rfl, rfl, rfl, rfl, rfl⟩ rfl rfl rfl rfl rfl (by kernel_rfl) Tryd.func5 (by kernel_rfl)
    (of_decide_eq_true (by kernel_rfl)) (by unfold Func.isWrapper; first | (rw [if_pos (by decide +kernel)]; kernel_rfl) | (rw [if_neg (by decide +kernel)]; exact ⟨rfl, rfl⟩))
    (fun os started H enc _ => lifted os started H enc)

/-- ████ THE STATEMENT ████ -/
theorem proved : Rows.PhraseBackCardSaid :=
  Claim7.holds_tied_plain_at .later [] [.data, .data, .data, .data] true (true, "e7b8e969df539245d28662642bf8db658f0bc4ea9c504a54e108a1ec23ca8e3c") false
    over (fun _ h => by cases h) (by kernel_rfl) (fun _ h => by cases h) phraseBack_row_tie rfl ⟨rfl, rfl⟩ (by kernel_rfl) rfl
    (fun f fn hf hfn => by
      obtain rfl : f = 5 := Option.some.inj ((show Tryd.prog.funcNamed "reeve/reevelaw19.PhraseBack" = some 5 by kernel_rfl).symm.trans hf) |>.symm
      obtain rfl : fn = Tryd.f5 := (Option.some.inj (Tryd.func5.symm.trans hfn)).symm
      exact ⟨by kernel_rfl, fun j t ht => by
        rw [Tryd.params5] at ht
        have hm : t ∈ [35] := by simpa using Array.mem_of_getElem? ht
        have hall : ([35].all fun u => !Tryd.prog.wantsStandIn u) = true := by kernel_rfl
        exact (show Tryd.prog.wantsStandIn t = false by simpa using List.all_eq_true.1 hall t hm)⟩)
    (by kernel_rfl)
end Go.Proofs.YthpijibcfkcenaaDoor.phraseBack
