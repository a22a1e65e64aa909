/- The law ResTexts of the repository answers true for every input. No conditions. -/
import Derived.Test.YtgiofaccigkfjaaDoorResAwake
import Derived.Test.YtgiofaccigkfjaaDoorRows
import Derived.Test.YtgiofaccigkfjaaDoorCards
import Derived.Test.YtgiofaccigkfjaaDoorTie
import Derived.SevenTiedAt
import Derived.LaidMore
import Derived.Stop.LaidErr
import Derived.Stop.Joined
import Derived.MakeChecks
import Derived.Lib.LaidTab
import Derived.WalkKit
import Derived.ProofKit
import Derived.OpenShut
import Derived.Below
import Derived.ShutString
import Derived.Carry
import Derived.Test.YtgiofaccigkfjaaDoorArgs
namespace Go.Proofs.YtgiofaccigkfjaaDoor.resTexts
open Go.ChangeShapes Go.WideShapes Go.ChangeAt Go.RowKit
open Go.ChangeMaps (open_string shut_string)
set_option linter.unusedVariables false
set_option linter.unusedSimpArgs false

theorem own : ownKnob Tryd.prog.godebug = none := by kernel_rfl
theorem laidOut : laidOutB Tryd.prog = true := by kernel_rfl
theorem op3 : Opens Tryd.prog 3 (.int .i64) := opens_int Tryd.underlying3
theorem op23 : Opens Tryd.prog 23 (Sh.rep (.int .i64) 3) := opens_array Tryd.underlying23 (by kernel_rfl) (by kernel_rfl) op3

theorem door_met (os : Os) (args : Array Value) : laidMetH Tryd.prog Rows.resTextsRow.laid ((World.doorLaid Tryd.prog 24 os).forCall (fun _ _ => 0) ⟨#[], args, []⟩).memory :=
  laidMetH_of_parts3 (fuel := 8) (laidMet_of_run' 8 (by kernel_rfl) (by kernel_rfl)) (by kernel_rfl) (by kernel_rfl)
theorem tb_of_laid {W : World} (h0 : laidMetH Tryd.prog Rows.resTextsRow.laid W) : Tb W := by
  rw [MakeChecks.laidMetH_plain _ _ _ (by kernel_rfl)] at h0
  have h : laidMet Tryd.prog [("math/bits.deBruijn32tab", Rows.laid_math_bits_deBruijn32tab), ("math/bits.deBruijn64tab", Rows.laid_math_bits_deBruijn64tab), ("internal/strconv.uint64pow10", Rows.laid_internal_strconv_uint64pow10)] W := h0
  have e : (Rows.laid_internal_strconv_uint64pow10 : DataW Unit) = Lib.tabData .u64 Lib.pow10Tab := by kernel_rfl
  have h2 := h.tail.tail
  rw [e] at h2
  exact Lib.tabIs_of_head (g := 1) (t := 86) (e := 80) (n := 20) (by kernel_rfl) (by kernel_rfl) (by kernel_rfl) (by kernel_rfl) (by kernel_rfl) (by kernel_rfl) h2

set_option maxRecDepth 100000 in
set_option maxHeartbeats 4000000 in
theorem walk (c0 : Array Value) (a1 : ByteArray) (w : World) (w0 : Has w (Sh.rep (.int .i64) 3) c0.toList) (w1 : a1.size ≤ maxLen) (ht : Tb w) :
    Calls Tryd.prog 4 #[.agg c0, .string a1] w fun e w' => e = .returned (.bool true) ∧ Below w.heap.size w w' := by
  have HT := Lib.hid ht
  clear ht
  obtain ⟨v, hv, rfl⟩ := res_came w0
  unfold maxLen at w1
  clear w0
  have HX1 := Lib.hid (bx_fresh w v)
  have HB := Lib.hid ((Below.refl w.heap.size w).alloc (Nat.le_refl _) (.cells #[.int .i64 v.a, .int .i64 v.b, .int .i64 v.c] 23))
  by_cases hg : 200 < a1.size
  · have d1 : decide ((200 : Int) < a1.size) = true := decide_eq_true (by omega)
    have AW := Lib.hid (res_awake (w.alloc (.cells #[.int .i64 v.a, .int .i64 v.b, .int .i64 v.c] 23)) (tb_below HT.out HB.out))
    go_enter Tryd.func4, Tryd.ntmps4
    go_wp2_with fail
    refine AW.out.mono ?_; rintro e w' ⟨rfl, hb⟩
    have HF := Lib.hid (HB.out.trans (hb.mono HB.out.size))
    clear hb
    go_wp2_with fail
    go_ret
    exact ⟨rfl, HF.out⟩
  have d1 : decide ((200 : Int) < a1.size) = false := decide_eq_false (by omega)
  have P1 := fun w h => qparse_any a1 w (by omega) h
  have P2 := fun w => r8parse_any a1 w (by omega)
  have T1 := fun w h => qtext_any v w hv h
  have T2 := fun w => r8text_any v w hv
  have P3 := fun w h => qparse_any (bs (text3 v)) w (by rw [bs_size]; have := text3_len v hv; omega) h
  rw [bs_list, (parse3_back v hv).1, (parse3_back v hv).2, show (((0 : Nat)) : Int) = 0 from rfl] at P3
  unfold V3.val at P1 P2 P3 T1 T2
  generalize parse3V a1.data.toList = x at *
  generalize ((parse3E a1.data.toList : Nat) : Int) = n at *
  generalize bs (text3 v) = tt at *
  replace P1 := Lib.hid P1
  replace P2 := Lib.hid P2
  replace P3 := Lib.hid P3
  replace T1 := Lib.hid T1
  replace T2 := Lib.hid T2
  go_enter Tryd.func4, Tryd.ntmps4
  go_wp2_with fail
  refine (P1.out _ (tb_below HT.out HB.out)).mono ?_; rintro e w2 ⟨rfl, b1⟩
  replace HB := Lib.hid ((HB.out.trans (b1.mono HB.out.size)).alloc (Nat.le_trans HB.out.size b1.size) (.cells #[.int .i64 x.a, .int .i64 x.b, .int .i64 x.c] 23))
  replace HX1 := Lib.hid (bx_more (bx_below HX1.out b1) (.cells #[.int .i64 x.a, .int .i64 x.b, .int .i64 x.c] 23))
  have HX2 := Lib.hid (bx_fresh w2 x)
  clear b1
  go_wp2_with fail
  refine (P2.out _).mono ?_; rintro e w3 ⟨rfl, b1⟩
  replace HB := Lib.hid ((HB.out.trans (b1.mono HB.out.size)).alloc (Nat.le_trans HB.out.size b1.size) (.cells #[.int .i64 x.a, .int .i64 x.b, .int .i64 x.c] 23))
  replace HX1 := Lib.hid (bx_more (bx_below HX1.out b1) (.cells #[.int .i64 x.a, .int .i64 x.b, .int .i64 x.c] 23))
  replace HX2 := Lib.hid (bx_more (bx_below HX2.out b1) (.cells #[.int .i64 x.a, .int .i64 x.b, .int .i64 x.c] 23))
  have HX3 := Lib.hid (bx_fresh w3 x)
  clear b1
  obtain ⟨c00, c01, c02⟩ := bx_cells HX1.out
  go_wp2_with fail
  clear c00 c01 c02
  refine (T1.out _ (tb_below HT.out HB.out)).mono ?_; rintro e w4 ⟨rfl, b1⟩
  replace HB := Lib.hid (HB.out.trans (b1.mono HB.out.size))
  replace HX1 := Lib.hid (bx_below HX1.out b1)
  replace HX2 := Lib.hid (bx_below HX2.out b1)
  replace HX3 := Lib.hid (bx_below HX3.out b1)
  clear b1
  go_wp2_with fail
  refine (P3.out _ (tb_below HT.out HB.out)).mono ?_; rintro e w5 ⟨rfl, b1⟩
  replace HB := Lib.hid ((HB.out.trans (b1.mono HB.out.size)).alloc (Nat.le_trans HB.out.size b1.size) (.cells #[.int .i64 v.a, .int .i64 v.b, .int .i64 v.c] 23))
  replace HX1 := Lib.hid (bx_more (bx_below HX1.out b1) (.cells #[.int .i64 v.a, .int .i64 v.b, .int .i64 v.c] 23))
  replace HX2 := Lib.hid (bx_more (bx_below HX2.out b1) (.cells #[.int .i64 v.a, .int .i64 v.b, .int .i64 v.c] 23))
  replace HX3 := Lib.hid (bx_more (bx_below HX3.out b1) (.cells #[.int .i64 v.a, .int .i64 v.b, .int .i64 v.c] 23))
  have HX4 := Lib.hid (bx_fresh w5 v)
  clear b1
  obtain ⟨c00, c01, c02⟩ := bx_cells HX1.out
  go_wp2_with fail
  clear c00 c01 c02
  generalize w5.alloc (.cells #[.int .i64 v.a, .int .i64 v.b, .int .i64 v.c] 23) = w6 at *
  have AW := Lib.hid fun w' (h : Below w6.heap.size w6 w') => res_awake w' (tb_below HT.out (HB.out.trans (h.mono HB.out.size)))
  have Ev := fun w => eq3_same v w
  have Ex := fun w => eq3_same x w
  refine wp_region_hold (fun w' => Below w6.heap.size w6 w') (by kernel_rfl) (by kernel_rfl) ⟨rfl, rfl, rfl, Nat.le_refl _, fun _ _ => rfl⟩ ?_
  have HL := Lib.hid (show ∀ w', Below w6.heap.size w6 w' → ((w'.cell? ⟨w.heap.size, 0, none⟩ = some (.int .i64 v.a) ∧ w'.cell? ⟨w.heap.size, 1, none⟩ = some (.int .i64 v.b) ∧ w'.cell? ⟨w.heap.size, 2, none⟩ = some (.int .i64 v.c)) ∧
      (w'.cell? ⟨w2.heap.size, 0, none⟩ = some (.int .i64 x.a) ∧ w'.cell? ⟨w2.heap.size, 1, none⟩ = some (.int .i64 x.b) ∧ w'.cell? ⟨w2.heap.size, 2, none⟩ = some (.int .i64 x.c)) ∧
      (w'.cell? ⟨w3.heap.size, 0, none⟩ = some (.int .i64 x.a) ∧ w'.cell? ⟨w3.heap.size, 1, none⟩ = some (.int .i64 x.b) ∧ w'.cell? ⟨w3.heap.size, 2, none⟩ = some (.int .i64 x.c)) ∧
      (w'.cell? ⟨w5.heap.size, 0, none⟩ = some (.int .i64 v.a) ∧ w'.cell? ⟨w5.heap.size, 1, none⟩ = some (.int .i64 v.b) ∧ w'.cell? ⟨w5.heap.size, 2, none⟩ = some (.int .i64 v.c))) from
    fun w' hb => ⟨bx_cells (bx_below HX1.out hb), bx_cells (bx_below HX2.out hb), bx_cells (bx_below HX3.out hb), bx_cells (bx_below HX4.out hb)⟩)
  repeat
    first
    | (refine hold_val (v := ?_) (by rfl) ?_ ?_
       rotate_left
       · (intro w' hS
          obtain ⟨⟨_, _, _⟩, ⟨_, _, _⟩, ⟨_, _, _⟩, ⟨_, _, _⟩⟩ := HL.out w' hS
          go_simp
          try with_reducible rfl)
       simp only [Act.put, List.setIfInBounds_toArray, List.set_cons_zero, List.set_cons_succ])
    | (refine hold_skip (by rfl) ?_
       simp only [Act.put, List.setIfInBounds_toArray, List.set_cons_zero, List.set_cons_succ])
    | ((first
        | (refine hold_call (by rfl) ?_ (fun w' hS => made_call hS (Nat.le_refl _) (T1.out w' (tb_below HT.out (HB.out.trans (hS.mono HB.out.size))))) ?_; focus (intro w' hS; go_simp; done))
        | (refine hold_call (by rfl) ?_ (fun w' hS => made_call hS (Nat.le_refl _) (T2.out w')) ?_; focus (intro w' hS; go_simp; done))
        | (refine hold_call (by rfl) ?_ (fun w' hS => made_call hS (Nat.le_refl _) (AW.out w' hS)) ?_; focus (intro w' hS; go_simp; done)))
       simp only [Act.put, List.setIfInBounds_toArray, List.set_cons_zero, List.set_cons_succ])
  refine hold_nil (fun w' hS => ?_)
  have HF := Lib.hid (HB.out.trans (hS.mono HB.out.size))
  clear hS
  go_wp2_with fail
  go_ret
  exact ⟨rfl, HF.out⟩

set_option maxRecDepth 100000 in
theorem lifted (os : Os) (started : os.Started) (H : Type) (enc : TypeId × Value → H) :
    ReturnsInHanded {} Tryd.checked os 4 .any (fun w args => (Rows.resTextsSpec.pre enc Tryd.prog Tryd.f4 [] false w args ∧ laidMetH Tryd.prog Rows.resTextsRow.laid w) ∧ sizedMet enc Tryd.prog Tryd.f4 (OpenSpec.ofChange Rows.resTextsSpec) false w args)
      (Rows.resTextsSpec.post enc Tryd.prog Tryd.f4 false true false false) := by
  refine returnsInHanded_of_change_and (C := Tryd.checked) (X := fun w _ => laidMetH Tryd.prog Rows.resTextsRow.laid w) (fun _ _ _ hh h => h.of_heap hh) own started (by kernel_rfl) Tryd.func4
    (ChangeSpec.witness_shaped (enc := enc) (C := Tryd.checked) (os := os) (X := fun w _ => laidMetH Tryd.prog Rows.resTextsRow.laid w) false (World.doorLaid Tryd.prog 24 os) #[.agg #[.int .i64 0, .int .i64 0, .int .i64 0], .string ByteArray.empty] 8 rfl (World.shaped_of_RefB (by kernel_rfl) (by kernel_rfl)) (by kernel_rfl) (by kernel_rfl) (by kernel_rfl) (door_met os _)) ?_
  intro W base args ds gs before hval0 hW hcnd _ hL _
  have hval : ∀ (j : Nat) t v, Tryd.f4.params[j]? = some t → args[j]? = some v → Value.okWide Tryd.prog W .any base t v := hval0
  have hW' := hW
  obtain ⟨p, q, hA0, hV, rfl, hfz, hnd⟩ := hW
  have hA : DataW.TrodAll enc Tryd.prog W 0 (fun _ => true) true Tryd.f4.params.toList args.toList ds p := hA0
  rw [Tryd.params4] at hA hval
  obtain ⟨v0, vs0, d0, ds0, p0, q0, hargs, rfl, rfl, h0, r0⟩ := trodAll_cons hA
  obtain ⟨v1, vs1, d1, ds1, p1, q1, rfl, rfl, rfl, h1, r1⟩ := trodAll_cons r0
  obtain ⟨rfl, rfl, rfl⟩ := trodAll_nil r1
  obtain rfl : args = #[v0, v1] := by cases args; simp_all
  obtain ⟨rfl, rfl⟩ := trodVars_none hV
  obtain ⟨c0, rfl, _⟩ := okWide_array Tryd.underlying23 (hval 0 23 v0 rfl rfl)
  have k0 := h0
  have lt0 : ∀ x ∈ p0, x.block < W.heap.size := by obtain ⟨m, hm⟩ := k0; exact DataW.trod_lt m _ _ _ hm
  have w0 : Has W (Sh.rep (.int .i64) 3) c0.toList := by obtain ⟨m, hm⟩ := h0; exact op23 _ _ _ _ _ _ _ _ _ hm
  obtain ⟨a1, rfl, rfl, rfl, w1⟩ := open_string Tryd.underlying9 (hval 1 9 v1 rfl rfl) h1
  clear hA0 hval0
  refine (walk c0 a1 W w0 w1 (tb_of_laid hL)).mono fun e W' ⟨he, bel⟩ => ?_
  subst he
  exact ⟨_, rfl, _, _, _, [], _, [], hW', trodAll_mk1 (shut_bool Tryd.underlying4 _), (trodAll_cons_mk (Below.trod laidOut (by kernel_rfl) (of_decide_eq_true (by kernel_rfl)) k0 bel lt0) (trodAll_cons_mk (shut_string Tryd.underlying9 w1) trodAll_mk0)), rfl, bel.frame _, fun h => by cases h⟩

theorem over : Rows.resTextsRow.holds Tryd.pinned (OpenSpec.ofChange Rows.resTextsSpec) :=
  OpenClaim.holds_of_wide 4 Tryd.f4 rfl rfl rfl rfl rfl rfl rfl ⟨rfl, rfl, rfl, rfl, rfl⟩ rfl rfl rfl rfl rfl (by kernel_rfl) Tryd.func4 (by kernel_rfl)
    (of_decide_eq_true (by kernel_rfl)) (by unfold Func.isWrapper; first | (rw [if_pos (by decide +kernel)]; kernel_rfl) | (rw [if_neg (by decide +kernel)]; exact ⟨rfl, rfl⟩))
    (fun os started H enc _ => lifted os started H enc)

/-- ████ THE STATEMENT ████ -/
theorem proved : Rows.ResTextsCardSaid :=
  Claim7.holds_tied_plain_at .later [] [.data, .data, .data] true (true, "82ff6db06fee50aa0c3dbfe868e7dce65c9f4de1dba2520d171193fce050021c") false
    over (fun _ h => by cases h) (by kernel_rfl) (fun _ h => by cases h) resTexts_row_tie rfl ⟨rfl, rfl⟩ (by kernel_rfl) rfl
    (fun f fn hf hfn => by
      obtain rfl : f = 4 := Option.some.inj ((show Tryd.prog.funcNamed "reeve/reevelaw08.ResTexts" = some 4 by kernel_rfl).symm.trans hf) |>.symm
      obtain rfl : fn = Tryd.f4 := (Option.some.inj (Tryd.func4.symm.trans hfn)).symm
      exact ⟨by kernel_rfl, fun j t ht => by
        rw [Tryd.params4] at ht
        have hm : t ∈ [23, 9] := by simpa using Array.mem_of_getElem? ht
        have hall : ([23, 9].all fun u => !Tryd.prog.wantsStandIn u) = true := by kernel_rfl
        exact (show Tryd.prog.wantsStandIn t = false by simpa using List.all_eq_true.1 hall t hm)⟩)
    (by kernel_rfl)
end Go.Proofs.YtgiofaccigkfjaaDoor.resTexts
