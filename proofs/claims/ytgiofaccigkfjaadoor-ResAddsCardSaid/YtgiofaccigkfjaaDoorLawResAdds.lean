/- The law ResAdds of the repository answers true for every input. No conditions. -/
import Derived.Test.YtgiofaccigkfjaaDoorResAwake
import Derived.Test.YtgiofaccigkfjaaDoorRows
import Derived.Test.YtgiofaccigkfjaaDoorCards
import Derived.Test.YtgiofaccigkfjaaDoorTie
import Derived.SevenTiedAt
import Derived.LaidMore
import Derived.Stop.LaidErr
import Derived.Stop.Joined
import Derived.MakeChecks
import Derived.Lib.LaidTab
import Derived.WalkKit
import Derived.ProofKit
import Derived.OpenShut
import Derived.Below
import Derived.ShutString
import Derived.Carry
import Derived.Test.YtgiofaccigkfjaaDoorArgs
namespace Go.Proofs.YtgiofaccigkfjaaDoor.resAdds
open Go.ChangeShapes Go.WideShapes Go.ChangeAt Go.RowKit
open Go.ChangeMaps (open_string shut_string)
set_option linter.unusedVariables false
set_option linter.unusedSimpArgs false

theorem own : ownKnob Tryd.prog.godebug = none := by kernel_rfl
theorem laidOut : laidOutB Tryd.prog = true := by kernel_rfl
theorem op3 : Opens Tryd.prog 3 (.int .i64) := opens_int Tryd.underlying3
theorem op23 : Opens Tryd.prog 23 (Sh.rep (.int .i64) 3) := opens_array Tryd.underlying23 (by kernel_rfl) (by kernel_rfl) op3

theorem door_met (os : Os) (args : Array Value) : laidMetH Tryd.prog Rows.resAddsRow.laid ((World.doorLaid Tryd.prog 24 os).forCall (fun _ _ => 0) ⟨#[], args, []⟩).memory :=
  laidMetH_of_parts3 (fuel := 8) (laidMet_of_run' 8 (by kernel_rfl) (by kernel_rfl)) (by kernel_rfl) (by kernel_rfl)
theorem tb_of_laid {W : World} (h0 : laidMetH Tryd.prog Rows.resAddsRow.laid W) : Tb W := by
  rw [MakeChecks.laidMetH_plain _ _ _ (by kernel_rfl)] at h0
  have h : laidMet Tryd.prog [("math/bits.deBruijn32tab", Rows.laid_math_bits_deBruijn32tab), ("math/bits.deBruijn64tab", Rows.laid_math_bits_deBruijn64tab), ("internal/strconv.uint64pow10", Rows.laid_internal_strconv_uint64pow10)] W := h0
  have e : (Rows.laid_internal_strconv_uint64pow10 : DataW Unit) = Lib.tabData .u64 Lib.pow10Tab := by kernel_rfl
  have h2 := h.tail.tail
  rw [e] at h2
  exact Lib.tabIs_of_head (g := 1) (t := 86) (e := 80) (n := 20) (by kernel_rfl) (by kernel_rfl) (by kernel_rfl) (by kernel_rfl) (by kernel_rfl) (by kernel_rfl) h2

set_option maxRecDepth 100000 in
set_option maxHeartbeats 4000000 in
theorem walk (c0 : Array Value) (c1 : Array Value) (w : World) (w0 : Has w (Sh.rep (.int .i64) 3) c0.toList) (w1 : Has w (Sh.rep (.int .i64) 3) c1.toList) (ht : Tb w) :
    Calls Tryd.prog 3 #[.agg c0, .agg c1] w fun e w' => e = .returned (.bool true) ∧ Below w.heap.size w w' := by
  have HT := Lib.hid ht
  clear ht
  obtain ⟨v, hv, rfl⟩ := res_came w0
  obtain ⟨u, hu, rfl⟩ := res_came w1
  clear w0 w1
  have A1 := Lib.hid fun w => qadd_any v u w hv hu
  have A2 := Lib.hid fun w => r8add_any v u w hv hu
  have A3 := Lib.hid fun w => qsub_any v u w hv hu
  have A4 := Lib.hid fun w => r8sub_any v u w hv hu
  have R1 := Lib.hid fun w => qright_any v w hv
  have R2 := Lib.hid fun w => r8right_any v w
  have F1 := Lib.hid fun w => qfits_any v u w hv hu
  have F2 := Lib.hid fun w => r8fits_any v u w
  have L1 := Lib.hid fun w => qless_any v u w hv hu
  have L2 := Lib.hid fun w => r8less_any v u w
  have M1 := Lib.hid fun w => qmost_any v u w hv hu
  have M2 := Lib.hid fun w => r8most_any v u w
  unfold pairV at A1 A2 A3 A4
  unfold V3.val at A1 A2 A3 A4 R1 R2 F1 F2 L1 L2 M1 M2
  obtain ⟨hx1, hx2⟩ := blk_two w (.cells #[.int .i64 v.a, .int .i64 v.b, .int .i64 v.c] 23) (.cells #[.int .i64 u.a, .int .i64 u.b, .int .i64 u.c] 23)
  have HX1 := Lib.hid (show BX w.heap.size v _ from hx1)
  have HX2 := Lib.hid (show BX (w.heap.size + 1) u _ from hx2)
  have HB := Lib.hid (((Below.refl w.heap.size w).alloc (Nat.le_refl _) (.cells #[.int .i64 v.a, .int .i64 v.b, .int .i64 v.c] 23)).alloc (by simp) (.cells #[.int .i64 u.a, .int .i64 u.b, .int .i64 u.c] 23))
  clear hx1 hx2
  generalize addV v u = c at *
  generalize addB v u = p at *
  generalize takeV v u = x at *
  generalize takeB v u = q at *
  generalize mostV v u = m at *
  generalize rightB v = g1 at *
  generalize fitsB v u = g2 at *
  generalize lessB v u = g3 at *
  go_enter Tryd.func3, Tryd.ntmps3
  go_wp2_with fail
  refine (A1.out _).mono ?_; rintro e w1 ⟨rfl, b1⟩
  replace HB := Lib.hid ((HB.out.trans (b1.mono HB.out.size)).alloc (Nat.le_trans HB.out.size b1.size) (.cells #[.int .i64 c.a, .int .i64 c.b, .int .i64 c.c] 23))
  replace HX1 := Lib.hid (bx_more (bx_below HX1.out b1) (.cells #[.int .i64 c.a, .int .i64 c.b, .int .i64 c.c] 23))
  replace HX2 := Lib.hid (bx_more (bx_below HX2.out b1) (.cells #[.int .i64 c.a, .int .i64 c.b, .int .i64 c.c] 23))
  have HX3 := Lib.hid (bx_fresh w1 c)
  clear b1
  obtain ⟨c00, c01, c02⟩ := bx_cells HX1.out
  obtain ⟨c10, c11, c12⟩ := bx_cells HX2.out
  go_wp2_with fail
  clear c00 c01 c02 c10 c11 c12
  refine (A2.out _).mono ?_; rintro e w2 ⟨rfl, b1⟩
  replace HB := Lib.hid ((HB.out.trans (b1.mono HB.out.size)).alloc (Nat.le_trans HB.out.size b1.size) (.cells #[.int .i64 c.a, .int .i64 c.b, .int .i64 c.c] 23))
  replace HX1 := Lib.hid (bx_more (bx_below HX1.out b1) (.cells #[.int .i64 c.a, .int .i64 c.b, .int .i64 c.c] 23))
  replace HX2 := Lib.hid (bx_more (bx_below HX2.out b1) (.cells #[.int .i64 c.a, .int .i64 c.b, .int .i64 c.c] 23))
  replace HX3 := Lib.hid (bx_more (bx_below HX3.out b1) (.cells #[.int .i64 c.a, .int .i64 c.b, .int .i64 c.c] 23))
  have HX4 := Lib.hid (bx_fresh w2 c)
  clear b1
  obtain ⟨c00, c01, c02⟩ := bx_cells HX1.out
  obtain ⟨c10, c11, c12⟩ := bx_cells HX2.out
  go_wp2_with fail
  clear c00 c01 c02 c10 c11 c12
  refine (A3.out _).mono ?_; rintro e w3 ⟨rfl, b1⟩
  replace HB := Lib.hid ((HB.out.trans (b1.mono HB.out.size)).alloc (Nat.le_trans HB.out.size b1.size) (.cells #[.int .i64 x.a, .int .i64 x.b, .int .i64 x.c] 23))
  replace HX1 := Lib.hid (bx_more (bx_below HX1.out b1) (.cells #[.int .i64 x.a, .int .i64 x.b, .int .i64 x.c] 23))
  replace HX2 := Lib.hid (bx_more (bx_below HX2.out b1) (.cells #[.int .i64 x.a, .int .i64 x.b, .int .i64 x.c] 23))
  replace HX3 := Lib.hid (bx_more (bx_below HX3.out b1) (.cells #[.int .i64 x.a, .int .i64 x.b, .int .i64 x.c] 23))
  replace HX4 := Lib.hid (bx_more (bx_below HX4.out b1) (.cells #[.int .i64 x.a, .int .i64 x.b, .int .i64 x.c] 23))
  have HX5 := Lib.hid (bx_fresh w3 x)
  clear b1
  obtain ⟨c00, c01, c02⟩ := bx_cells HX1.out
  obtain ⟨c10, c11, c12⟩ := bx_cells HX2.out
  go_wp2_with fail
  clear c00 c01 c02 c10 c11 c12
  refine (A4.out _).mono ?_; rintro e w4 ⟨rfl, b1⟩
  replace HB := Lib.hid ((HB.out.trans (b1.mono HB.out.size)).alloc (Nat.le_trans HB.out.size b1.size) (.cells #[.int .i64 x.a, .int .i64 x.b, .int .i64 x.c] 23))
  replace HX1 := Lib.hid (bx_more (bx_below HX1.out b1) (.cells #[.int .i64 x.a, .int .i64 x.b, .int .i64 x.c] 23))
  replace HX2 := Lib.hid (bx_more (bx_below HX2.out b1) (.cells #[.int .i64 x.a, .int .i64 x.b, .int .i64 x.c] 23))
  replace HX3 := Lib.hid (bx_more (bx_below HX3.out b1) (.cells #[.int .i64 x.a, .int .i64 x.b, .int .i64 x.c] 23))
  replace HX4 := Lib.hid (bx_more (bx_below HX4.out b1) (.cells #[.int .i64 x.a, .int .i64 x.b, .int .i64 x.c] 23))
  replace HX5 := Lib.hid (bx_more (bx_below HX5.out b1) (.cells #[.int .i64 x.a, .int .i64 x.b, .int .i64 x.c] 23))
  have HX6 := Lib.hid (bx_fresh w4 x)
  clear b1
  obtain ⟨c00, c01, c02⟩ := bx_cells HX1.out
  obtain ⟨c10, c11, c12⟩ := bx_cells HX2.out
  go_wp2_with fail
  clear c00 c01 c02 c10 c11 c12
  generalize w4.alloc (.cells #[.int .i64 x.a, .int .i64 x.b, .int .i64 x.c] 23) = w5 at *
  have AW := Lib.hid fun w' (h : Below w5.heap.size w5 w') => res_awake w' (tb_below HT.out (HB.out.trans (h.mono HB.out.size)))
  have Ec := fun w => eq3_same c w
  have Ex := fun w => eq3_same x w
  have Em := fun w => eq3_same m w
  refine wp_region_hold (fun w' => Below w5.heap.size w5 w') (by kernel_rfl) (by kernel_rfl) ⟨rfl, rfl, rfl, Nat.le_refl _, fun _ _ => rfl⟩ ?_
  have HL := Lib.hid (show ∀ w', Below w5.heap.size w5 w' → ((w'.cell? ⟨w.heap.size, 0, none⟩ = some (.int .i64 v.a) ∧ w'.cell? ⟨w.heap.size, 1, none⟩ = some (.int .i64 v.b) ∧ w'.cell? ⟨w.heap.size, 2, none⟩ = some (.int .i64 v.c)) ∧
      (w'.cell? ⟨w.heap.size + 1, 0, none⟩ = some (.int .i64 u.a) ∧ w'.cell? ⟨w.heap.size + 1, 1, none⟩ = some (.int .i64 u.b) ∧ w'.cell? ⟨w.heap.size + 1, 2, none⟩ = some (.int .i64 u.c)) ∧
      (w'.cell? ⟨w1.heap.size, 0, none⟩ = some (.int .i64 c.a) ∧ w'.cell? ⟨w1.heap.size, 1, none⟩ = some (.int .i64 c.b) ∧ w'.cell? ⟨w1.heap.size, 2, none⟩ = some (.int .i64 c.c)) ∧
      (w'.cell? ⟨w2.heap.size, 0, none⟩ = some (.int .i64 c.a) ∧ w'.cell? ⟨w2.heap.size, 1, none⟩ = some (.int .i64 c.b) ∧ w'.cell? ⟨w2.heap.size, 2, none⟩ = some (.int .i64 c.c)) ∧
      (w'.cell? ⟨w3.heap.size, 0, none⟩ = some (.int .i64 x.a) ∧ w'.cell? ⟨w3.heap.size, 1, none⟩ = some (.int .i64 x.b) ∧ w'.cell? ⟨w3.heap.size, 2, none⟩ = some (.int .i64 x.c)) ∧
      (w'.cell? ⟨w4.heap.size, 0, none⟩ = some (.int .i64 x.a) ∧ w'.cell? ⟨w4.heap.size, 1, none⟩ = some (.int .i64 x.b) ∧ w'.cell? ⟨w4.heap.size, 2, none⟩ = some (.int .i64 x.c))) from
    fun w' hb => ⟨bx_cells (bx_below HX1.out hb), bx_cells (bx_below HX2.out hb), bx_cells (bx_below HX3.out hb), bx_cells (bx_below HX4.out hb), bx_cells (bx_below HX5.out hb), bx_cells (bx_below HX6.out hb)⟩)
  repeat
    first
    | (refine hold_val (v := ?_) (by rfl) ?_ ?_
       rotate_left
       · (intro w' hS
          obtain ⟨⟨_, _, _⟩, ⟨_, _, _⟩, ⟨_, _, _⟩, ⟨_, _, _⟩, ⟨_, _, _⟩, ⟨_, _, _⟩⟩ := HL.out w' hS
          go_simp
          try with_reducible rfl)
       simp only [Act.put, List.setIfInBounds_toArray, List.set_cons_zero, List.set_cons_succ])
    | (refine hold_skip (by rfl) ?_
       simp only [Act.put, List.setIfInBounds_toArray, List.set_cons_zero, List.set_cons_succ])
    | ((first
        | (refine hold_call (by rfl) ?_ (fun w' hS => made_call hS (Nat.le_refl _) (R1.out w')) ?_; focus (intro w' hS; go_simp; done))
        | (refine hold_call (by rfl) ?_ (fun w' hS => made_call hS (Nat.le_refl _) (R2.out w')) ?_; focus (intro w' hS; go_simp; done))
        | (refine hold_call (by rfl) ?_ (fun w' hS => made_call hS (Nat.le_refl _) (F1.out w')) ?_; focus (intro w' hS; go_simp; done))
        | (refine hold_call (by rfl) ?_ (fun w' hS => made_call hS (Nat.le_refl _) (F2.out w')) ?_; focus (intro w' hS; go_simp; done))
        | (refine hold_call (by rfl) ?_ (fun w' hS => made_call hS (Nat.le_refl _) (L1.out w')) ?_; focus (intro w' hS; go_simp; done))
        | (refine hold_call (by rfl) ?_ (fun w' hS => made_call hS (Nat.le_refl _) (L2.out w')) ?_; focus (intro w' hS; go_simp; done))
        | (refine hold_call (by rfl) ?_ (fun w' hS => made_call hS (Nat.le_refl _) (M1.out w')) ?_; focus (intro w' hS; go_simp; done))
        | (refine hold_call (by rfl) ?_ (fun w' hS => made_call hS (Nat.le_refl _) (M2.out w')) ?_; focus (intro w' hS; go_simp; done))
        | (refine hold_call (by rfl) ?_ (fun w' hS => made_call hS (Nat.le_refl _) (AW.out w' hS)) ?_; focus (intro w' hS; go_simp; done)))
       simp only [Act.put, List.setIfInBounds_toArray, List.set_cons_zero, List.set_cons_succ])
  refine hold_nil (fun w' hS => ?_)
  have HF := Lib.hid (HB.out.trans (hS.mono HB.out.size))
  clear hS
  go_wp2_with fail
  go_ret
  exact ⟨rfl, HF.out⟩

set_option maxRecDepth 100000 in
theorem lifted (os : Os) (started : os.Started) (H : Type) (enc : TypeId × Value → H) :
    ReturnsInHanded {} Tryd.checked os 3 .any (fun w args => (Rows.resAddsSpec.pre enc Tryd.prog Tryd.f3 [] false w args ∧ laidMetH Tryd.prog Rows.resAddsRow.laid w) ∧ sizedMet enc Tryd.prog Tryd.f3 (OpenSpec.ofChange Rows.resAddsSpec) false w args)
      (Rows.resAddsSpec.post enc Tryd.prog Tryd.f3 false true false false) := by
  refine returnsInHanded_of_change_and (C := Tryd.checked) (X := fun w _ => laidMetH Tryd.prog Rows.resAddsRow.laid w) (fun _ _ _ hh h => h.of_heap hh) own started (by kernel_rfl) Tryd.func3
    (ChangeSpec.witness_shaped (enc := enc) (C := Tryd.checked) (os := os) (X := fun w _ => laidMetH Tryd.prog Rows.resAddsRow.laid w) false (World.doorLaid Tryd.prog 24 os) #[.agg #[.int .i64 0, .int .i64 0, .int .i64 0], .agg #[.int .i64 0, .int .i64 0, .int .i64 0]] 8 rfl (World.shaped_of_RefB (by kernel_rfl) (by kernel_rfl)) (by kernel_rfl) (by kernel_rfl) (by kernel_rfl) (door_met os _)) ?_
  intro W base args ds gs before hval0 hW hcnd _ hL _
  have hval : ∀ (j : Nat) t v, Tryd.f3.params[j]? = some t → args[j]? = some v → Value.okWide Tryd.prog W .any base t v := hval0
  have hW' := hW
  obtain ⟨p, q, hA0, hV, rfl, hfz, hnd⟩ := hW
  have hA : DataW.TrodAll enc Tryd.prog W 0 (fun _ => true) true Tryd.f3.params.toList args.toList ds p := hA0
  rw [Tryd.params3] at hA hval
  obtain ⟨v0, vs0, d0, ds0, p0, q0, hargs, rfl, rfl, h0, r0⟩ := trodAll_cons hA
  obtain ⟨v1, vs1, d1, ds1, p1, q1, rfl, rfl, rfl, h1, r1⟩ := trodAll_cons r0
  obtain ⟨rfl, rfl, rfl⟩ := trodAll_nil r1
  obtain rfl : args = #[v0, v1] := by cases args; simp_all
  obtain ⟨rfl, rfl⟩ := trodVars_none hV
  obtain ⟨c0, rfl, _⟩ := okWide_array Tryd.underlying23 (hval 0 23 v0 rfl rfl)
  have k0 := h0
  have lt0 : ∀ x ∈ p0, x.block < W.heap.size := by obtain ⟨m, hm⟩ := k0; exact DataW.trod_lt m _ _ _ hm
  have w0 : Has W (Sh.rep (.int .i64) 3) c0.toList := by obtain ⟨m, hm⟩ := h0; exact op23 _ _ _ _ _ _ _ _ _ hm
  obtain ⟨c1, rfl, _⟩ := okWide_array Tryd.underlying23 (hval 1 23 v1 rfl rfl)
  have k1 := h1
  have lt1 : ∀ x ∈ p1, x.block < W.heap.size := by obtain ⟨m, hm⟩ := k1; exact DataW.trod_lt m _ _ _ hm
  have w1 : Has W (Sh.rep (.int .i64) 3) c1.toList := by obtain ⟨m, hm⟩ := h1; exact op23 _ _ _ _ _ _ _ _ _ hm
  clear hA0 hval0
  refine (walk c0 c1 W w0 w1 (tb_of_laid hL)).mono fun e W' ⟨he, bel⟩ => ?_
  subst he
  exact ⟨_, rfl, _, _, _, [], _, [], hW', trodAll_mk1 (shut_bool Tryd.underlying4 _), (trodAll_cons_mk (Below.trod laidOut (by kernel_rfl) (of_decide_eq_true (by kernel_rfl)) k0 bel lt0) (trodAll_cons_mk (Below.trod laidOut (by kernel_rfl) (of_decide_eq_true (by kernel_rfl)) k1 bel lt1) trodAll_mk0)), rfl, bel.frame _, fun h => by cases h⟩

theorem over : Rows.resAddsRow.holds Tryd.pinned (OpenSpec.ofChange Rows.resAddsSpec) :=
  OpenClaim.holds_of_wide 3 Tryd.f3 rfl rfl rfl rfl rfl rfl rfl ⟨rfl, rfl, rfl, rfl, rfl⟩ rfl rfl rfl rfl rfl (by kernel_rfl) Tryd.func3 (by kernel_rfl)
    (of_decide_eq_true (by kernel_rfl)) (by unfold Func.isWrapper; first | (rw [if_pos (by decide +kernel)]; kernel_rfl) | (rw [if_neg (by decide +kernel)]; exact ⟨rfl, rfl⟩))
    (fun os started H enc _ => lifted os started H enc)

/-- ████ THE STATEMENT ████ -/
theorem proved : Rows.ResAddsCardSaid :=
  Claim7.holds_tied_plain_at .later [] [.data, .data, .data] true (true, "82ff6db06fee50aa0c3dbfe868e7dce65c9f4de1dba2520d171193fce050021c") false
    over (fun _ h => by cases h) (by kernel_rfl) (fun _ h => by cases h) resAdds_row_tie rfl ⟨rfl, rfl⟩ (by kernel_rfl) rfl
    (fun f fn hf hfn => by
      obtain rfl : f = 3 := Option.some.inj ((show Tryd.prog.funcNamed "reeve/reevelaw08.ResAdds" = some 3 by kernel_rfl).symm.trans hf) |>.symm
      obtain rfl : fn = Tryd.f3 := (Option.some.inj (Tryd.func3.symm.trans hfn)).symm
      exact ⟨by kernel_rfl, fun j t ht => by
        rw [Tryd.params3] at ht
        have hm : t ∈ [23, 23] := by simpa using Array.mem_of_getElem? ht
        have hall : ([23, 23].all fun u => !Tryd.prog.wantsStandIn u) = true := by kernel_rfl
        exact (show Tryd.prog.wantsStandIn t = false by simpa using List.all_eq_true.1 hall t hm)⟩)
    (by kernel_rfl)
end Go.Proofs.YtgiofaccigkfjaaDoor.resAdds
