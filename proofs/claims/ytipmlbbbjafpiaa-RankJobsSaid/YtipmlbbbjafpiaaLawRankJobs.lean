/- The law RankJobs of the repository answers true for every input. No conditions. -/
import Derived.Test.YtipmlbbbjafpiaaRnkArgs
import Derived.Test.YtipmlbbbjafpiaaThgRef
import Derived.Test.YtipmlbbbjafpiaaRows
import Derived.WalkKit
import Derived.ProofKit
import Derived.OpenShut
import Derived.Below
import Derived.ShutString
import Derived.Carry
import Derived.Test.YtipmlbbbjafpiaaArgs
namespace Go.Proofs.Ytipmlbbbjafpiaa.rankJobs
open Go.ChangeShapes Go.WideShapes Go.ChangeAt Go.RowKit
open Go.ChangeMaps (open_string shut_string)
set_option linter.unusedVariables false
set_option linter.unusedSimpArgs false

theorem own : ownKnob Try.prog.godebug = none := by kernel_rfl
theorem laidOut : laidOutB Try.prog = true := by kernel_rfl
theorem op3 : Opens Try.prog 3 (.int .i64) := opens_int Try.underlying3
theorem op23 : Opens Try.prog 23 (Sh.rep (.int .i64) 3) := opens_array Try.underlying23 (by kernel_rfl) (by kernel_rfl) op3
theorem op25 : Opens Try.prog 25 (.pair (.int .i64) (.pair (.int .i64) (.pair (.int .i64) (.pair (.int .i64) (.pair (.int .i64) (.pair (Sh.rep (.int .i64) 3) .unit)))))) := opens_struct Try.underlying25 (by kernel_rfl) (fields_cons rfl (by kernel_rfl) op3 (fields_cons rfl (by kernel_rfl) op3 (fields_cons rfl (by kernel_rfl) op3 (fields_cons rfl (by kernel_rfl) op3 (fields_cons rfl (by kernel_rfl) op3 (fields_cons rfl (by kernel_rfl) op23 fields_nil))))))
theorem op26 : Opens Try.prog 26 (.slice (.pair (.int .i64) (.pair (.int .i64) (.pair (.int .i64) (.pair (.int .i64) (.pair (.int .i64) (.pair (Sh.rep (.int .i64) 3) .unit))))))) := opens_slice Try.underlying26 (by kernel_rfl) (by decide) op25

set_option maxRecDepth 100000 in
set_option maxHeartbeats 16000000 in
theorem walk (c0 : Array Value) (c1 : Array Value) (a2 : Option Addr) (len2 cap2 : Nat) (w : World) (w0 : Has w (.pair (.int .i64) (.pair (.int .i64) (.pair (.int .i64) (.pair (.int .i64) (.pair (.int .i64) (.pair (Sh.rep (.int .i64) 3) .unit)))))) c0.toList) (w1 : Has w (.pair (.int .i64) (.pair (.int .i64) (.pair (.int .i64) (.pair (.int .i64) (.pair (.int .i64) (.pair (Sh.rep (.int .i64) 3) .unit)))))) c1.toList) (w2 : Has w (.slice (.pair (.int .i64) (.pair (.int .i64) (.pair (.int .i64) (.pair (.int .i64) (.pair (.int .i64) (.pair (Sh.rep (.int .i64) 3) .unit))))))) [.slice a2 len2 cap2]) :
    Calls Try.prog 3 #[.agg c0, .agg c1, .slice a2 len2 cap2] w fun e w' => e = .returned (.bool true) ∧ Below w.heap.size w w' := by
  obtain ⟨x, hx, rfl⟩ := job_came w0
  obtain ⟨y, hy, rfl⟩ := job_came w1
  obtain ⟨l, hlen, hrd, _⟩ := jobs_came w2
  subst hlen
  clear w0 w1 w2
  have AW := Lib.hid fun w => rank_awake w
  by_cases hg : 40 < l.length
  · have d1 : decide (40 < l.length) = true := decide_eq_true hg
    have d2 : decide ((40 : Int) < (l.length : Int)) = true := decide_eq_true (by omega)
    have HB := Lib.hid (twoJ_grw w x y).below
    clear hx hy hrd
    unfold Jb.row
    go_enter Try.func3, Try.ntmps3
    go_wp2_with fail
    change Calls _ _ _ (twoJ w x y) _
    refine (AW.out _).mono ?_; rintro e w1 ⟨rfl, b1⟩
    have HF := Lib.hid (HB.out.trans (b1.mono HB.out.size))
    clear b1
    go_wp2_with fail
    go_ret
    exact ⟨rfl, HF.out⟩
  · have d1 : decide (40 < l.length) = false := decide_eq_false hg
    have d2 : decide ((40 : Int) < (l.length : Int)) = false := decide_eq_false (by omega)
    have J1 := fun w => grw_call (rjob_any x y w)
    have J2 := fun w => grw_call (kjob_any x y w)
    have K1 := fun w => grw_call (rjkey_any x w hx)
    have K2 := fun w => grw_call (kjkey_any x w hx)
    have EK := fun w => eqK_run w (keyJ x) (keyJ x)
    rw [show eq3 (keyJ x) (keyJ x) = true from (eq3_iff _ _).2 rfl] at EK
    generalize keyJ x = kx at *
    generalize jobB x y = b at *
    unfold V3.val at K1 K2
    unfold Jb.val at J1 J2 K1 K2
    replace J1 := Lib.hid J1
    replace J2 := Lib.hid J2
    replace K1 := Lib.hid K1
    replace K2 := Lib.hid K2
    unfold Jb.row
    obtain ⟨W, hW⟩ : ∃ W, W = twoJ w x y := ⟨_, rfl⟩
    have hbs : BJob w.heap.size x W ∧ BJob (w.heap.size + 1) y W ∧ Below w.heap.size w W := by
      rw [hW]; exact ⟨(twoJ_blk w x y).1, (twoJ_blk w x y).2, (twoJ_grw w x y).below⟩
    have HB := Lib.hid hbs
    have HL := Lib.hid (show ∀ w', Below W.heap.size W w' → (w'.cell? ⟨w.heap.size, 0, none⟩ = some (.int .i64 x.id) ∧ w'.cell? ⟨w.heap.size, 1, none⟩ = some (.int .i64 x.prio) ∧ w'.cell? ⟨w.heap.size, 2, none⟩ = some (.int .i64 x.seq) ∧ w'.cell? ⟨w.heap.size, 3, none⟩ = some (.int .i64 x.phase) ∧ w'.cell? ⟨w.heap.size, 4, none⟩ = some (.int .i64 x.node) ∧ w'.cell? ⟨w.heap.size, 5, none⟩ = some (.int .i64 x.need.a) ∧ w'.cell? ⟨w.heap.size, 6, none⟩ = some (.int .i64 x.need.b) ∧ w'.cell? ⟨w.heap.size, 7, none⟩ = some (.int .i64 x.need.c)) ∧ (w'.cell? ⟨w.heap.size + 1, 0, none⟩ = some (.int .i64 y.id) ∧ w'.cell? ⟨w.heap.size + 1, 1, none⟩ = some (.int .i64 y.prio) ∧ w'.cell? ⟨w.heap.size + 1, 2, none⟩ = some (.int .i64 y.seq) ∧ w'.cell? ⟨w.heap.size + 1, 3, none⟩ = some (.int .i64 y.phase) ∧ w'.cell? ⟨w.heap.size + 1, 4, none⟩ = some (.int .i64 y.node) ∧ w'.cell? ⟨w.heap.size + 1, 5, none⟩ = some (.int .i64 y.need.a) ∧ w'.cell? ⟨w.heap.size + 1, 6, none⟩ = some (.int .i64 y.need.b) ∧ w'.cell? ⟨w.heap.size + 1, 7, none⟩ = some (.int .i64 y.need.c)) from fun w' hb => ⟨(hbs.1.below hb hbs.1.lt).cells, (hbs.2.1.below hb hbs.2.1.lt).cells⟩)
    have S1 := Lib.hid (show ∀ w', Below W.heap.size W w' → Calls Try.prog 12 #[.slice a2 l.length cap2] w' fun e w2 => ∃ v, e = .returned v ∧ RdJ (stb jobB l) v w2 ∧ Below w'.heap.size w' w2 from fun w' hb => by
      have := jjobs_any _ l _ w' (by omega) (hrd.below (hbs.2.2.trans (hb.mono hbs.2.2.size)))
      exact this.mono fun e w2 ⟨v, he, hr, hb⟩ => ⟨v, he, hr.imp (fun _ _ _ => trivial), hb⟩)
    have S2 := Lib.hid (show ∀ w', Below W.heap.size W w' → Calls Try.prog 13 #[.slice a2 l.length cap2] w' fun e w2 => ∃ v, e = .returned v ∧ RdJ (stb jobB l) v w2 ∧ Below w'.heap.size w' w2 from fun w' hb => by
      have := kjobs_any _ l _ w' (by omega) (hrd.below (hbs.2.2.trans (hb.mono hbs.2.2.size)))
      exact this.mono fun e w2 ⟨v, he, hr, hb⟩ => ⟨v, he, hr.imp (fun _ _ _ => trivial), hb⟩)
    have S3 := Lib.hid (show ∀ v u (w' : World), RdJ (stb jobB l) v w' → RdJ (stb jobB l) u w' → Calls Try.prog 11 #[v, u] w' fun e w2 => e = .returned (.bool true) ∧ Below w'.heap.size w' w2 from fun v u w' h1 h2 => ksame_any v u (stb jobB l) _ _ w' (by rw [stb_len]; omega) h1 h2)
    have HWE := Lib.hid hW
    generalize stb jobB l = L at *
    clear hbs hW hrd hx hy
    go_enter Try.func3, Try.ntmps3
    go_wp2_with fail
    change Code.wp _ _ _ _ (twoJ w x y)
    rw [← HWE.out]
    refine wp_region_holdW (fun _ _ _ => True) (fun _ _ _ _ _ _ => trivial) (fun w' => Below W.heap.size W w') (by kernel_rfl) (by kernel_rfl) (kept_bel W) ⟨rfl, rfl, rfl, Nat.le_refl _, fun _ _ => rfl⟩ (fun hK => ?_)
    repeat
      first
      | (refine holdW_val (v := ?_) (by rfl) hK (by rfl) (by rfl) ?_ ?_
         rotate_left
         · (intro w' hS
            obtain ⟨⟨_, _, _, _, _, _, _, _⟩, _, _, _, _, _, _, _, _⟩ := HL.out w' hS
            go_simp
            try with_reducible rfl)
         simp only [Act.put, List.setIfInBounds_toArray, List.set_cons_zero, List.set_cons_succ])
      | (refine holdW_skip hK (by rfl) (by rfl) ?_
         simp only [Act.put, List.setIfInBounds_toArray, List.set_cons_zero, List.set_cons_succ])
      | (refine holdW_call (by rfl) hK (by rfl) (by rfl) ?_ (fun w' hS => J1.out w') ?_
         · (intro w' hS; go_simp; done)
         simp only [Act.put, List.setIfInBounds_toArray, List.set_cons_zero, List.set_cons_succ])
      | (refine holdW_call (by rfl) hK (by rfl) (by rfl) ?_ (fun w' hS => J2.out w') ?_
         · (intro w' hS; go_simp; done)
         simp only [Act.put, List.setIfInBounds_toArray, List.set_cons_zero, List.set_cons_succ])
      | (refine holdW_call (by rfl) hK (by rfl) (by rfl) ?_ (fun w' hS => K1.out w') ?_
         · (intro w' hS; go_simp; done)
         simp only [Act.put, List.setIfInBounds_toArray, List.set_cons_zero, List.set_cons_succ])
      | (refine holdW_call (by rfl) hK (by rfl) (by rfl) ?_ (fun w' hS => K2.out w') ?_
         · (intro w' hS; go_simp; done)
         simp only [Act.put, List.setIfInBounds_toArray, List.set_cons_zero, List.set_cons_succ])
      | (refine holdW_some (fun v w => RdJ L v w) (fun v => kept_rdj _ v) (by rfl) hK (by rfl) (by rfl) ?_ (fun w' hS => S1.out w' hS) ?_
         · (intro w' hS; go_simp; done)
         clear hK
         intro v1 hK
         simp only [Act.put, List.setIfInBounds_toArray, List.set_cons_zero, List.set_cons_succ])
      | (refine holdW_some (fun v w => RdJ L v w) (fun v => kept_rdj _ v) (by rfl) hK (by rfl) (by rfl) ?_ (fun w' hS => S2.out w' hS) ?_
         · (intro w' hS; go_simp; done)
         clear hK
         intro v2 hK
         simp only [Act.put, List.setIfInBounds_toArray, List.set_cons_zero, List.set_cons_succ])
      | (refine holdW_call2 16 18 _ _ rfl (List.mem_cons_of_mem _ (List.mem_cons_self ..)) (List.mem_cons_self ..) (by kernel_rfl) (by kernel_rfl) (by rfl) hK (by rfl) (by rfl) ?_ (fun w' hS h1 h2 => S3.out _ _ w' h1 h2) ?_
         · (intro w' hS; go_simp; done)
         simp only [Act.put, List.setIfInBounds_toArray, List.set_cons_zero, List.set_cons_succ])
      | (refine holdW_call (by rfl) hK (by rfl) (by rfl) ?_ (fun w' hS => AW.out w') ?_
         · (intro w' hS; go_simp; done)
         simp only [Act.put, List.setIfInBounds_toArray, List.set_cons_zero, List.set_cons_succ])
    refine holdW_nil ?_
    intro wz hS _
    have HF := Lib.hid (HB.out.2.2.trans (hS.mono HB.out.2.2.size))
    clear hS
    go_wp2_with fail
    go_ret
    exact ⟨rfl, HF.out⟩

set_option maxRecDepth 100000 in
theorem lifted (os : Os) (started : os.Started) (H : Type) (enc : TypeId × Value → H) :
    ReturnsInHanded {} Try.checked os 3 .any (Rows.rankJobsSpec.pre6 enc Try.prog Try.f3 Rows.rankJobsRow.domain false) (Rows.rankJobsSpec.post enc Try.prog Try.f3 false true false false) := by
  refine returnsInHanded_of_change (C := Try.checked) own started (by kernel_rfl) Try.func3
    (ChangeSpec.witness6 (enc := enc) (C := Try.checked) false ⟨#[], #[.agg #[.int .i64 0, .int .i64 0, .int .i64 0, .int .i64 0, .int .i64 0, .int .i64 0, .int .i64 0, .int .i64 0], .agg #[.int .i64 0, .int .i64 0, .int .i64 0, .int .i64 0, .int .i64 0, .int .i64 0, .int .i64 0, .int .i64 0], .slice none 0 0], []⟩ 8 (by kernel_rfl) (by kernel_rfl) (by kernel_rfl) (by kernel_rfl)) ?_
  intro W base args ds gs before hval0 hW hcnd _
  have hval : ∀ (j : Nat) t v, Try.f3.params[j]? = some t → args[j]? = some v → Value.okWide Try.prog W .any base t v := hval0
  have hW' := hW
  obtain ⟨p, q, hA0, hV, rfl, hfz, hnd⟩ := hW
  have hA : DataW.TrodAll enc Try.prog W 0 (fun _ => true) true Try.f3.params.toList args.toList ds p := hA0
  rw [Try.params3] at hA hval
  obtain ⟨v0, vs0, d0, ds0, p0, q0, hargs, rfl, rfl, h0, r0⟩ := trodAll_cons hA
  obtain ⟨v1, vs1, d1, ds1, p1, q1, rfl, rfl, rfl, h1, r1⟩ := trodAll_cons r0
  obtain ⟨v2, vs2, d2, ds2, p2, q2, rfl, rfl, rfl, h2, r2⟩ := trodAll_cons r1
  obtain ⟨rfl, rfl, rfl⟩ := trodAll_nil r2
  obtain rfl : args = #[v0, v1, v2] := by cases args; simp_all
  obtain ⟨rfl, rfl⟩ := trodVars_none hV
  obtain ⟨c0, rfl, _⟩ := okWide_struct Try.underlying25 (hval 0 25 v0 rfl rfl)
  have k0 := h0
  have lt0 : ∀ x ∈ p0, x.block < W.heap.size := by obtain ⟨m, hm⟩ := k0; exact DataW.trod_lt m _ _ _ hm
  have w0 : Has W (.pair (.int .i64) (.pair (.int .i64) (.pair (.int .i64) (.pair (.int .i64) (.pair (.int .i64) (.pair (Sh.rep (.int .i64) 3) .unit)))))) c0.toList := by obtain ⟨m, hm⟩ := h0; exact op25 _ _ _ _ _ _ _ _ _ hm
  obtain ⟨c1, rfl, _⟩ := okWide_struct Try.underlying25 (hval 1 25 v1 rfl rfl)
  have k1 := h1
  have lt1 : ∀ x ∈ p1, x.block < W.heap.size := by obtain ⟨m, hm⟩ := k1; exact DataW.trod_lt m _ _ _ hm
  have w1 : Has W (.pair (.int .i64) (.pair (.int .i64) (.pair (.int .i64) (.pair (.int .i64) (.pair (.int .i64) (.pair (Sh.rep (.int .i64) 3) .unit)))))) c1.toList := by obtain ⟨m, hm⟩ := h1; exact op25 _ _ _ _ _ _ _ _ _ hm
  obtain ⟨a2, len2, cap2, rfl⟩ := okWide_slice Try.underlying26 (hval 2 26 v2 rfl rfl)
  have k2 := h2
  have lt2 : ∀ x ∈ p2, x.block < W.heap.size := by obtain ⟨m, hm⟩ := k2; exact DataW.trod_lt m _ _ _ hm
  have w2 : Has W (.slice (.pair (.int .i64) (.pair (.int .i64) (.pair (.int .i64) (.pair (.int .i64) (.pair (.int .i64) (.pair (Sh.rep (.int .i64) 3) .unit))))))) [.slice a2 len2 cap2] := by obtain ⟨m, hm⟩ := h2; exact op26 _ _ _ _ _ _ _ _ _ hm
  clear hA0 hval0
  refine (walk c0 c1 a2 len2 cap2 W w0 w1 w2).mono fun e W' ⟨he, bel⟩ => ?_
  subst he
  exact ⟨_, rfl, _, _, _, [], _, [], hW', trodAll_mk1 (shut_bool Try.underlying4 _), (trodAll_cons_mk (Below.trod laidOut (by kernel_rfl) (of_decide_eq_true (by kernel_rfl)) k0 bel lt0) (trodAll_cons_mk (Below.trod laidOut (by kernel_rfl) (of_decide_eq_true (by kernel_rfl)) k1 bel lt1) (trodAll_cons_mk (Below.trod laidOut (by kernel_rfl) (of_decide_eq_true (by kernel_rfl)) k2 bel lt2) trodAll_mk0))), rfl, bel.frame _, fun h => by cases h⟩

theorem over : Rows.rankJobsRow.holds Try.pinned (OpenSpec.ofChange Rows.rankJobsSpec) :=
  OpenClaim.holds_of_wide 3 Try.f3 rfl rfl rfl rfl rfl rfl rfl ⟨rfl, rfl, rfl, rfl, rfl⟩ rfl rfl rfl rfl rfl (by kernel_rfl) Try.func3 (by kernel_rfl)
    (of_decide_eq_true (by kernel_rfl)) (by unfold Func.isWrapper; first | (rw [if_pos (by decide +kernel)]; kernel_rfl) | (rw [if_neg (by decide +kernel)]; exact ⟨rfl, rfl⟩))
    (fun os started H enc _ => lifted os started H enc)

/-- ████ THE STATEMENT ████ -/
theorem proved : Rows.RankJobsSaid := over
end Go.Proofs.Ytipmlbbbjafpiaa.rankJobs
