/- What the document's own Release comes to. Conditions: none. -/
import Derived.Test.YtcoclpghimcnfaaLeaRen
namespace Go.Proofs.Ytcoclpghimcnfaa
open Go.ChangeShapes Go.WideShapes Go.ChangeAt Go.RowKit
set_option linter.unusedVariables false
set_option maxRecDepth 100000
set_option linter.unusedSimpArgs false
set_option maxHeartbeats 2000000

theorem SR.drop {wL w : World} {s a b c : Int} {rs : Array Value} (x y : Int) (h : SR wL (st4 s a b c) rs w) : SR wL (st4 s x b y) rs ((w.setCell ⟨wL.heap.size, 1, none⟩ (.int .i64 x)).setCell ⟨wL.heap.size, 3, none⟩ (.int .i64 y)) :=
  ⟨blk_set (blk_set h.box 1 _) 3 _, blk_far (p := ⟨wL.heap.size, 3, none⟩) _ (blk_far (p := ⟨wL.heap.size, 1, none⟩) _ h.res (by simp)) (by simp), h.bel.trans ((((Only.refl wL.heap.size w).setCell 1 (.int .i64 x)).setCell 3 (.int .i64 y)).below (Nat.le_refl _) h.bel.size)⟩
theorem rlrelease_any (s : Int) (l : Ls) (now who ep : Int) (w : World) :
    Calls Try.prog 15 #[stoV s l, .int .i64 now, .int .i64 who, .int .i64 ep] w fun e w' => e = .returned (.tuple #[stoV s (relL s l now who ep).1, .int .i64 (relL s l now who ep).2]) ∧ Below w.heap.size w w' := by
  have RN := Lib.hid fun w => rlrenew_any s l now who ep w
  unfold relL
  generalize hr : renL s l now who ep = r at *
  clear hr
  obtain ⟨⟨rh, re, ru⟩, rc⟩ := r
  obtain ⟨lh, le, lu⟩ := l
  unfold stoV at *
  have S0 := Lib.hid (sr_start w (st4 s lh le lu) (st4 0 0 0 0))
  by_cases hc : rc = 0
  · have d1 : (rc == 0) = true := by simpa using hc
    rw [if_pos hc]
    have hrc := Lib.hid hc
    clear hc
    go_enter Try.func15, Try.ntmps15
    go_wp2_with fail
    refine (RN.out _).mono ?_; rintro e w2 ⟨rfl, hb2⟩
    have S2 := Lib.hid (SR.below S0.out hb2)
    clear hb2 S0 RN
    have S3 := Lib.hid (SR.below S2.out ((Below.refl w2.heap.size w2).alloc (Nat.le_refl _) (.cells #[.int .i64 s, .int .i64 rh, .int .i64 re, .int .i64 ru] 31)))
    clear S2
    obtain ⟨y0, y1, y2, y3, yf⟩ := S3.out.cells
    obtain ⟨z0, z1, z2, z3, f0, f1, f2, f3⟩ := S3.out.zeros
    have yf1 := yf 1
    have yf3 := yf 3
    clear yf
    have ST := Lib.hid ((S3.out.drop (-1) 0).tell4 s (-1) le 0)
    clear S3
    go_wp2_with fail
    refine bodyPost_ret (results_ct (g := w.heap.size + 1) (x := .int .i64 rc) rfl ?_ ?_ ST.out.1 Try.underlying31 rfl (by kernel_rfl)) rfl ⟨?_, ST.out.2⟩
    all_goals first | rfl | rw [hrc.out]
  · have d1 : (rc == 0) = false := by simpa using hc
    rw [if_neg hc]
    clear hc
    go_enter Try.func15, Try.ntmps15
    go_wp2_with fail
    refine (RN.out _).mono ?_; rintro e w2 ⟨rfl, hb2⟩
    have S2 := Lib.hid (SR.below S0.out hb2)
    clear hb2 S0 RN
    have S3 := Lib.hid (SR.below S2.out ((Below.refl w2.heap.size w2).alloc (Nat.le_refl _) (.cells #[.int .i64 s, .int .i64 rh, .int .i64 re, .int .i64 ru] 31)))
    clear S2
    obtain ⟨y0, y1, y2, y3, yf⟩ := S3.out.cells
    obtain ⟨z0, z1, z2, z3, f0, f1, f2, f3⟩ := S3.out.zeros
    have yf1 := yf 1
    have yf3 := yf 3
    clear yf
    have ST := Lib.hid (S3.out.tell4 s lh le lu)
    clear S3
    go_wp2_with fail
    refine bodyPost_ret (results_ct (g := w.heap.size + 1) (x := .int .i64 rc) rfl ?_ ?_ ST.out.1 Try.underlying31 rfl (by kernel_rfl)) rfl ⟨?_, ST.out.2⟩
    all_goals rfl
end Go.Proofs.Ytcoclpghimcnfaa
