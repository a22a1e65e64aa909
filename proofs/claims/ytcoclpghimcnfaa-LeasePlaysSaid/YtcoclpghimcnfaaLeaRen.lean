/- What the document's own Renew and Release come to. Conditions: none. -/
import Derived.Test.YtcoclpghimcnfaaLeaReg
namespace Go.Proofs.Ytcoclpghimcnfaa
open Go.ChangeShapes Go.WideShapes Go.ChangeAt Go.RowKit
set_option linter.unusedVariables false
set_option maxRecDepth 100000
set_option linter.unusedSimpArgs false
set_option maxHeartbeats 2000000

/-- The two blocks of Renew: the store, what it tells. -/
structure SR (wL : World) (bx rs : Array Value) (w : World) : Prop where
  box : w.heap[wL.heap.size]? = some (.cells bx 31 (0, 0))
  res : w.heap[wL.heap.size + 1]? = some (.cells rs 31 (0, 0))
  bel : Below wL.heap.size wL w
theorem sr_start (wL : World) (bx rs : Array Value) : SR wL bx rs ((wL.alloc (.cells bx 31)).alloc (.cells rs 31)) := by
  have e1 : (wL.alloc (.cells bx 31)).heap.size = wL.heap.size + 1 := by simp
  refine ⟨blk_old _ (blk_new _ _), ?_, ((Below.refl _ wL).alloc (Nat.le_refl _) _).alloc (by simp) _⟩
  have := blk_new (wL.alloc (.cells bx 31)) (.cells rs 31)
  rwa [e1] at this
theorem SR.below {wL w w' : World} {bx rs : Array Value} (h : SR wL bx rs w) (hb : Below w.heap.size w w') : SR wL bx rs w' :=
  ⟨blk_below hb h.box (lt_of_block h.box), blk_below hb h.res (lt_of_block h.res), h.bel.trans (hb.mono h.bel.size)⟩
theorem SR.draws {wL w : World} {bx rs : Array Value} (h : SR wL bx rs w) : SR wL bx rs w.drew := h.below ⟨rfl, rfl, rfl, Nat.le_refl _, fun _ _ => rfl⟩
theorem SR.cells {wL w : World} {s a b c : Int} {rs : Array Value} (h : SR wL (st4 s a b c) rs w) : w.cell? ⟨wL.heap.size, 0, none⟩ = some (.int .i64 s) ∧ w.cell? ⟨wL.heap.size, 1, none⟩ = some (.int .i64 a) ∧ w.cell? ⟨wL.heap.size, 2, none⟩ = some (.int .i64 b) ∧ w.cell? ⟨wL.heap.size, 3, none⟩ = some (.int .i64 c) ∧ (∀ i, w.frozen? ⟨wL.heap.size, i, none⟩ = false) :=
  ⟨by rw [blk_cell h.box]; rfl, by rw [blk_cell h.box]; rfl, by rw [blk_cell h.box]; rfl, by rw [blk_cell h.box]; rfl, fun i => blk_free h.box i⟩
theorem SR.until {wL w : World} {s a b c : Int} {rs : Array Value} (x : Int) (h : SR wL (st4 s a b c) rs w) : SR wL (st4 s a b x) rs (w.setCell ⟨wL.heap.size, 3, none⟩ (.int .i64 x)) :=
  ⟨blk_set h.box 3 _, blk_far (p := ⟨wL.heap.size, 3, none⟩) _ h.res (by simp), h.bel.trans (((Only.refl wL.heap.size w).setCell 3 (.int .i64 x)).below (Nat.le_refl _) h.bel.size)⟩
def R7 (wL : World) (s a b c x : Int) (rs : Array Value) : Nat → World → Prop
  | 0, w => SR wL (st4 s a b c) rs w
  | 1, w => SR wL (st4 s a b c) rs w
  | _, w => SR wL (st4 s a b x) rs w
theorem r7_span {wL : World} {s a b c x : Int} {rs : Array Value} {w : World} : ∀ {n : Nat}, R7 wL s a b c x rs n w → w.cell? ⟨wL.heap.size, 0, none⟩ = some (.int .i64 s)
  | 0, h => (SR.cells h).1
  | 1, h => (SR.cells h).1
  | _ + 2, h => (SR.cells h).1
theorem r7_until {wL : World} {s a b c x : Int} {rs : Array Value} {w : World} : ∀ {n : Nat}, n ≤ 1 → R7 wL s a b c x rs n w → w.cell? ⟨wL.heap.size, 3, none⟩ = some (.int .i64 c)
  | 0, _, h => (SR.cells h).2.2.2.1
  | 1, _, h => (SR.cells h).2.2.2.1
  | n + 2, hn, _ => by omega
theorem SR.tell4 {wL w : World} {bx : Array Value} {p q r t : Int} (a b c d : Int) (h : SR wL bx (st4 p q r t) w) :
    ((((w.setCell ⟨wL.heap.size + 1, 0, none⟩ (.int .i64 a)).setCell ⟨wL.heap.size + 1, 1, none⟩ (.int .i64 b)).setCell ⟨wL.heap.size + 1, 2, none⟩ (.int .i64 c)).setCell ⟨wL.heap.size + 1, 3, none⟩ (.int .i64 d)).heap[wL.heap.size + 1]? = some (.cells #[.int .i64 a, .int .i64 b, .int .i64 c, .int .i64 d] 31 (0, 0)) ∧
    Below wL.heap.size wL ((((w.setCell ⟨wL.heap.size + 1, 0, none⟩ (.int .i64 a)).setCell ⟨wL.heap.size + 1, 1, none⟩ (.int .i64 b)).setCell ⟨wL.heap.size + 1, 2, none⟩ (.int .i64 c)).setCell ⟨wL.heap.size + 1, 3, none⟩ (.int .i64 d)) :=
  ⟨blk_set (blk_set (blk_set (blk_set h.res 0 _) 1 _) 2 _) 3 _, h.bel.trans ((((((Only.refl (wL.heap.size + 1) w).setCell 0 _).setCell 1 _).setCell 2 _).setCell 3 _).below (Nat.le_succ _) h.bel.size)⟩
theorem SR.zeros {wL w : World} {bx : Array Value} {p q r t : Int} (h : SR wL bx (st4 p q r t) w) : w.cell? ⟨wL.heap.size + 1, 0, none⟩ = some (.int .i64 p) ∧ w.cell? ⟨wL.heap.size + 1, 1, none⟩ = some (.int .i64 q) ∧ w.cell? ⟨wL.heap.size + 1, 2, none⟩ = some (.int .i64 r) ∧ w.cell? ⟨wL.heap.size + 1, 3, none⟩ = some (.int .i64 t) ∧
    w.frozen? ⟨wL.heap.size + 1, 0, none⟩ = false ∧ w.frozen? ⟨wL.heap.size + 1, 1, none⟩ = false ∧ w.frozen? ⟨wL.heap.size + 1, 2, none⟩ = false ∧ w.frozen? ⟨wL.heap.size + 1, 3, none⟩ = false :=
  ⟨by rw [blk_cell h.res]; rfl, by rw [blk_cell h.res]; rfl, by rw [blk_cell h.res]; rfl, by rw [blk_cell h.res]; rfl, blk_free h.res 0, blk_free h.res 1, blk_free h.res 2, blk_free h.res 3⟩
theorem rlrenew_any (s : Int) (l : Ls) (now who ep : Int) (w : World) :
    Calls Try.prog 13 #[stoV s l, .int .i64 now, .int .i64 who, .int .i64 ep] w fun e w' => e = .returned (.tuple #[stoV s (renL s l now who ep).1, .int .i64 (renL s l now who ep).2]) ∧ Below w.heap.size w w' := by
  have RT := Lib.hid fun w => rlright_any now who w
  have LT := Lib.hid fun w => rlater_any now s w
  have HO := Lib.hid fun w => rlholds_any s l now who ep w
  unfold renL
  generalize hho : holdsL s l now who ep = ho at *
  clear hho
  obtain ⟨lh, le, lu⟩ := l
  unfold stoV at *
  have SX := Lib.hid (sr_start w (st4 s lh le lu) (st4 s lh le lu))
  have S0 := Lib.hid (sr_start w (st4 s lh le lu) (st4 0 0 0 0))
  by_cases hs : s = 0
  · rw [if_pos hs]
    have d1 : (s == 0) = true := by simpa using hs
    clear hs
    go_enter Try.func13, Try.ntmps13
    go_wp2_with fail
    exact bodyPost_ret (results_ct rfl rfl rfl SX.out.res Try.underlying31 rfl (by kernel_rfl)) rfl ⟨rfl, SX.out.bel⟩
  · rw [if_neg hs]
    have d1 : (s == 0) = false := by simpa using hs
    clear hs
    cases hr : rightL now who with
    | false =>
      rw [hr] at RT
      simp only [if_true]
      go_enter Try.func13, Try.ntmps13
      go_wp2_with fail
      refine (RT.out _).mono ?_; rintro e w1 ⟨rfl, rfl⟩
      go_wp2_with fail
      exact bodyPost_ret (results_ct rfl rfl rfl SX.out.res Try.underlying31 rfl (by kernel_rfl)) rfl ⟨rfl, SX.out.bel⟩
    | true =>
      rw [hr] at RT
      simp only [Bool.true_eq_false, if_false]
      cases ho with
      | false =>
        simp only [if_true]
        go_enter Try.func13, Try.ntmps13
        go_wp2_with fail
        refine (RT.out _).mono ?_; rintro e w1 ⟨rfl, rfl⟩
        go_wp2_with fail
        refine (HO.out _).mono ?_; rintro e w2 ⟨rfl, hb2⟩
        have S2 := Lib.hid (SR.below S0.out hb2)
        obtain ⟨y0, y1, y2, y3, _⟩ := S2.out.cells
        obtain ⟨z0, z1, z2, z3, f0, f1, f2, f3⟩ := S2.out.zeros
        have ST := Lib.hid (S2.out.tell4 s lh le lu)
        clear hb2 S0 SX
        go_wp2_with fail
        refine bodyPost_ret (results_ct (g := w.heap.size + 1) (x := .int .i64 11) rfl ?_ ?_ ST.out.1 Try.underlying31 rfl (by kernel_rfl)) rfl ⟨rfl, ST.out.2⟩
        all_goals rfl
      | true =>
        simp only [Bool.true_eq_false, if_false]
        go_enter Try.func13, Try.ntmps13
        go_wp2_with fail
        refine (RT.out _).mono ?_; rintro e w1 ⟨rfl, rfl⟩
        go_wp2_with fail
        refine (HO.out _).mono ?_; rintro e w2 ⟨rfl, hb2⟩
        have S2 := Lib.hid (SR.below S0.out hb2)
        clear hb2 S0 SX
        go_wp2_with fail
        have S3 := Lib.hid (S2.out.draws)
        clear S2 RT HO
        obtain ⟨lt, hlt⟩ : ∃ lt, laterV now s = lt := ⟨_, rfl⟩
        have HLT := Lib.hid hlt
        have LT2 := Lib.hid (show ∀ w', SR w (st4 s lh le lu) (st4 0 0 0 0) w' → Calls Try.prog 26 #[.int .i64 now, .int .i64 s] w' fun e w2 => e = .returned (.int .i64 (laterV now s)) ∧ SR w (st4 s lh le lu) (st4 0 0 0 0) w2 from fun w' h => (LT.out w').mono fun e w2 ⟨he, hw⟩ => ⟨he, hw ▸ h⟩)
        rw [hlt] at LT2
        clear hlt LT
        refine wp_region_holdP [6, 10] (R7 w s lh le lu (if lu < lt then lt else lu) (st4 0 0 0 0)) (by kernel_rfl) (by kernel_rfl) S3.out ?_
        clear S3
        refine holdP_val (v := ?_) (by rfl) ?_ ?_ ?_
        rotate_left
        · simp [Region.wanted]
        · intro p w' hC
          have := r7_span hC
          clear hC
          go_simp
          try with_reducible rfl
        refine holdP_val (v := ?_) (by rfl) ?_ ?_ ?_
        rotate_left
        · simp [Region.wanted]
        · intro p w' hC
          have := r7_span hC
          clear hC
          go_simp
          try with_reducible rfl
        refine holdP_valA (v := .int .i64 lu) 1 10 _ rfl rfl (by kernel_rfl) (by rfl) ?_ (fun p w' hp hC => ?_) ?_
        · simp [Region.wanted]
        · have := r7_until hp hC
          clear hC
          go_simp
          try with_reducible rfl
        repeat
          first
          | (refine holdP_val (v := ?_) (by rfl) ?_ ?_ ?_
             rotate_left
             · first
               | (simp [Region.wanted]; done)
               | (simp [Region.wanted, yielded, Act.put]; done)
             · (intro p w' hC
                have := r7_span hC
                clear hC
                go_simp
                try with_reducible rfl))
          | (refine holdP_call 0 rfl ?_ ?_ (fun w' hC => LT2.out w' hC) ?_
             · first
               | (simp [Region.wanted]; done)
               | (simp [Region.wanted, yielded, Act.put]; done)
             · (intro w' hC; go_simp; done))
        refine holdP_store 1 rfl ?_ (fun w' hC => ⟨w'.setCell ⟨w.heap.size, 3, none⟩ (.int .i64 (if lu < lt then lt else lu)), ?_, SR.until _ hC⟩) ?_
        · simp [Region.wanted]
        · obtain ⟨_, _, _, y3, yf⟩ := SR.cells hC
          have yf3 := yf 3
          clear hC yf
          go_simp
          try with_reducible rfl
        refine holdP_nil (fun w3 hC => ?_)
        have S4 := Lib.hid (show SR w (st4 s lh le (if lu < lt then lt else lu)) (st4 0 0 0 0) w3 from hC)
        have HMX := Lib.hid (show max lu lt = if lu < lt then lt else lu by omega)
        clear hC LT2
        obtain ⟨mx, hmx⟩ : ∃ mx, (if lu < lt then lt else lu) = mx := ⟨_, rfl⟩
        rw [hmx] at S4 HMX
        have HMX2 := Lib.hid hmx
        obtain ⟨y0, y1, y2, y3, _⟩ := S4.out.cells
        obtain ⟨z0, z1, z2, z3, f0, f1, f2, f3⟩ := S4.out.zeros
        have ST := Lib.hid (S4.out.tell4 s lh le mx)
        clear hmx
        go_wp2_with fail
        all_goals
          refine bodyPost_ret (results_ct (g := w.heap.size + 1) (x := .int .i64 0) rfl ?_ ?_ ST.out.1 Try.underlying31 rfl (by kernel_rfl)) ?_ ⟨by rw [HLT.out, HMX.out], ST.out.2⟩
          all_goals first | rfl | (simp [Act.put]; done)
end Go.Proofs.Ytcoclpghimcnfaa
