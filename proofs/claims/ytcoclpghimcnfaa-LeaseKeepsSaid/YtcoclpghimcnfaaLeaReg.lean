/- What the document's own Acquire, Renew, Release come to. Conditions: a span from 0 on; epochs from 0 on. -/
import Derived.Test.YtcoclpghimcnfaaLeaRef
import Derived.Test.YtcoclpghimcnfaaHoldR
namespace Go.Proofs.Ytcoclpghimcnfaa
open Go.ChangeShapes Go.WideShapes Go.ChangeAt Go.RowKit
set_option linter.unusedVariables false
set_option maxRecDepth 100000
set_option linter.unusedSimpArgs false
set_option maxHeartbeats 2000000

def st4 (s a b c : Int) : Array Value := #[.int .i64 s, .int .i64 a, .int .i64 b, .int .i64 c]
def ls3 (a b c : Int) : Array Value := #[.int .i64 a, .int .i64 b, .int .i64 c]
/-- The three blocks of Acquire: the store, what it tells, the lease till now. -/
structure SB (wL : World) (bx rs : Array Value) (l9 : Array Value) (w : World) : Prop where
  box : w.heap[wL.heap.size]? = some (.cells bx 31 (0, 0))
  res : w.heap[wL.heap.size + 1]? = some (.cells rs 31 (0, 0))
  cop : w.heap[wL.heap.size + 1 + 1]? = some (.cells l9 29 (0, 0))
  bel : Below wL.heap.size wL w
theorem sb_start (wL : World) (bx rs l9 : Array Value) : SB wL bx rs l9 (((wL.alloc (.cells bx 31)).alloc (.cells rs 31)).alloc (.cells l9 29)) := by
  have e1 : (wL.alloc (.cells bx 31)).heap.size = wL.heap.size + 1 := by simp
  have e2 : ((wL.alloc (.cells bx 31)).alloc (.cells rs 31)).heap.size = wL.heap.size + 1 + 1 := by simp
  refine ⟨blk_old _ (blk_old _ (blk_new _ _)), blk_old _ ?_, ?_, (((Below.refl _ wL).alloc (Nat.le_refl _) _).alloc (by simp) _).alloc (by simp; omega) _⟩
  · have := blk_new (wL.alloc (.cells bx 31)) (.cells rs 31)
    rwa [e1] at this
  · have := blk_new ((wL.alloc (.cells bx 31)).alloc (.cells rs 31)) (.cells l9 29)
    rwa [e2] at this
theorem SB.draws {wL w : World} {bx rs l9 : Array Value} (h : SB wL bx rs l9 w) : SB wL bx rs l9 w.drew := ⟨h.box, h.res, h.cop, h.bel.os, h.bel.tape, h.bel.output, h.bel.size, h.bel.block⟩
theorem SB.store {wL w : World} {s a b c x y z : Int} {rs l9 : Array Value} (h : SB wL (st4 s a b c) rs l9 w) :
    w.there wL.heap.size 1 3 ∧ SB wL (st4 s x y z) rs l9 (w.setCells wL.heap.size 1 [.int .i64 x, .int .i64 y, .int .i64 z]) := by
  refine ⟨fun j hj => ⟨?_, blk_free h.box _⟩, ?_⟩
  · rw [blk_cell h.box]
    have : j = 0 ∨ j = 1 ∨ j = 2 := by omega
    rcases this with rfl | rfl | rfl <;> rfl
  · have k1 := blk_set (blk_set (blk_set h.box 1 (.int .i64 x)) 2 (.int .i64 y)) 3 (.int .i64 z)
    have f : ∀ {k : Nat} {o : Obj}, w.heap[k]? = some o → k ≠ wL.heap.size → (w.setCells wL.heap.size 1 [.int .i64 x, .int .i64 y, .int .i64 z]).heap[k]? = some o := fun hk hn =>
      blk_far (p := ⟨wL.heap.size, 3, none⟩) _ (blk_far (p := ⟨wL.heap.size, 2, none⟩) _ (blk_far (p := ⟨wL.heap.size, 1, none⟩) _ hk hn) hn) hn
    refine ⟨k1, f h.res (by omega), f h.cop (by omega), ?_⟩
    have o := (((Only.refl wL.heap.size w).setCell 1 (.int .i64 x)).setCell 2 (.int .i64 y)).setCell 3 (.int .i64 z)
    exact h.bel.trans (o.below (Nat.le_refl _) h.bel.size)
theorem SB.tell {wL w : World} {bx rs l9 : Array Value} (cs : Array Value) (h : SB wL bx rs l9 w) : SB wL bx cs l9 (w.setRow (wL.heap.size + 1) cs) := by
  have f : ∀ {k : Nat} {o : Obj}, w.heap[k]? = some o → k ≠ wL.heap.size + 1 → (w.setRow (wL.heap.size + 1) cs).heap[k]? = some o := fun hk hn => (rowSet_far w _ _ cs hn).trans hk
  exact ⟨f h.box (by omega), rowSet_heap w _ cs _ _ h.res, f h.cop (by omega), rowSet_below cs h.bel (by omega)⟩
/-- Region 12, region 13. -/
def G12 (wL : World) (s a b c x y z : Int) (rs l9 : Array Value) : Nat → World → Prop
  | 0, w => SB wL (st4 s a b c) rs l9 w
  | 1, w => SB wL (st4 s a b c) rs l9 w
  | _, w => SB wL (st4 s x y z) rs l9 w
theorem g12_cells {wL : World} {s a b c x y z p q r : Int} {rs : Array Value} {w : World} : ∀ {n : Nat}, G12 wL s a b c x y z rs (ls3 p q r) n w → w.cell? ⟨wL.heap.size, 0, none⟩ = some (.int .i64 s) ∧ w.cell? ⟨wL.heap.size + 1 + 1, 1, none⟩ = some (.int .i64 q)
  | 0, h => ⟨by rw [blk_cell (SB.box h)]; rfl, by rw [blk_cell (SB.cop h)]; rfl⟩
  | 1, h => ⟨by rw [blk_cell (SB.box h)]; rfl, by rw [blk_cell (SB.cop h)]; rfl⟩
  | _ + 2, h => ⟨by rw [blk_cell (SB.box h)]; rfl, by rw [blk_cell (SB.cop h)]; rfl⟩
def G13 (wL : World) (bx rs r2 l9 : Array Value) : Nat → World → Prop
  | 0, w => SB wL bx rs l9 w
  | _, w => SB wL bx r2 l9 w
theorem g13_cells {wL : World} {s a b c : Int} {rs r2 l9 : Array Value} {w : World} : ∀ {n : Nat}, G13 wL (st4 s a b c) rs r2 l9 n w → w.cell? ⟨wL.heap.size, 0, none⟩ = some (.int .i64 s) ∧ w.cell? ⟨wL.heap.size, 1, none⟩ = some (.int .i64 a) ∧ w.cell? ⟨wL.heap.size, 2, none⟩ = some (.int .i64 b) ∧ w.cell? ⟨wL.heap.size, 3, none⟩ = some (.int .i64 c)
  | 0, h => ⟨by rw [blk_cell (SB.box h)]; rfl, by rw [blk_cell (SB.box h)]; rfl, by rw [blk_cell (SB.box h)]; rfl, by rw [blk_cell (SB.box h)]; rfl⟩
  | _ + 1, h => ⟨by rw [blk_cell (SB.box h)]; rfl, by rw [blk_cell (SB.box h)]; rfl, by rw [blk_cell (SB.box h)]; rfl, by rw [blk_cell (SB.box h)]; rfl⟩
theorem rlacquire_any (s : Int) (l : Ls) (now who : Int) (w : World) (he : 0 ≤ l.e) :
    Calls Try.prog 11 #[stoV s l, .int .i64 now, .int .i64 who] w fun e w' => e = .returned (.tuple #[stoV s (acqL s l now who).1, .int .i64 (acqL s l now who).2.1, .int .i64 (acqL s l now who).2.2]) ∧ Below w.heap.size w w' := by
  have RT := Lib.hid fun w => rlright_any now who w
  have LT := Lib.hid fun w => rlater_any now s w
  obtain ⟨lh, le, lu⟩ := l
  unfold acqL stoV heldL
  have SBX := Lib.hid (sb_start w (st4 s lh le lu) (st4 s lh le lu) (ls3 lh le lu))
  have SB0 := Lib.hid (sb_start w (st4 s lh le lu) (st4 0 0 0 0) (ls3 lh le lu))
  by_cases hs : s = 0
  · rw [if_pos hs]
    have d1 : (s == 0) = true := by simpa using hs
    clear hs
    go_enter Try.func11, Try.ntmps11
    go_wp2_with fail
    exact bodyPost_ret (results_ctt rfl rfl rfl rfl SBX.out.res Try.underlying31 rfl (by kernel_rfl)) rfl ⟨rfl, SBX.out.bel⟩
  · rw [if_neg hs]
    have d1 : (s == 0) = false := by simpa using hs
    clear hs
    cases hr : rightL now who with
    | false =>
      rw [hr] at RT
      simp only [if_true]
      go_enter Try.func11, Try.ntmps11
      go_wp2_with fail
      refine (RT.out _).mono ?_; rintro e w1 ⟨rfl, rfl⟩
      go_wp2_with fail
      exact bodyPost_ret (results_ctt rfl rfl rfl rfl SBX.out.res Try.underlying31 rfl (by kernel_rfl)) rfl ⟨rfl, SBX.out.bel⟩
    | true =>
      rw [hr] at RT
      simp only [Bool.true_eq_false, if_false]
      have grant : ∀ (h2 : decide (0 ≤ lh) = false ∨ (decide (0 ≤ lh) = true ∧ decide (now < lu) = false)), True := fun _ => trivial
      cases h2 : decide (0 ≤ lh)
      all_goals cases h3 : decide (now < lu)
      all_goals have g2 : decide (lh ≥ 0) = decide (0 ≤ lh) := rfl
      all_goals rw [h2] at g2
      all_goals simp only [Bool.false_and, Bool.and_false, Bool.and_true, Bool.true_and, Bool.false_eq_true, if_false, if_true]
      case true.true =>
        by_cases hw : lh = who
        · rw [if_pos hw]
          have d2 : (lh == who) = true := by simpa using hw
          clear hw
          go_enter Try.func11, Try.ntmps11
          go_wp2_with fail
          refine (RT.out _).mono ?_; rintro e w1 ⟨rfl, rfl⟩
          go_wp2_with fail
          exact bodyPost_ret (results_ctt rfl rfl rfl rfl SBX.out.res Try.underlying31 rfl (by kernel_rfl)) rfl ⟨rfl, SBX.out.bel⟩
        · rw [if_neg hw]
          have d2 : (lh == who) = false := by simpa using hw
          clear hw
          go_enter Try.func11, Try.ntmps11
          go_wp2_with fail
          refine (RT.out _).mono ?_; rintro e w1 ⟨rfl, rfl⟩
          go_wp2_with fail
          exact bodyPost_ret (results_ctt rfl rfl rfl rfl SBX.out.res Try.underlying31 rfl (by kernel_rfl)) rfl ⟨rfl, SBX.out.bel⟩
      all_goals by_cases hf : 4294967295 ≤ le
      all_goals first | rw [if_pos hf] | rw [if_neg hf]
      all_goals
        have d2 : decide (4294967295 ≤ le) = decide (4294967295 ≤ le) := rfl
        first
        | (have d2 : decide (4294967295 ≤ le) = true := decide_eq_true hf
           have d3 : decide (le ≥ 4294967295) = true := d2
           clear hf
           go_enter Try.func11, Try.ntmps11
           go_wp2_with fail
           refine (RT.out _).mono ?_; rintro e w1 ⟨rfl, rfl⟩
           go_wp2_with fail
           exact bodyPost_ret (results_ctt rfl rfl rfl rfl SBX.out.res Try.underlying31 rfl (by kernel_rfl)) rfl ⟨rfl, SBX.out.bel⟩)
        | (have d2 : decide (4294967295 ≤ le) = false := decide_eq_false hf
           have d3 : decide (le ≥ 4294967295) = false := d2
           have q1 : IntKind.i64.wrap (le + 1) = le + 1 := IntWalk.i64_in _ (by simp at he; omega)
           clear hf
           go_enter Try.func11, Try.ntmps11
           go_wp2_with fail
           refine (RT.out _).mono ?_; rintro e w1 ⟨rfl, rfl⟩
           go_wp2_with fail
           have SB1 := Lib.hid SB0.out.draws
           have LT2 := Lib.hid (show ∀ w', SB w (st4 s lh le lu) (st4 0 0 0 0) (ls3 lh le lu) w' → Calls Try.prog 26 #[.int .i64 now, .int .i64 s] w' fun e w2 => e = .returned (.int .i64 (laterV now s)) ∧ SB w (st4 s lh le lu) (st4 0 0 0 0) (ls3 lh le lu) w2 from fun w' h => (LT.out w').mono fun e w2 ⟨he, hw⟩ => ⟨he, hw ▸ h⟩)
           clear LT RT SBX SB0
           obtain ⟨lt, hlt⟩ : ∃ lt, laterV now s = lt := ⟨_, rfl⟩
           have HLT := Lib.hid hlt
           rw [hlt] at LT2
           clear hlt
           refine wp_region_holdP [7, 10] (G12 w s lh le lu who (le + 1) lt (st4 0 0 0 0) (ls3 lh le lu)) (by kernel_rfl) (by kernel_rfl) SB1.out ?_
           clear SB1
           repeat
             first
             | (refine holdP_val (v := ?_) (by rfl) ?_ ?_ ?_
                rotate_left
                · first
                  | (simp [Region.wanted]; done)
                  | (simp [Region.wanted, yielded, Act.put]; done)
                · (intro p w' hC
                   obtain ⟨_, _⟩ := g12_cells hC
                   clear hC
                   go_simp
                   try with_reducible rfl))
             | (refine holdP_call 0 rfl ?_ ?_ (fun w' hC => LT2.out w' hC) ?_
                · first
                  | (simp [Region.wanted]; done)
                  | (simp [Region.wanted, yielded, Act.put]; done)
                · (intro w' hC; go_simp; done))
             | (refine holdP_storeMid 1 29 _ _ rfl rfl ?_ w.heap.size 1 #[.int .i64 who, .int .i64 (le + 1), .int .i64 lt] ?_ ?_ (by kernel_rfl) (by simp [Value.oneCell']) (fun w' hC => SB.store hC) ?_
                · first
                  | (simp [Region.wanted]; done)
                  | (simp [Region.wanted, yielded, Act.put]; done)
                · (go_simp; done)
                · (go_simp; done))
           refine holdP_nil (fun w3 hC => ?_)
           have SB2 := Lib.hid (SB.draws hC)
           clear hC LT2
           go_wp2_with fail
           refine wp_region_holdP [4] (G13 w (st4 s who (le + 1) lt) (st4 0 0 0 0) (st4 s who (le + 1) lt) (ls3 lh le lu)) (by kernel_rfl) (by kernel_rfl) SB2.out ?_
           clear SB2
           repeat
             first
             | (refine holdP_val (v := ?_) (by rfl) ?_ ?_ ?_
                rotate_left
                · first
                  | (simp [Region.wanted]; done)
                  | (simp [Region.wanted, yielded, Act.put]; done)
                · (intro p w' hC
                   obtain ⟨_, _, _, _⟩ := g13_cells hC
                   clear hC
                   go_simp
                   try with_reducible rfl))
             | (refine holdP_storeRow 0 31 _ _ rfl rfl ?_ (w.heap.size + 1) #[.int .i64 s, .int .i64 who, .int .i64 (le + 1), .int .i64 lt] ?_ ?_ (by kernel_rfl) (by simp [Value.oneCell']) (fun w' hC => ⟨_, _, SB.res hC, rfl, SB.tell _ hC⟩) ?_
                · first
                  | (simp [Region.wanted]; done)
                  | (simp [Region.wanted, yielded, Act.put]; done)
                · (go_simp; done)
                · (go_simp; done))
           refine holdP_nil (fun w4 hC => ?_)
           have SB3 := Lib.hid hC
           clear hC
           go_wp2_with fail
           refine bodyPost_ret (results_ctt (g := w.heap.size + 1) (x := .int .i64 (le + 1)) (y := .int .i64 0) rfl ?_ ?_ ?_ (SB.res SB3.out) Try.underlying31 rfl (by kernel_rfl)) ?_ ⟨by rw [HLT.out]; rfl, SB.bel SB3.out⟩
           all_goals simp [Act.put])
end Go.Proofs.Ytcoclpghimcnfaa
