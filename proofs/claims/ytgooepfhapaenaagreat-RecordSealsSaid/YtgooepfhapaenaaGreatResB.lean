/- What the helpers of package res come to: its closures, 'each' at each of them, the order of three numbers. Conditions: numbers that an int holds. -/
import Derived.Test.YtgooepfhapaenaaGreatResRef
import Derived.Test.YtgooepfhapaenaaGreatHolds
import Derived.Deep.QuietTactic
import Derived.BigQuiet
import Derived.ChangeKeysEq
import Derived.Laws.StructEq
namespace Go.Proofs.YtgooepfhapaenaaGreat
open Go.ChangeShapes Go.WideShapes Go.ChangeAt Go.RowKit
set_option linter.unusedVariables false
set_option maxRecDepth 100000
set_option linter.unusedSimpArgs false

theorem eq3_run (w : World) (a b c a' b' c' : Int) :
    (Op.equalIn 10000 23 (.agg #[.int .i64 a, .int .i64 b, .int .i64 c]) (.agg #[.int .i64 a', .int .i64 b', .int .i64 c'])).run Tryz.prog w = .ok (a == a' && (b == b' && c == c')) w := by
  obtain ⟨i, hi, hz0, hz1, hz2⟩ := info_parts infoI64
  have h := run_equalIn_array (P := Tryz.prog) (w := w) 9999 (t := 23) (e := 3) (n := 3) #[.int .i64 a, .int .i64 b, .int .i64 c] #[.int .i64 a', .int .i64 b', .int .i64 c'] (by kernel_rfl) hi
  rw [show Tryz.prog.cellsOf 3 = 1 by kernel_rfl, show List.range 3 = [0, 1, 2] from rfl] at h
  refine Eq.trans h ?_
  have hu : Tryz.prog.underlying 3 = some (.int .i64) := Tryz.underlying3
  cases h1 : a == a' <;> cases h2 : b == b' <;> cases h3 : c == c' <;>
  simp [Op.eqItems, part, go_sem, hi, hz1, hu, h1, h2, h3]
theorem eq3_same (v : V3) (w : World) :
    (Op.equalIn 10000 23 (.agg #[.int .i64 v.a, .int .i64 v.b, .int .i64 v.c]) (.agg #[.int .i64 v.a, .int .i64 v.b, .int .i64 v.c])).run Tryz.prog w = .ok true w := by
  rw [eq3_run]; simp
/-- The number at a place. -/
def V3.at_ (v : V3) (k : Nat) : Int := if k = 0 then v.a else if k = 1 then v.b else v.c
def partV (x : V3) (k : Nat) : V3 := ⟨if 0 < k then x.a else 0, if 1 < k then x.b else 0, if 2 < k then x.c else 0⟩
theorem partV_zero (x : V3) : partV x 0 = zero3 := rfl
theorem partV_three (x : V3) : partV x 3 = x := rfl
theorem bx_at {b : Nat} {v : V3} {w : World} (h : BX b v w) (k : Nat) (hk : k < 3) : w.cell? ⟨b, k, none⟩ = some (.int .i64 (v.at_ k)) := by
  have h1 := bx_cells h
  have hk3 : k = 0 ∨ k = 1 ∨ k = 2 := by omega
  rcases hk3 with rfl | rfl | rfl
  · exact h1.1
  · exact h1.2.1
  · exact h1.2.2
theorem bx_part {b : Nat} {x : V3} {w : World} (k : Nat) (hk : k < 3) (h : BX b (partV x k) w) : BX b (partV x (k + 1)) (w.setCell ⟨b, k, none⟩ (.int .i64 (x.at_ k))) := by
  unfold BX at h ⊢
  have h1 := blk_set h k (.int .i64 (x.at_ k))
  refine h1.trans ?_
  have hk3 : k = 0 ∨ k = 1 ∨ k = 2 := by omega
  rcases hk3 with rfl | rfl | rfl <;> rfl
theorem bx_off {b c : Nat} {v : V3} {w : World} (h : BX b v w) (hne : b ≠ c) (k : Nat) (x : Value) : BX b v (w.setCell ⟨c, k, none⟩ x) := blk_far x h hne
theorem intr {x y : Int} (g : x = y) : Ending.returned (.int .i64 x) = .returned (.int .i64 y) := by rw [g]
def spanU (n : Int) : Int := if n < 0 then 0 else if 1048576 < n then 1048576 else n
theorem spanU_unit (n : Int) : (n == spanU n) = unitB n := by
  rw [Bool.eq_iff_iff, unitB_iff]; unfold spanU; simp only [beq_iff_eq]
  split
  · omega
  · split <;> omega
theorem uspan_any (n : Int) (w : World) :
    Calls Tryz.prog 82 #[.int .i64 n, .int .i64 0, .int .i64 1048576] w fun e w' => e = .returned (.int .i64 (spanU n)) ∧ w = w' := by
  by_cases h1 : 1048576 < n
  · go_enter Tryz.func82, Tryz.ntmps82
    go_wp2
    go_ret
    exact ⟨intr (by unfold spanU; (repeat' split) <;> omega), rfl⟩
  · by_cases h2 : 0 < n
    all_goals
      go_enter Tryz.func82, Tryz.ntmps82
      go_wp2
      go_ret
      exact ⟨intr (by unfold spanU; (repeat' split) <;> omega), rfl⟩
theorem bx_cell_any {b : Nat} {v : V3} {w : World} (h : BX b v w) (k : Nat) (hk : k < 3) : ∃ x, w.cell? ⟨b, k, none⟩ = some x := ⟨_, bx_at h k hk⟩
set_option maxHeartbeats 1000000 in
theorem clo_right (v : V3) (b k : Nat) (hk : k < 3) (w : World) (h1 : BX b v w) :
    Calls Tryz.prog 81 #[.int .i64 k, .pointer (some ⟨b, 0, none⟩)] w fun e w' => e = .returned (.int .i64 (spanU (v.at_ k))) ∧ Below w.heap.size w w' := by
  have g1 := bx_at h1 k hk
  have S1 := Lib.hid fun w => uspan_any (v.at_ k) w
  clear h1
  have dk2 : (0 : Int) ≤ (k : Int) := by omega
  have dk3 : (k : Int) < 3 := by omega
  go_enter Tryz.func81, Tryz.ntmps81
  go_wp2_with fail
  refine (S1.out _).mono ?_; rintro e w1 ⟨rfl, rfl⟩
  go_wp2_with fail
  go_ret
  exact ⟨rfl, Below.refl _ _⟩
set_option maxHeartbeats 1000000 in
theorem each_right (x : V3) (p : Value) (w : World) (hf : ∀ k : Nat, k < 3 → ∀ w', Below w.heap.size w w' → Calls Tryz.prog 81 #[.int .i64 k, p] w' fun e w'' => e = .returned (.int .i64 (x.at_ k)) ∧ Below w'.heap.size w' w'') :
    Calls Tryz.prog 80 #[.func (.func 81) #[] #[p]] w fun e w' => e = .returned x.val ∧ Below w.heap.size w w' := by
  have HFN := Lib.hid hf
  clear hf
  have hb := (two_below w zero3 zero3)
  have hx1 : BX w.heap.size zero3 (two w zero3 zero3) := blk_old _ (blk_new w _)
  have hx2 : BX (w.heap.size + 1) zero3 (two w zero3 zero3) := by
    have := blk_new (w.alloc (.cells zero3.cells 23)) (.cells zero3.cells 23)
    rw [show (w.alloc (.cells zero3.cells 23)).heap.size = w.heap.size + 1 by simp] at this
    exact this
  unfold two zero3 V3.cells at hb hx1 hx2
  dsimp only at hb hx1 hx2
  have HB := Lib.hid hb
  have HX1 := Lib.hid hx1
  have HX2 := Lib.hid hx2
  clear hb hx1 hx2
  go_enter Tryz.func80, Tryz.ntmps80
  go_wp2_with fail
  generalize (w.alloc (.cells #[.int .i64 0, .int .i64 0, .int .i64 0] 23)).alloc (.cells #[.int .i64 0, .int .i64 0, .int .i64 0] 23) = w1 at *
  go_loopw [5] (fun i wr => ∃ k : Nat, k ≤ 3 ∧ i = .int .i64 k ∧ BX w.heap.size zero3 wr ∧ BX (w.heap.size + 1) (partV x k) wr ∧ Below w.heap.size w wr) (fun i _ => 3 - (intOf i).toNat)
  case atStart => exact ⟨0, by omega, rfl, HX1.out, HX2.out, HB.out⟩
  case round =>
    obtain ⟨k, hk, rfl, h1, h2, h3⟩ := hrel
    have H1 := Lib.hid h1
    have H2 := Lib.hid h2
    have H3 := Lib.hid h3
    clear h1 h2 h3
    by_cases hlt : k < 3
    · have dk : decide ((k : Int) < 3) = true := decide_eq_true (by omega)
      have dk2 : (0 : Int) ≤ (k : Int) := by omega
      have dk3 : (k : Int) < 3 := by omega
      have q3 : IntKind.i64.wrap ((k : Int) + 1) = ((k + 1 : Nat) : Int) := by rw [IntWalk.i64_in _ (by omega)]; omega
      have F1 := Lib.hid (HFN.out k hlt wr H3.out)
      clear hk
      go_wp2_with fail
      refine F1.out.mono ?_; rintro e w2 ⟨rfl, b1⟩
      have hz2 := bx_below H2.out b1
      have fz := blk_free hz2 k
      have HY1 := Lib.hid (bx_off (bx_below H1.out b1) (Nat.ne_of_lt (Nat.lt_succ_self _)) k (.int .i64 (x.at_ k)))
      have HY2 := Lib.hid (bx_part k hlt hz2)
      have HY3 := Lib.hid ((H3.out.trans (b1.mono H3.out.size)).setCell (p := ⟨w.heap.size + 1, k, none⟩) (Nat.le_succ _) (.int .i64 (x.at_ k)))
      have ce := bx_at hz2 k hlt
      clear hz2 b1
      go_wp2_with fail
      go_roundw
      case rel => exact ⟨k + 1, by omega, rfl, HY1.out, HY2.out, HY3.out⟩
      case measure => simp [intOf]; omega
    · obtain rfl : k = 3 := by omega
      rw [partV_three] at H2
      obtain ⟨y0, y1, y2⟩ := bx_cells H2.out
      obtain ⟨z0, z1, z2⟩ := bx_cells H1.out
      obtain ⟨f0, f1, f2⟩ := bx_free H1.out
      go_wp2_with fail
      refine bodyPost_ret (cell_results rfl (bx_set H1.out x.a x.b x.c) rfl rfl) rfl ⟨rfl, set3_below H3.out (Nat.le_refl _) _ _ _⟩
end Go.Proofs.YtgooepfhapaenaaGreat
/- What Right, Fits, Most, Less, Add and Sub of package res come to. Conditions: numbers that an int holds. -/
namespace Go.Proofs.YtgooepfhapaenaaGreat
open Go.ChangeShapes Go.WideShapes Go.ChangeAt Go.RowKit
set_option linter.unusedVariables false
set_option maxRecDepth 100000
set_option linter.unusedSimpArgs false

/-! ### Compare -/
def ordV (x y : Int) : Int := if x < y then -1 else if y < x then 1 else 0
def cmpV (v u : V3) : Int := if ordV v.a u.a ≠ 0 then ordV v.a u.a else if ordV v.b u.b ≠ 0 then ordV v.b u.b else ordV v.c u.c
theorem ordV_eq (x y : Int) : ordV x y = 0 ↔ x = y := by unfold ordV; (repeat' split) <;> omega
theorem ordV_lt (x y : Int) : ordV x y < 0 ↔ x < y := by unfold ordV; (repeat' split) <;> omega
theorem cmpV_less (v u : V3) : decide (cmpV v u < 0) = lessB v u := by
  rw [Bool.eq_iff_iff, decide_eq_true_iff, lessB_iff]
  have h1 := ordV_eq v.a u.a
  have h2 := ordV_eq v.b u.b
  have h4 := ordV_lt v.a u.a
  have h5 := ordV_lt v.b u.b
  have h6 := ordV_lt v.c u.c
  unfold cmpV
  split
  · rename_i h; omega
  · rename_i h
    split
    · rename_i h'; omega
    · rename_i h'; omega
theorem cmpV_at (v u : V3) (k : Nat) (hk : k < 3) (he : ∀ j, j < k → v.at_ j = u.at_ j) (hn : ordV (v.at_ k) (u.at_ k) ≠ 0) : cmpV v u = ordV (v.at_ k) (u.at_ k) := by
  have hk3 : k = 0 ∨ k = 1 ∨ k = 2 := by omega
  unfold cmpV
  rcases hk3 with rfl | rfl | rfl
  · exact if_pos hn
  · have h0 : v.a = u.a := he 0 (by omega)
    rw [if_neg (fun h => h ((ordV_eq _ _).2 h0))]
    exact if_pos hn
  · have h0 : v.a = u.a := he 0 (by omega)
    have h1 : v.b = u.b := he 1 (by omega)
    rw [if_neg (fun h => h ((ordV_eq _ _).2 h0)), if_neg (fun h => h ((ordV_eq _ _).2 h1))]
    rfl
theorem cmpV_end (v u : V3) (he : ∀ j, j < 3 → v.at_ j = u.at_ j) : cmpV v u = 0 := by
  have h0 : v.a = u.a := he 0 (by omega)
  have h1 : v.b = u.b := he 1 (by omega)
  have h2 : v.c = u.c := he 2 (by omega)
  unfold cmpV
  rw [if_neg (fun h => h ((ordV_eq _ _).2 h0)), if_neg (fun h => h ((ordV_eq _ _).2 h1))]
  exact (ordV_eq _ _).2 h2
theorem bx_fresh0 (w : World) (v : V3) : BX w.heap.size v (w.alloc (.cells #[.int .i64 v.a, .int .i64 v.b, .int .i64 v.c] 23)) := blk_new w _
def spanV3 (v : V3) : V3 := ⟨spanU v.a, spanU v.b, spanU v.c⟩
theorem spanV3_at (v : V3) (k : Nat) : (spanV3 v).at_ k = spanU (v.at_ k) := by unfold V3.at_ spanV3; (repeat' split) <;> rfl
theorem spanV3_right (v : V3) : (v.a == (spanV3 v).a && (v.b == (spanV3 v).b && v.c == (spanV3 v).c)) = rightB v := by
  unfold spanV3 rightB; dsimp only; rw [spanU_unit, spanU_unit, spanU_unit, Bool.and_assoc]
set_option maxHeartbeats 1000000 in
theorem qright_any (v : V3) (w : World) (hv : v.ok) : Calls Tryz.prog 73 #[v.val] w fun e w' => e = .returned (.bool (rightB v)) ∧ Below w.heap.size w w' := by
  have hb := (Below.refl w.heap.size w).alloc (Nat.le_refl _) (.cells #[.int .i64 v.a, .int .i64 v.b, .int .i64 v.c] 23)
  have hx : BX w.heap.size v (w.alloc (.cells #[.int .i64 v.a, .int .i64 v.b, .int .i64 v.c] 23)) := bx_fresh0 w v
  have HB := Lib.hid hb
  have HX := Lib.hid hx
  have hE := fun w1 => eq3_run w1 v.a v.b v.c (spanV3 v).a (spanV3 v).b (spanV3 v).c
  rw [spanV3_right] at hE
  clear hb hx
  unfold V3.val
  go_enter Tryz.func73, Tryz.ntmps73
  go_wp2_with fail
  generalize w.alloc (.cells #[.int .i64 v.a, .int .i64 v.b, .int .i64 v.c] 23) = W at *
  have E1 := Lib.hid fun w' (h : Below W.heap.size W w') => each_right (spanV3 v) (.pointer (some ⟨w.heap.size, 0, none⟩)) w' (fun k hk w2 hb => by
    have := clo_right v w.heap.size k hk w2 (bx_below (bx_below HX.out h) hb)
    rw [← spanV3_at] at this
    exact this)
  unfold V3.val at E1
  refine wp_region_hold (fun w' => Below W.heap.size W w') (by kernel_rfl) (by kernel_rfl) ⟨rfl, rfl, rfl, Nat.le_refl _, fun _ _ => rfl⟩ ?_
  have HL := Lib.hid (show ∀ w', Below W.heap.size W w' → ((w'.cell? ⟨w.heap.size, 0, none⟩ = some (.int .i64 v.a) ∧ w'.cell? ⟨w.heap.size, 1, none⟩ = some (.int .i64 v.b) ∧ w'.cell? ⟨w.heap.size, 2, none⟩ = some (.int .i64 v.c))) from
    fun w' hb => bx_cells (bx_below HX.out hb))
  repeat
    first
    | (refine hold_val (v := ?_) (by rfl) ?_ ?_
       rotate_left
       · (intro w' hS
          obtain ⟨_, _, _⟩ := HL.out w' hS
          go_simp
          try with_reducible rfl)
       simp only [Act.put, List.setIfInBounds_toArray, List.set_cons_zero, List.set_cons_succ])
    | ((first
        | (refine hold_call (by rfl) ?_ (fun w' hS => made_call hS (Nat.le_refl _) (E1.out w' hS)) ?_; focus (intro w' hS; go_simp; done)))
       simp only [Act.put, List.setIfInBounds_toArray, List.set_cons_zero, List.set_cons_succ])
  refine hold_nil (fun w' hS => ?_)
  have HF := Lib.hid (HB.out.trans (hS.mono HB.out.size))
  clear hS
  go_wp2_with fail
  go_ret
  exact ⟨rfl, HF.out⟩
/-- Three vectors that were boxed, one behind the other. -/
def three (w : World) (v u x : V3) : World := (two w v u).alloc (.cells x.cells 23)
theorem three_of (w : World) (v u x : V3) : Below w.heap.size w (three w v u x) ∧ BX w.heap.size v (three w v u x) ∧ BX (w.heap.size + 1) u (three w v u x) ∧ BX (w.heap.size + 1 + 1) x (three w v u x) := by
  refine ⟨(two_below w v u).alloc (two_below w v u).size _, blk_old _ (blk_old _ (blk_new w _)), blk_old _ ?_, blk3 _ _ _ _⟩
  have := blk_new (w.alloc (.cells v.cells 23)) (.cells u.cells 23)
  rw [show (w.alloc (.cells v.cells 23)).heap.size = w.heap.size + 1 by simp] at this
  exact this
theorem mostV_at (v u : V3) (k : Nat) : (mostV v u).at_ k = max (v.at_ k) (u.at_ k) := by unfold V3.at_ mostV; (repeat' split) <;> rfl
theorem fits_eq (v u : V3) : ((mostV v u).a == u.a && ((mostV v u).b == u.b && (mostV v u).c == u.c)) = fitsB v u := by
  unfold mostV; dsimp only
  rw [Bool.eq_iff_iff, fitsB_iff]
  simp only [Bool.and_eq_true, beq_iff_eq]
  omega
theorem bx_alloc {b : Nat} {v : V3} {w : World} (h : BX b v w) (o : Obj) : BX b v (w.alloc o) := blk_old _ h
def okB (v u x : V3) : Bool := rightB v && rightB u && rightB x
def okV (v u x : V3) : V3 := if okB v u x = true then x else zero3
theorem res_size3 (r : V3) : (Tryz.prog.info? 23).map (·.size) = some (#[.int .i64 r.a, .int .i64 r.b, .int .i64 r.c] : Array Value).size := by
  show _ = some 3
  kernel_rfl
theorem res_one (r : V3) : (#[.int .i64 r.a, .int .i64 r.b, .int .i64 r.c] : Array Value).all (·.oneCell') = true := by
  simp [Value.oneCell']
/-- While Add and Sub go on: the two boxes, and the result behind its store. -/
def resC (w : World) (v u r : V3) (m : List Bool) (w' : World) : Prop :=
  Below w.heap.size w w' ∧ BX w.heap.size v w' ∧ BX (w.heap.size + 1) u w' ∧ BX (w.heap.size + 1 + 1) (if m.getD 0 false = true then r else zero3) w'
theorem resC_below {w w' w2 : World} {v u r : V3} {m : List Bool} (h : resC w v u r m w') (hb : Below w'.heap.size w' w2) : resC w v u r m w2 :=
  ⟨h.1.trans (hb.mono h.1.size), bx_below h.2.1 hb, bx_below h.2.2.1 hb, bx_below h.2.2.2 hb⟩
theorem resC_set {w w' : World} {v u r : V3} {m : List Bool} (hm : m[0]? = some false) (h : resC w v u r m w') :
    ∃ t old, w'.heap[w.heap.size + 1 + 1]? = some (.cells old t (0, 0)) ∧ old.size = (#[.int .i64 r.a, .int .i64 r.b, .int .i64 r.c] : Array Value).size ∧ resC w v u r (m.set 0 true) (w'.setRow (w.heap.size + 1 + 1) #[.int .i64 r.a, .int .i64 r.b, .int .i64 r.c]) := by
  refine ⟨_, _, h.2.2.2, rfl, rowSet_below _ h.1 (by omega), (rowSet_far _ _ _ _ (by omega)).trans h.2.1, (rowSet_far _ _ _ _ (by omega)).trans h.2.2.1, ?_⟩
  have e : (m.set 0 true).getD 0 false = true := by
    cases m with
    | nil => cases hm
    | cons x l => rfl
  rw [e, if_pos rfl]
  exact rowSet_heap _ _ _ _ _ h.2.2.2
def wsumV (v u : V3) : V3 := ⟨wrap64 (v.a + u.a), wrap64 (v.b + u.b), wrap64 (v.c + u.c)⟩
def wsubV (v u : V3) : V3 := ⟨wrap64 (v.a - u.a), wrap64 (v.b - u.b), wrap64 (v.c - u.c)⟩
theorem wsumV_at (v u : V3) (k : Nat) : (wsumV v u).at_ k = wrap64 (v.at_ k + u.at_ k) := by unfold V3.at_ wsumV; (repeat' split) <;> rfl
theorem wsubV_at (v u : V3) (k : Nat) : (wsubV v u).at_ k = wrap64 (v.at_ k - u.at_ k) := by unfold V3.at_ wsubV; (repeat' split) <;> rfl
theorem wrap64_in (n : Int) : inI (wrap64 n) := by unfold inI wrap64; omega
theorem wrap64_id {n : Int} (h1 : -9223372036854775808 ≤ n) (h2 : n ≤ 9223372036854775807) : wrap64 n = n := by unfold wrap64; omega
theorem wsumV_ok (v u : V3) : (wsumV v u).ok := ⟨wrap64_in _, wrap64_in _, wrap64_in _⟩
theorem wsubV_ok (v u : V3) : (wsubV v u).ok := ⟨wrap64_in _, wrap64_in _, wrap64_in _⟩
theorem wsum_ok (v u : V3) : okB v u (wsumV v u) = addB v u ∧ okV v u (wsumV v u) = addV v u := by
  have key : rightB v = true → rightB u = true → wsumV v u = sumV v u := fun h1 h2 => by
    have q1 := (rightB_iff v).1 h1
    have q2 := (rightB_iff u).1 h2
    unfold wsumV sumV
    rw [wrap64_id (by omega) (by omega), wrap64_id (by omega) (by omega), wrap64_id (by omega) (by omega)]
  have e : okB v u (wsumV v u) = addB v u := by
    unfold okB addB
    cases h1 : rightB v <;> cases h2 : rightB u <;> simp only [Bool.false_and, Bool.and_false, Bool.true_and]
    rw [key h1 h2]
  refine ⟨e, ?_⟩
  unfold okV addV
  rw [e]
  by_cases h : addB v u = true
  · rw [if_pos h, if_pos h]
    have h1 := (addB_iff v u).1 h
    exact key h1.1 h1.2.1
  · rw [if_neg h, if_neg h]
theorem wsub_ok (v u : V3) : okB v u (wsubV v u) = takeB v u ∧ okV v u (wsubV v u) = takeV v u := by
  have key : rightB v = true → rightB u = true → wsubV v u = subV v u := fun h1 h2 => by
    have q1 := (rightB_iff v).1 h1
    have q2 := (rightB_iff u).1 h2
    unfold wsubV subV
    rw [wrap64_id (by omega) (by omega), wrap64_id (by omega) (by omega), wrap64_id (by omega) (by omega)]
  have key2 : rightB v = true → rightB u = true → rightB (subV v u) = fitsB u v := fun h1 h2 => by
    have q1 := (rightB_iff v).1 h1
    have q2 := (rightB_iff u).1 h2
    rw [Bool.eq_iff_iff, rightB_iff, fitsB_iff]
    simp only [subV]; omega
  have e : okB v u (wsubV v u) = takeB v u := by
    unfold okB takeB
    cases h1 : rightB v <;> cases h2 : rightB u <;> simp only [Bool.false_and, Bool.and_false, Bool.true_and]
    rw [key h1 h2, key2 h1 h2]
  refine ⟨e, ?_⟩
  unfold okV takeV
  rw [e]
  by_cases h : takeB v u = true
  · rw [if_pos h, if_pos h]
    have h1 := (takeB_iff v u).1 h
    exact key h1.1 h1.2.1
  · rw [if_neg h, if_neg h]
end Go.Proofs.YtgooepfhapaenaaGreat
