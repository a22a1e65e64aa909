/- What Right, Fits, Most, Less, Add and Sub of package res come to. Conditions: numbers that an int holds. -/
import Derived.Test.YtkahdmhgfojbiaaResA
import Derived.Test.YtkahdmhgfojbiaaHolds
namespace Go.Proofs.Ytkahdmhgfojbiaa
open Go.ChangeShapes Go.WideShapes Go.ChangeAt Go.RowKit
set_option linter.unusedVariables false
set_option maxRecDepth 100000
set_option linter.unusedSimpArgs false

/-! ### Compare -/
def ordV (x y : Int) : Int := if x < y then -1 else if y < x then 1 else 0
def cmpV (v u : V3) : Int := if ordV v.a u.a ≠ 0 then ordV v.a u.a else if ordV v.b u.b ≠ 0 then ordV v.b u.b else ordV v.c u.c
theorem ordV_eq (x y : Int) : ordV x y = 0 ↔ x = y := by unfold ordV; (repeat' split) <;> omega
theorem ordV_lt (x y : Int) : ordV x y < 0 ↔ x < y := by unfold ordV; (repeat' split) <;> omega
theorem cmpV_less (v u : V3) : decide (cmpV v u < 0) = lessB v u := by
  rw [Bool.eq_iff_iff, decide_eq_true_iff, lessB_iff]
  have h1 := ordV_eq v.a u.a
  have h2 := ordV_eq v.b u.b
  have h4 := ordV_lt v.a u.a
  have h5 := ordV_lt v.b u.b
  have h6 := ordV_lt v.c u.c
  unfold cmpV
  split
  · rename_i h; omega
  · rename_i h
    split
    · rename_i h'; omega
    · rename_i h'; omega
theorem cmpV_at (v u : V3) (k : Nat) (hk : k < 3) (he : ∀ j, j < k → v.at_ j = u.at_ j) (hn : ordV (v.at_ k) (u.at_ k) ≠ 0) : cmpV v u = ordV (v.at_ k) (u.at_ k) := by
  have hk3 : k = 0 ∨ k = 1 ∨ k = 2 := by omega
  unfold cmpV
  rcases hk3 with rfl | rfl | rfl
  · exact if_pos hn
  · have h0 : v.a = u.a := he 0 (by omega)
    rw [if_neg (fun h => h ((ordV_eq _ _).2 h0))]
    exact if_pos hn
  · have h0 : v.a = u.a := he 0 (by omega)
    have h1 : v.b = u.b := he 1 (by omega)
    rw [if_neg (fun h => h ((ordV_eq _ _).2 h0)), if_neg (fun h => h ((ordV_eq _ _).2 h1))]
    rfl
theorem cmpV_end (v u : V3) (he : ∀ j, j < 3 → v.at_ j = u.at_ j) : cmpV v u = 0 := by
  have h0 : v.a = u.a := he 0 (by omega)
  have h1 : v.b = u.b := he 1 (by omega)
  have h2 : v.c = u.c := he 2 (by omega)
  unfold cmpV
  rw [if_neg (fun h => h ((ordV_eq _ _).2 h0)), if_neg (fun h => h ((ordV_eq _ _).2 h1))]
  exact (ordV_eq _ _).2 h2
theorem bx_fresh0 (w : World) (v : V3) : BX w.heap.size v (w.alloc (.cells #[.int .i64 v.a, .int .i64 v.b, .int .i64 v.c] 23)) := blk_new w _
def spanV3 (v : V3) : V3 := ⟨spanU v.a, spanU v.b, spanU v.c⟩
theorem spanV3_at (v : V3) (k : Nat) : (spanV3 v).at_ k = spanU (v.at_ k) := by unfold V3.at_ spanV3; (repeat' split) <;> rfl
theorem spanV3_right (v : V3) : (v.a == (spanV3 v).a && (v.b == (spanV3 v).b && v.c == (spanV3 v).c)) = rightB v := by
  unfold spanV3 rightB; dsimp only; rw [spanU_unit, spanU_unit, spanU_unit, Bool.and_assoc]
set_option maxHeartbeats 1000000 in
theorem qright_any (v : V3) (w : World) (hv : v.ok) : Calls Try.prog 36 #[v.val] w fun e w' => e = .returned (.bool (rightB v)) ∧ Below w.heap.size w w' := by
  have hb := (Below.refl w.heap.size w).alloc (Nat.le_refl _) (.cells #[.int .i64 v.a, .int .i64 v.b, .int .i64 v.c] 23)
  have hx : BX w.heap.size v (w.alloc (.cells #[.int .i64 v.a, .int .i64 v.b, .int .i64 v.c] 23)) := bx_fresh0 w v
  have HB := Lib.hid hb
  have HX := Lib.hid hx
  have hE := fun w1 => eq3_run w1 v.a v.b v.c (spanV3 v).a (spanV3 v).b (spanV3 v).c
  rw [spanV3_right] at hE
  clear hb hx
  unfold V3.val
  go_enter Try.func36, Try.ntmps36
  go_wp2_with fail
  generalize w.alloc (.cells #[.int .i64 v.a, .int .i64 v.b, .int .i64 v.c] 23) = W at *
  have E1 := Lib.hid fun w' (h : Below W.heap.size W w') => each_right (spanV3 v) (.pointer (some ⟨w.heap.size, 0, none⟩)) w' (fun k hk w2 hb => by
    have := clo_right v w.heap.size k hk w2 (bx_below (bx_below HX.out h) hb)
    rw [← spanV3_at] at this
    exact this)
  unfold V3.val at E1
  refine wp_region_hold (fun w' => Below W.heap.size W w') (by kernel_rfl) (by kernel_rfl) ⟨rfl, rfl, rfl, Nat.le_refl _, fun _ _ => rfl⟩ ?_
  have HL := Lib.hid (show ∀ w', Below W.heap.size W w' → ((w'.cell? ⟨w.heap.size, 0, none⟩ = some (.int .i64 v.a) ∧ w'.cell? ⟨w.heap.size, 1, none⟩ = some (.int .i64 v.b) ∧ w'.cell? ⟨w.heap.size, 2, none⟩ = some (.int .i64 v.c))) from
    fun w' hb => bx_cells (bx_below HX.out hb))
  repeat
    first
    | (refine hold_val (v := ?_) (by rfl) ?_ ?_
       rotate_left
       · (intro w' hS
          obtain ⟨_, _, _⟩ := HL.out w' hS
          go_simp
          try with_reducible rfl)
       simp only [Act.put, List.setIfInBounds_toArray, List.set_cons_zero, List.set_cons_succ])
    | ((first
        | (refine hold_call (by rfl) ?_ (fun w' hS => made_call hS (Nat.le_refl _) (E1.out w' hS)) ?_; focus (intro w' hS; go_simp; done)))
       simp only [Act.put, List.setIfInBounds_toArray, List.set_cons_zero, List.set_cons_succ])
  refine hold_nil (fun w' hS => ?_)
  have HF := Lib.hid (HB.out.trans (hS.mono HB.out.size))
  clear hS
  go_wp2_with fail
  go_ret
  exact ⟨rfl, HF.out⟩
/-- Three vectors that were boxed, one behind the other. -/
def three (w : World) (v u x : V3) : World := (two w v u).alloc (.cells x.cells 23)
theorem three_of (w : World) (v u x : V3) : Below w.heap.size w (three w v u x) ∧ BX w.heap.size v (three w v u x) ∧ BX (w.heap.size + 1) u (three w v u x) ∧ BX (w.heap.size + 1 + 1) x (three w v u x) := by
  refine ⟨(two_below w v u).alloc (two_below w v u).size _, blk_old _ (blk_old _ (blk_new w _)), blk_old _ ?_, blk3 _ _ _ _⟩
  have := blk_new (w.alloc (.cells v.cells 23)) (.cells u.cells 23)
  rw [show (w.alloc (.cells v.cells 23)).heap.size = w.heap.size + 1 by simp] at this
  exact this
theorem mostV_at (v u : V3) (k : Nat) : (mostV v u).at_ k = max (v.at_ k) (u.at_ k) := by unfold V3.at_ mostV; (repeat' split) <;> rfl
theorem fits_eq (v u : V3) : ((mostV v u).a == u.a && ((mostV v u).b == u.b && (mostV v u).c == u.c)) = fitsB v u := by
  unfold mostV; dsimp only
  rw [Bool.eq_iff_iff, fitsB_iff]
  simp only [Bool.and_eq_true, beq_iff_eq]
  omega
theorem bx_alloc {b : Nat} {v : V3} {w : World} (h : BX b v w) (o : Obj) : BX b v (w.alloc o) := blk_old _ h
def okB (v u x : V3) : Bool := rightB v && rightB u && rightB x
def okV (v u x : V3) : V3 := if okB v u x = true then x else zero3
theorem res_size3 (r : V3) : (Try.prog.info? 23).map (·.size) = some (#[.int .i64 r.a, .int .i64 r.b, .int .i64 r.c] : Array Value).size := by
  show _ = some 3
  kernel_rfl
theorem res_one (r : V3) : (#[.int .i64 r.a, .int .i64 r.b, .int .i64 r.c] : Array Value).all (·.oneCell') = true := by
  simp [Value.oneCell']
/-- While Add and Sub go on: the two boxes, and the result behind its store. -/
def resC (w : World) (v u r : V3) (m : List Bool) (w' : World) : Prop :=
  Below w.heap.size w w' ∧ BX w.heap.size v w' ∧ BX (w.heap.size + 1) u w' ∧ BX (w.heap.size + 1 + 1) (if m.getD 0 false = true then r else zero3) w'
theorem resC_below {w w' w2 : World} {v u r : V3} {m : List Bool} (h : resC w v u r m w') (hb : Below w'.heap.size w' w2) : resC w v u r m w2 :=
  ⟨h.1.trans (hb.mono h.1.size), bx_below h.2.1 hb, bx_below h.2.2.1 hb, bx_below h.2.2.2 hb⟩
theorem resC_set {w w' : World} {v u r : V3} {m : List Bool} (hm : m[0]? = some false) (h : resC w v u r m w') :
    ∃ t old, w'.heap[w.heap.size + 1 + 1]? = some (.cells old t (0, 0)) ∧ old.size = (#[.int .i64 r.a, .int .i64 r.b, .int .i64 r.c] : Array Value).size ∧ resC w v u r (m.set 0 true) (w'.setRow (w.heap.size + 1 + 1) #[.int .i64 r.a, .int .i64 r.b, .int .i64 r.c]) := by
  refine ⟨_, _, h.2.2.2, rfl, rowSet_below _ h.1 (by omega), (rowSet_far _ _ _ _ (by omega)).trans h.2.1, (rowSet_far _ _ _ _ (by omega)).trans h.2.2.1, ?_⟩
  have e : (m.set 0 true).getD 0 false = true := by
    cases m with
    | nil => cases hm
    | cons x l => rfl
  rw [e, if_pos rfl]
  exact rowSet_heap _ _ _ _ _ h.2.2.2
def wsumV (v u : V3) : V3 := ⟨wrap64 (v.a + u.a), wrap64 (v.b + u.b), wrap64 (v.c + u.c)⟩
def wsubV (v u : V3) : V3 := ⟨wrap64 (v.a - u.a), wrap64 (v.b - u.b), wrap64 (v.c - u.c)⟩
theorem wsumV_at (v u : V3) (k : Nat) : (wsumV v u).at_ k = wrap64 (v.at_ k + u.at_ k) := by unfold V3.at_ wsumV; (repeat' split) <;> rfl
theorem wsubV_at (v u : V3) (k : Nat) : (wsubV v u).at_ k = wrap64 (v.at_ k - u.at_ k) := by unfold V3.at_ wsubV; (repeat' split) <;> rfl
theorem wrap64_in (n : Int) : inI (wrap64 n) := by unfold inI wrap64; omega
theorem wrap64_id {n : Int} (h1 : -9223372036854775808 ≤ n) (h2 : n ≤ 9223372036854775807) : wrap64 n = n := by unfold wrap64; omega
theorem wsumV_ok (v u : V3) : (wsumV v u).ok := ⟨wrap64_in _, wrap64_in _, wrap64_in _⟩
theorem wsubV_ok (v u : V3) : (wsubV v u).ok := ⟨wrap64_in _, wrap64_in _, wrap64_in _⟩
theorem wsum_ok (v u : V3) : okB v u (wsumV v u) = addB v u ∧ okV v u (wsumV v u) = addV v u := by
  have key : rightB v = true → rightB u = true → wsumV v u = sumV v u := fun h1 h2 => by
    have q1 := (rightB_iff v).1 h1
    have q2 := (rightB_iff u).1 h2
    unfold wsumV sumV
    rw [wrap64_id (by omega) (by omega), wrap64_id (by omega) (by omega), wrap64_id (by omega) (by omega)]
  have e : okB v u (wsumV v u) = addB v u := by
    unfold okB addB
    cases h1 : rightB v <;> cases h2 : rightB u <;> simp only [Bool.false_and, Bool.and_false, Bool.true_and]
    rw [key h1 h2]
  refine ⟨e, ?_⟩
  unfold okV addV
  rw [e]
  by_cases h : addB v u = true
  · rw [if_pos h, if_pos h]
    have h1 := (addB_iff v u).1 h
    exact key h1.1 h1.2.1
  · rw [if_neg h, if_neg h]
theorem wsub_ok (v u : V3) : okB v u (wsubV v u) = takeB v u ∧ okV v u (wsubV v u) = takeV v u := by
  have key : rightB v = true → rightB u = true → wsubV v u = subV v u := fun h1 h2 => by
    have q1 := (rightB_iff v).1 h1
    have q2 := (rightB_iff u).1 h2
    unfold wsubV subV
    rw [wrap64_id (by omega) (by omega), wrap64_id (by omega) (by omega), wrap64_id (by omega) (by omega)]
  have key2 : rightB v = true → rightB u = true → rightB (subV v u) = fitsB u v := fun h1 h2 => by
    have q1 := (rightB_iff v).1 h1
    have q2 := (rightB_iff u).1 h2
    rw [Bool.eq_iff_iff, rightB_iff, fitsB_iff]
    simp only [subV]; omega
  have e : okB v u (wsubV v u) = takeB v u := by
    unfold okB takeB
    cases h1 : rightB v <;> cases h2 : rightB u <;> simp only [Bool.false_and, Bool.and_false, Bool.true_and]
    rw [key h1 h2, key2 h1 h2]
  refine ⟨e, ?_⟩
  unfold okV takeV
  rw [e]
  by_cases h : takeB v u = true
  · rw [if_pos h, if_pos h]
    have h1 := (takeB_iff v u).1 h
    exact key h1.1 h1.2.1
  · rw [if_neg h, if_neg h]
end Go.Proofs.Ytkahdmhgfojbiaa
