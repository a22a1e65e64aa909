/- The developers' numbers of an event, in memory: what is right by the place of a number, the functions that tell it, a number within limits, the numbers of a Res, what 'ahead' does. Conditions: as stated. -/
import Derived.Laws.EntriesVeiled
import Derived.Test.YtgooepfhapaenaaGreatHoldV
import Derived.Test.YtgooepfhapaenaaGreatEvtT
import Derived.Test.YtgooepfhapaenaaGreatNumB
import Derived.Test.YtgooepfhapaenaaGreatResB
import Derived.Laws.IdiomCopy
import Derived.Laws.MakeOwn
import Derived.Test.YtgooepfhapaenaaGreatFv
namespace Go.Proofs.YtgooepfhapaenaaGreat
open Go.ChangeShapes Go.WideShapes Go.ChangeAt Go.RowKit
set_option linter.unusedVariables false
set_option maxRecDepth 100000
set_option linter.unusedSimpArgs false

/-! ### Plain -/
/-- The number in a cell of an event is right. -/
def okAt (v : Evt) (j : Nat) : Bool := if j = 1 then rightN v.n 0 15 else if j = 2 then rightN v.j 1 2147483647 else if j = 3 then rightN v.i 1 2147483647 else if j = 4 then rightN v.p 0 99 else rightB v.r
def intsE (v : Evt) : List Int := [v.k, v.n, v.j, v.i, v.p, v.r.a, v.r.b, v.r.c]
/-- The cells of a kind's numbers, in order. -/
def idxE (k : Int) : List Nat := if k = 1 ∨ k = 2 then [1, 3, 5, 6, 7] else if k = 3 then [1, 3] else if k = 4 then [2, 4, 5, 6, 7] else if k = 5 then [2] else if k = 6 ∨ k = 7 then [2, 1, 3] else []
/-! ### Functions that tell whether a number is right -/
abbrev pt (b o : Nat) : Value := .pointer (some ⟨b, o, none⟩)
def FnOk (K : Nat → Prop) (b j : Nat) (F : Value) (w : World) : Prop :=
  (∃ a l m lo hi, K a ∧ K l ∧ K m ∧ F = .func (.func 71) #[] #[pt a 0, pt l 0, pt m 0] ∧ w.heap[a]? = some (.cells #[pt b j] 61 (0, 0)) ∧ w.heap[l]? = some (.cells #[.int .i64 lo] 3 (0, 0)) ∧
    w.heap[m]? = some (.cells #[.int .i64 hi] 3 (0, 0)) ∧ j < 8 ∧ ∀ v : Evt, okAt v j = rightN ((intsE v).getD j 0) lo hi) ∨
  (∃ a, K a ∧ F = .func (.func 72) #[] #[pt a 0] ∧ w.heap[a]? = some (.cells #[pt b 5] 90 (0, 0)) ∧ ∀ v : Evt, okAt v j = rightB v.r)
theorem FnOk.keep {K K' : Nat → Prop} {b j : Nat} {F : Value} {w w' : World} (h : FnOk K b j F w) (hk : ∀ a, K a → K' a) (hb : ∀ a o, K a → w.heap[a]? = some o → w'.heap[a]? = some o) : FnOk K' b j F w' := by
  rcases h with ⟨a, l, m, lo, hi, k1, k2, k3, e, h1, h2, h3, h4⟩ | ⟨a, k1, e, h1, h2⟩
  · exact .inl ⟨a, l, m, lo, hi, hk _ k1, hk _ k2, hk _ k3, e, hb _ _ k1 h1, hb _ _ k2 h2, hb _ _ k3 h3, h4⟩
  · exact .inr ⟨a, hk _ k1, e, hb _ _ k1 h1, h2⟩
theorem FnOk.below {K : Nat → Prop} {b j : Nat} {F : Value} {w w' : World} (h : FnOk K b j F w) (hb : Below w.heap.size w w') : FnOk K b j F w' :=
  h.keep (fun _ h => h) fun a o _ ho => blk_below hb ho (lt_of_block ho)
theorem FnOk.one {K : Nat → Prop} {b j : Nat} {F : Value} {w : World} (h : FnOk K b j F w) : F.oneCell' = true := by
  rcases h with ⟨a, l, m, lo, hi, k1, k2, k3, e, h1, h2, h3, h4⟩ | ⟨a, k1, e, h1, h2⟩ <;> subst e <;> rfl
/-! ### Results that are structs -/
def rowDesc : TypeDesc → Bool
  | .struct _ | .array _ _ => true
  | _ => false
theorem cell_one {P : Program} {fn : Func} {t : Tmp} {ty : TypeId} (hr : fn.results = #[.cell t ty]) {tmps : Array Value} {w : World} {g : Nat} {cs : Array Value} (hg : w.heap[g]? = some (.cells cs ty (0, 0))) 
    (hd : (P.underlying ty).any rowDesc = true) (hi : (P.info? ty).map (·.size) = some cs.size) (hp : tmps.getD t undef = .pointer (some ⟨g, 0, none⟩)) :
    (results fn tmps).run P w = .ok (.agg cs) w := by
  obtain ⟨d, hu, hd⟩ : ∃ d, P.underlying ty = some d ∧ rowDesc d = true := by
    cases h : P.underlying ty with
    | none => rw [h] at hd; cases hd
    | some d => rw [h] at hd; exact ⟨d, rfl, hd⟩
  have hl := run_loadVar_row (P := P) w g ty ty cs (0, 0) d hg hu (by cases d <;> first | rfl | cases hd) hi
  have hp' : tmps[t]?.getD undef = .pointer (some ⟨g, 0, none⟩) := by simpa using hp
  simp [results, hr, hp', asAddr, hl]
theorem cell_two {P : Program} {fn : Func} {t s : Tmp} {ty : TypeId} (hr : fn.results = #[.cell t ty, .tmp s]) {tmps : Array Value} {w : World} {g : Nat} {cs : Array Value} (hg : w.heap[g]? = some (.cells cs ty (0, 0))) 
    (hd : (P.underlying ty).any rowDesc = true) (hi : (P.info? ty).map (·.size) = some cs.size) (hp : tmps.getD t undef = .pointer (some ⟨g, 0, none⟩)) :
    (results fn tmps).run P w = .ok (.tuple #[.agg cs, tmps.getD s undef]) w := by
  obtain ⟨d, hu, hd⟩ : ∃ d, P.underlying ty = some d ∧ rowDesc d = true := by
    cases h : P.underlying ty with
    | none => rw [h] at hd; cases hd
    | some d => rw [h] at hd; exact ⟨d, rfl, hd⟩
  have hl := run_loadVar_row (P := P) w g ty ty cs (0, 0) d hg hu (by cases d <;> first | rfl | cases hd) hi
  have hp' : tmps[t]?.getD undef = .pointer (some ⟨g, 0, none⟩) := by simpa using hp
  simp [results, hr, hp', asAddr, hl]
/-! ### within -/
theorem blk_at (w : World) (o : Obj) (n : Nat) (h : n = w.heap.size) : (w.alloc o).heap[n]? = some o := by subst h; exact blk_new w o
theorem within_any (b j : Nat) (lo hi : Int) (w : World) (hj : j < 8) (hk : ∀ v : Evt, okAt v j = rightN ((intsE v).getD j 0) lo hi) :
    Calls Tryz.prog 60 #[pt b j, .int .i64 lo, .int .i64 hi] w fun e w' => ∃ F, e = .returned (.agg #[pt b j, F]) ∧ FnOk (fun a => w.heap.size ≤ a ∧ a < w'.heap.size) b j F w' ∧ Below w.heap.size w w' := by
  have hmf : ∀ (fn : Fn) (first cap : Array Value) (w : World), (Instr.makeFunc fn first cap).run Tryz.prog w = .ok (.func fn first cap) w := fun _ _ _ _ => rfl
  have HK := Lib.hid hk
  clear hk
  go_enter Tryz.func60, Tryz.ntmps60
  go_wp2_with fail
  have HB : Below w.heap.size w ((((w.alloc (Obj.cells #[pt b j] 61)).alloc (Obj.cells #[.int .i64 lo] 3)).alloc (Obj.cells #[.int .i64 hi] 3)).alloc (Obj.cells #[pt b j, .func (.func 71) #[] #[pt w.heap.size 0, pt (w.heap.size + 1) 0, pt (w.heap.size + 1 + 1) 0]] 63)) :=
    ((((Below.refl _ _).alloc (Nat.le_refl _) _).alloc (by simp) _).alloc (by simp; omega) _).alloc (by simp; omega) _
  refine bodyPost_ret (cell_one rfl (blk_at _ _ (w.heap.size + 1 + 1 + 1) (by simp)) (by kernel_rfl) (by kernel_rfl) rfl) rfl ⟨_, rfl, ?_, HB⟩
  refine .inl ⟨w.heap.size, w.heap.size + 1, w.heap.size + 1 + 1, lo, hi, ⟨by omega, by simp <;> omega⟩, ⟨by omega, by simp <;> omega⟩, ⟨by omega, by simp <;> omega⟩, rfl, ?_, ?_, ?_, hj, HK.out⟩
  · exact blk_old _ (blk_old _ (blk_old _ (blk_new w _)))
  · exact blk_old _ (blk_old _ (blk_at _ _ _ (by simp)))
  · exact blk_old _ (blk_at _ _ _ (by simp))
theorem evt_at {w : World} {b : Nat} {v : Evt} {t : TypeId} (h : w.heap[b]? = some (.cells v.cells t (0, 0))) (j : Nat) (hj : j < 8) : w.cell? ⟨b, j, none⟩ = some (.int .i64 ((intsE v).getD j 0)) := by
  obtain ⟨e0, e1, e2, e3, e4, e5, e6, e7⟩ := evt_cells h
  rcases (by omega : j = 0 ∨ j = 1 ∨ j = 2 ∨ j = 3 ∨ j = 4 ∨ j = 5 ∨ j = 6 ∨ j = 7) with rfl | rfl | rfl | rfl | rfl | rfl | rfl | rfl <;> assumption
theorem valid1_any (b j a l m : Nat) (x lo hi : Int) (w : World) (h1 : w.heap[a]? = some (.cells #[pt b j] 61 (0, 0))) (h2 : w.heap[l]? = some (.cells #[.int .i64 lo] 3 (0, 0))) (h3 : w.heap[m]? = some (.cells #[.int .i64 hi] 3 (0, 0))) (hx : w.cell? ⟨b, j, none⟩ = some (.int .i64 x)) :
    Calls Tryz.prog 71 #[pt a 0, pt l 0, pt m 0] w fun e w' => e = .returned (.bool (rightN x lo hi)) ∧ Below w.heap.size w w' := by
  have hbs : b < w.heap.size := by
    unfold World.cell? at hx
    rcases Nat.lt_or_ge b w.heap.size with h | h
    · exact h
    · simp [h] at hx
  have C := Lib.hid fun w' => right_any x lo hi w'
  generalize rightN x lo hi = r at *
  have c1 := cell_of_one h1
  have c2 := cell_of_one h2
  have c3 := cell_of_one h3
  have HA := lt_of_block h1
  have HL := lt_of_block h2
  have HM := lt_of_block h3
  have HF := Lib.hid (show ∀ w', Below w.heap.size w w' → w'.cell? ⟨a, 0, none⟩ = some (pt b j) ∧ w'.cell? ⟨l, 0, none⟩ = some (.int .i64 lo) ∧ w'.cell? ⟨m, 0, none⟩ = some (.int .i64 hi) ∧ w'.cell? ⟨b, j, none⟩ = some (.int .i64 x) from
    fun w' hb => ⟨((bcell hb).1 a 0 HA).trans c1, ((bcell hb).1 l 0 HL).trans c2, ((bcell hb).1 m 0 HM).trans c3, ((bcell hb).1 b j hbs).trans hx⟩)
  clear h1 h2 h3 c1 c2 c3 hx HA HL HM
  go_enter Tryz.func71, Tryz.ntmps71
  go_wp2_with fail
  refine wp_region_hold (fun w' => Below w.heap.size w w') (by kernel_rfl) (by kernel_rfl) ⟨rfl, rfl, rfl, Nat.le_refl _, fun _ _ => rfl⟩ ?_
  repeat
    first
    | (refine hold_val (v := ?_) (by rfl) ?_ ?_
       rotate_left
       · (intro w' hS
          obtain ⟨_, _, _, _⟩ := HF.out w' hS
          go_simp
          try with_reducible rfl)
       simp only [Act.put, List.setIfInBounds_toArray, List.set_cons_zero, List.set_cons_succ])
    | ((refine hold_call (by rfl) ?_ (fun w' hS => (C.out w').mono fun e w2 ⟨he, hq⟩ => ⟨he, hq ▸ hS⟩) ?_; focus (intro w' hS; go_simp; done))
       simp only [Act.put, List.setIfInBounds_toArray, List.set_cons_zero, List.set_cons_succ])
  refine hold_nil (fun w' hS => ?_)
  go_wp2_with fail
  go_ret
  exact ⟨rfl, by assumption⟩
theorem valid2_any (b a : Nat) (v : Evt) (t : TypeId) (w : World) (hv : v.r.ok) (h1 : w.heap[a]? = some (.cells #[pt b 5] 90 (0, 0))) (hx : w.heap[b]? = some (.cells v.cells t (0, 0))) :
    Calls Tryz.prog 72 #[pt a 0] w fun e w' => e = .returned (.bool (rightB v.r)) ∧ Below w.heap.size w w' := by
  have c1 := cell_of_one h1
  obtain ⟨e0, e1, e2, e3, e4, e5, e6, e7⟩ := evt_cells hx
  have C := Lib.hid (qright_any v.r w hv)
  unfold V3.val at C
  generalize rightB v.r = r at *
  clear h1 hx
  go_enter Tryz.func72, Tryz.ntmps72
  go_wp2_with fail
  refine C.out.mono ?_
  rintro e w2 ⟨rfl, hb⟩
  have HB := Lib.hid hb
  clear hb
  go_wp2_with fail
  go_ret
  exact ⟨rfl, HB.out⟩
/-- What such a function tells. -/
theorem fn_valid {K : Nat → Prop} {b j : Nat} {F : Value} {w : World} {v : Evt} {t : TypeId} (hF : FnOk K b j F w) (he : w.heap[b]? = some (.cells v.cells t (0, 0))) (hv : v.ok) :
    ∃ f cs, F = .func (.func f) #[] cs ∧ (∀ w, (callFunc f cs).run Tryz.prog w = .ok (.enter f cs) w) ∧ Calls Tryz.prog f cs w fun e w' => e = .returned (.bool (okAt v j)) ∧ Below w.heap.size w w' := by
  rcases hF with ⟨a, l, m, lo, hi, k1, k2, k3, e, h1, h2, h3, hj, h4⟩ | ⟨a, k1, e, h1, h2⟩
  · refine ⟨_, _, e, fun w => by kernel_rfl, ?_⟩
    rw [h4 v]
    exact valid1_any b j a l m _ lo hi w h1 h2 h3 (evt_at he j hj)
  · refine ⟨_, _, e, fun w => by kernel_rfl, ?_⟩
    rw [h2 v]
    exact valid2_any b a v t w hv.2.2.2.2.2 h1 he
end Go.Proofs.YtgooepfhapaenaaGreat
/- vector, the numbers of a Res; 'ahead', by which the list of numbers is filled from its end. Conditions: as stated. -/
namespace Go.Proofs.YtgooepfhapaenaaGreat
open Go.ChangeShapes Go.WideShapes Go.ChangeAt Go.RowKit
set_option linter.unusedVariables false
set_option maxRecDepth 100000
set_option linter.unusedSimpArgs false

/-- The list of a Res's numbers, k of them laid. -/
def vecC (b : Nat) (F : Value) (k : Nat) : Array Value := #[if 0 < k then pt b 5 else .pointer none, if 0 < k then F else .nilFunc, if 1 < k then pt b 6 else .pointer none, if 1 < k then F else .nilFunc, if 2 < k then pt b 7 else .pointer none, if 2 < k then F else .nilFunc]
theorem make3_run (w : World) : (Instr.makeSlice 58 (.int .i64 3) (.int .i64 3)).run Tryz.prog w = .ok (.slice (some ⟨w.heap.size, 0, none⟩) 3 3) (w.alloc (.cells #[.pointer none, .nilFunc, .pointer none, .nilFunc, .pointer none, .nilFunc] 63)) := by
  have h : (Tryz.prog.info? 63).isSome = true := by kernel_rfl
  have hr := run_make (P := Tryz.prog) w 58 63 ((Tryz.prog.info? 63).get h) (.agg #[.pointer none, .nilFunc]) (by kernel_rfl) (by simp) (by kernel_rfl) .i64 .i64 3 3 (by omega) (by omega)
    (by rw [show ((Tryz.prog.info? 63).get h).bytes = 16 from by kernel_rfl]; omega) (by omega)
  rw [show ((Tryz.prog.info? 63).get h).size = 2 from by kernel_rfl] at hr
  rw [show madeCells (Value.agg #[.pointer none, .nilFunc]).cells ((3 : Int).toNat * 2) = #[.pointer none, .nilFunc, .pointer none, .nilFunc, .pointer none, .nilFunc] from by kernel_rfl] at hr
  exact hr
theorem vector_any (b : Nat) (w : World) :
    Calls Tryz.prog 62 #[pt b 5] w fun e w' => ∃ F, e = .returned (.slice (some ⟨w.heap.size + 1, 0, none⟩) 3 3) ∧ w'.heap[w.heap.size + 1]? = some (.cells #[pt b 5, F, pt b 6, F, pt b 7, F] 63 (0, 0)) ∧
      (∀ j, 5 ≤ j → FnOk (fun a => a = w.heap.size) b j F w') ∧ Below w.heap.size w w' := by
  have hmf : ∀ (fn : Fn) (first cap : Array Value) (w : World), (Instr.makeFunc fn first cap).run Tryz.prog w = .ok (.func fn first cap) w := fun _ _ _ _ => rfl
  have hB : Below w.heap.size w ((w.alloc (Obj.cells #[pt b 5] 90)).alloc (Obj.cells (vecC b (.func (.func 72) #[] #[pt w.heap.size 0]) 0) 63)) := ((Below.refl _ _).alloc (Nat.le_refl _) _).alloc (by simp) _
  have hX : ((w.alloc (Obj.cells #[pt b 5] 90)).alloc (Obj.cells (vecC b (.func (.func 72) #[] #[pt w.heap.size 0]) 0) 63)).heap[w.heap.size]? = some (.cells #[pt b 5] 90 (0, 0)) := blk_old _ (blk_new w _)
  have hY : ((w.alloc (Obj.cells #[pt b 5] 90)).alloc (Obj.cells (vecC b (.func (.func 72) #[] #[pt w.heap.size 0]) 0) 63)).heap[w.heap.size + 1]? = some (.cells (vecC b (.func (.func 72) #[] #[pt w.heap.size 0]) 0) 63 (0, 0)) := blk_at _ _ _ (by simp)
  have e0 : vecC b (.func (.func 72) #[] #[pt w.heap.size 0]) 0 = #[.pointer none, .nilFunc, .pointer none, .nilFunc, .pointer none, .nilFunc] := rfl
  rw [e0] at hB hX hY
  have HB := Lib.hid hB
  have HX := Lib.hid hX
  have HY := Lib.hid hY
  clear hB hX hY e0
  have HMK := Lib.hid make3_run
  go_enter Tryz.func62, Tryz.ntmps62
  have hmk := HMK.out
  go_wp2_with fail
  generalize (w.alloc (Obj.cells #[pt b 5] 90)).alloc (Obj.cells #[.pointer none, .nilFunc, .pointer none, .nilFunc, .pointer none, .nilFunc] 63) = w1 at *
  go_loopw [8] (fun i wr => ∃ k : Nat, k ≤ 3 ∧ i = .int .i64 k ∧ wr.heap[w.heap.size]? = some (.cells #[pt b 5] 90 (0, 0)) ∧ wr.heap[w.heap.size + 1]? = some (.cells (vecC b (.func (.func 72) #[] #[pt w.heap.size 0]) k) 63 (0, 0)) ∧ Below w.heap.size w wr) (fun i _ => 3 - (intOf i).toNat)
  case atStart => exact ⟨0, by omega, rfl, HX.out, HY.out, HB.out⟩
  case round =>
    obtain ⟨k, hk, rfl, h1, h2, h3⟩ := hrel
    by_cases hlt : k < 3
    · have HN1 := Lib.hid (show ∀ v v', ((wr.setCell ⟨w.heap.size + 1, 2 * k, none⟩ v).setCell ⟨w.heap.size + 1, 2 * k + 1, none⟩ v').heap[w.heap.size]? = some (.cells #[pt b 5] 90 (0, 0)) from fun v v' => blk_far _ (blk_far _ h1 (by simp)) (by simp))
      have HN2 := Lib.hid (show ∀ v v', ((wr.setCell ⟨w.heap.size + 1, 2 * k, none⟩ v).setCell ⟨w.heap.size + 1, 2 * k + 1, none⟩ v').heap[w.heap.size + 1]? = some (.cells (((vecC b (.func (.func 72) #[] #[pt w.heap.size 0]) k).setIfInBounds (2 * k) v).setIfInBounds (2 * k + 1) v') 63 (0, 0)) from fun v v' => blk_set (blk_set h2 _ _) _ _)
      have HN3 := Lib.hid (show ∀ v v', Below w.heap.size w ((wr.setCell ⟨w.heap.size + 1, 2 * k, none⟩ v).setCell ⟨w.heap.size + 1, 2 * k + 1, none⟩ v') from fun v v' => (h3.setCell (p := ⟨w.heap.size + 1, 2 * k, none⟩) (Nat.le_succ _) v).setCell (p := ⟨w.heap.size + 1, 2 * k + 1, none⟩) (Nat.le_succ _) v')
      have c0 := cell_of_one h1
      have f1 := fun o => blk_free h2 o
      have g1 := blk_cell h2 (2 * k)
      have g2 := blk_cell h2 (2 * k + 1)
      clear h1 h2 h3 hk
      rcases (by omega : k = 0 ∨ k = 1 ∨ k = 2) with rfl | rfl | rfl
      all_goals
        (try simp only [Nat.reduceMul, Nat.reduceAdd] at HN1 HN2 HN3 g1 g2)
        simp [vecC] at g1 g2
        go_wp2_with fail
      · go_roundw
        case rel => exact ⟨1, by omega, rfl, HN1.out _ _, HN2.out _ _, HN3.out _ _⟩
        case measure => simp [intOf]
      · go_roundw
        case rel => exact ⟨2, by omega, rfl, HN1.out _ _, HN2.out _ _, HN3.out _ _⟩
        case measure => simp [intOf]
      · go_roundw
        case rel => exact ⟨3, by omega, rfl, HN1.out _ _, HN2.out _ _, HN3.out _ _⟩
        case measure => simp [intOf]
    · obtain rfl : k = 3 := by omega
      have HX3 := Lib.hid h1
      have HY3 := Lib.hid h2
      have HB3 := Lib.hid h3
      clear h1 h2 h3
      go_wp2_with fail
      go_ret
      exact ⟨_, rfl, HY3.out, fun j hj => .inr ⟨w.heap.size, rfl, rfl, HX3.out, fun v => by unfold okAt; rw [if_neg (by omega), if_neg (by omega), if_neg (by omega), if_neg (by omega)]⟩, HB3.out⟩

/-! ### copy, of elements of any size -/
theorem addr_add_n (b o k : Nat) : (⟨b, o, none⟩ : Addr).add k = ⟨b, o + k, none⟩ := by unfold Addr.add; split <;> simp_all
theorem run_copy_many {P : Program} (w : World) (dT sT ty elem : TypeId) (s b o dLen dCap : Nat) (a : Addr) (sLen sCap : Nat) (cs : List Value)
    (hu : P.underlying dT = some (.slice elem)) (hs : (P.info? elem).map (·.size) = some s) (hn : cs.length = Nat.min sLen dLen * s)
    (hsrc : ∀ j v, cs[j]? = some v → w.cell? (a.add j) = some v) (hc : ∀ j, j < cs.length → (w.cell? ⟨b, o + j, none⟩).isSome = true) (hf : ∀ j, j < cs.length → w.frozen? ⟨b, o + j, none⟩ = false) (h1 : ∀ v ∈ cs, v.oneCell' = true) :
    (Builtin.copy_ #[dT, sT] ty #[.slice (some ⟨b, o, none⟩) dLen dCap, .slice (some a) sLen sCap]).run P w = .ok (goInt (Nat.min sLen dLen)) (w.setCells b o cs) := by
  have hl := run_loadCells_list (P := P) w a cs hsrc
  have hst := run_storeCells_cells (P := P) b o cs 0 w (by simpa using hc) (by simpa using hf) h1
  cases hq : P.info? elem with
  | none => simp [hq] at hs
  | some i =>
    have hi : i.size = s := by simpa [hq] using hs
    simp [Builtin.copy_, run_underlying hu, Builtin.lenOf, Builtin.firstCells, sizeOf, typeInfo, hq, hi, ← hn, hl, hst]
theorem setCells_row {b : Nat} {t : TypeId} : ∀ (vs : List Value) (o : Nat) (w : World) (R : Array Value), w.heap[b]? = some (.cells R t (0, 0)) → o + vs.length ≤ R.size →
    ∃ R', (w.setCells b o vs).heap[b]? = some (.cells R' t (0, 0)) ∧ R'.size = R.size ∧ ∀ j, R'[j]? = if o ≤ j ∧ j < o + vs.length then vs[j - o]? else R[j]?
  | [], o, w, R, h, hs => ⟨R, h, rfl, fun j => by rw [if_neg (by simp)]⟩
  | v :: r, o, w, R, h, hs => by
    have h1 : (w.setCell ⟨b, o, none⟩ v).heap[b]? = some (.cells (R.setIfInBounds o v) t (0, 0)) := blk_set h o v
    obtain ⟨R', h2, h3, h4⟩ := setCells_row r (o + 1) _ _ h1 (by simp at hs ⊢; omega)
    refine ⟨R', h2, by simpa using h3, fun j => ?_⟩
    rw [h4 j]
    simp only [List.length_cons] at hs ⊢
    by_cases hj : j = o
    · subst hj
      rw [if_neg (by omega), if_pos (by omega), Nat.sub_self, Array.getElem?_setIfInBounds_self_of_lt (by omega)]; rfl
    · by_cases hj2 : o + 1 ≤ j ∧ j < o + 1 + r.length
      · rw [if_pos hj2, if_pos (by omega), show j - o = (j - (o + 1)) + 1 by omega]; rfl
      · rw [if_neg hj2, if_neg (by omega), Array.getElem?_setIfInBounds_ne (by omega)]
theorem setCells_far (b : Nat) : ∀ (vs : List Value) (o : Nat) (w : World) (k : Nat), k ≠ b → (w.setCells b o vs).heap[k]? = w.heap[k]?
  | [], _, _, _, _ => rfl
  | v :: r, o, w, k, h => by rw [World.setCells, setCells_far b r _ _ k h]; exact Below.heap_setCell _ _ _ _ h
theorem setCells_all (b : Nat) : ∀ (vs : List Value) (o : Nat) (w : World), (w.setCells b o vs).os = w.os ∧ (w.setCells b o vs).tape = w.tape ∧ (w.setCells b o vs).output = w.output ∧ (w.setCells b o vs).heap.size = w.heap.size
  | [], _, _ => ⟨rfl, rfl, rfl, rfl⟩
  | v :: r, o, w => by
    obtain ⟨h1, h2, h3, h4⟩ := setCells_all b r (o + 1) (w.setCell ⟨b, o, none⟩ v)
    exact ⟨h1, h2, h3, h4.trans (by simp [World.setCell])⟩
theorem run_sliceAt_arr_l {P : Program} (w : World) (t e : TypeId) (n s : Nat) (ht : P.underlying t = some (.array n e)) (hs : ∀ w, (sizeOf e).run P w = .ok s w)
    (a : Addr) (k : IntKind) (l : Nat) (h1 : l ≤ n) :
    (Instr.sliceAt t (.pointer (some a)) (some (.int k (l : Int))) none none).run P w = .ok (.slice (some (if n = l then a else a.add (l * s))) (n - l) (n - l)) w := by
  have h0 : (0 : Int) ≤ (l : Int) ∧ (l : Int) ≤ (n : Int) := by omega
  simp [Instr.sliceAt, run_underlying ht, Instr.sliceBounds, run_sliceBound, Instr.sureAddr, hs, h0.1, h1]
/-! ### ahead -/
/-- The list from number f on: the numbers of those cells. -/
def Room (K : Nat → Prop) (b fb rb f : Nat) (ks : List Nat) (w : World) : Prop :=
  w.heap[fb]? = some (.cells #[.int .i64 f] 3 (0, 0)) ∧ f + ks.length = 5 ∧ ∃ R, w.heap[rb]? = some (.cells R 87 (0, 0)) ∧ R.size = 10 ∧
    ∀ i j, ks[i]? = some j → ∃ F, R[2 * f + 2 * i]? = some (pt b j) ∧ R[2 * f + 2 * i + 1]? = some F ∧ FnOk K b j F w
/-- A slice of numbers, its block whole. -/
def Src (K : Nat → Prop) (b lb : Nat) (ks : List Nat) (w : World) : Prop :=
  ∃ R, w.heap[lb]? = some (.cells R 63 (0, 0)) ∧ R.size = 2 * ks.length ∧ ∀ i j, ks[i]? = some j → ∃ F, R[2 * i]? = some (pt b j) ∧ R[2 * i + 1]? = some F ∧ FnOk K b j F w
theorem ahead_any {K : Nat → Prop} (b lb fb rb f m cap : Nat) (js ks : List Nat) (w : World) (hjm : js.length = m) (h1 : 0 < m) (h2 : m ≤ f) (hK : ∀ a, K a → a ≠ fb ∧ a ≠ rb) (hR : Room K b fb rb f ks w) (hS : Src K b lb js w) (n1 : lb ≠ fb) (n2 : lb ≠ rb) (n3 : fb ≠ rb) :
    Calls Tryz.prog 61 #[.slice (some ⟨lb, 0, none⟩) m cap, pt fb 0, pt rb 0] w fun e w' => e = .returned (.tuple #[]) ∧ Room K b fb rb (f - m) (js ++ ks) w' ∧
      (∀ a, a ≠ fb → a ≠ rb → w'.heap[a]? = w.heap[a]?) ∧ (∀ B, B ≤ fb → B ≤ rb → Below B w w') ∧ w'.heap.size = w.heap.size := by
  obtain ⟨hf, hfk, R, hr, hR10, hks⟩ := hR
  obtain ⟨C, hl, hC, hjs⟩ := hS
  have hlC : C.toList.length = 2 * m := by rw [Array.length_toList, hC, hjm]
  have q1 : IntKind.i64.wrap ((f : Int) - (m : Int)) = ((f - m : Nat) : Int) := by rw [IntWalk.i64_in _ (by omega)]; omega
  -- the two stores
  have hf1 : (w.setCell ⟨fb, 0, none⟩ (.int .i64 ((f - m : Nat) : Int))).heap[fb]? = some (.cells #[.int .i64 ((f - m : Nat) : Int)] 3 (0, 0)) := blk_set hf 0 _
  have hr1 : (w.setCell ⟨fb, 0, none⟩ (.int .i64 ((f - m : Nat) : Int))).heap[rb]? = some (.cells R 87 (0, 0)) := blk_far _ hr (Ne.symm n3)
  have hl1 : (w.setCell ⟨fb, 0, none⟩ (.int .i64 ((f - m : Nat) : Int))).heap[lb]? = some (.cells C 63 (0, 0)) := blk_far _ hl n1
  have hsz1 : (w.setCell ⟨fb, 0, none⟩ (.int .i64 ((f - m : Nat) : Int))).heap.size = w.heap.size := by simp [World.setCell]
  have hfar1 : ∀ a, a ≠ fb → (w.setCell ⟨fb, 0, none⟩ (.int .i64 ((f - m : Nat) : Int))).heap[a]? = w.heap[a]? := fun a h => Below.heap_setCell _ _ _ _ h
  have hb1 : ∀ B, B ≤ fb → Below B w (w.setCell ⟨fb, 0, none⟩ (.int .i64 ((f - m : Nat) : Int))) := fun B h => (Below.refl _ _).setCell (p := ⟨fb, 0, none⟩) h _
  have c0 := cell_of_one hf
  have f0 := free_of_one hf
  have c1 := cell_of_one hf1
  generalize hw1 : w.setCell ⟨fb, 0, none⟩ (.int .i64 ((f - m : Nat) : Int)) = w1 at *
  obtain ⟨R', hr2, hR2, hRj⟩ := setCells_row C.toList (2 * (f - m)) w1 R hr1 (by omega)
  have hone : ∀ v ∈ C.toList, v.oneCell' = true := by
    intro v hv
    obtain ⟨i, hi, rfl⟩ := List.mem_iff_getElem.1 hv
    have hij : i / 2 < js.length := by omega
    obtain ⟨F, g1, g2, g3⟩ := hjs (i / 2) _ (List.getElem?_eq_getElem hij)
    rcases (by omega : i = 2 * (i / 2) ∨ i = 2 * (i / 2) + 1) with e | e
    · rw [← e] at g1
      have : C.toList[i]? = some (pt b js[i / 2]) := by rw [Array.getElem?_toList]; exact g1
      rw [List.getElem?_eq_getElem hi] at this
      rw [Option.some.inj this]; rfl
    · rw [← e] at g2
      have : C.toList[i]? = some F := by rw [Array.getElem?_toList]; exact g2
      rw [List.getElem?_eq_getElem hi] at this
      rw [Option.some.inj this]; exact g3.one
  have hcp : ∀ ty, (Builtin.copy_ #[58, 58] ty #[.slice (some ⟨rb, 2 * (f - m), none⟩) (5 - (f - m)) (5 - (f - m)), .slice (some ⟨lb, 0, none⟩) m cap]).run Tryz.prog w1 = .ok (goInt m) (w1.setCells rb (2 * (f - m)) C.toList) := fun ty => by
    have h := run_copy_many (P := Tryz.prog) w1 58 58 ty 63 2 rb (2 * (f - m)) (5 - (f - m)) (5 - (f - m)) ⟨lb, 0, none⟩ m cap C.toList (by kernel_rfl) (by kernel_rfl) (by rw [hlC]; rw [show Nat.min m (5 - (f - m)) = m by exact Nat.min_eq_left (by omega)]; omega)
      (fun j v hv => by
        rw [addr_add_n, Nat.zero_add]
        rw [blk_cell hl1 j, ← Array.getElem?_toList]; exact hv)
      (fun j hj => by rw [blk_cell hr1]; simp; omega) (fun j hj => blk_free hr1 _) hone
    rw [show Nat.min m (5 - (f - m)) = m by exact Nat.min_eq_left (by omega)] at h
    exact h
  have hsl : (Instr.sliceAt 87 (pt rb 0) (some (.int .i64 ((f - m : Nat) : Int))) none none).run Tryz.prog w1 = .ok (.slice (some ⟨rb, 2 * (f - m), none⟩) (5 - (f - m)) (5 - (f - m))) w1 := by
    have h := run_sliceAt_arr_l (P := Tryz.prog) w1 87 63 5 2 (by kernel_rfl) (fun w => by kernel_rfl) ⟨rb, 0, none⟩ .i64 (f - m) (by omega)
    rw [if_neg (by omega), addr_add_n, Nat.zero_add, Nat.mul_comm] at h
    exact h
  obtain ⟨s1, s2, s3, s4⟩ := setCells_all rb C.toList (2 * (f - m)) w1
  have hfar2 := setCells_far rb C.toList (2 * (f - m)) w1
  have hfin : Room K b fb rb (f - m) (js ++ ks) (w1.setCells rb (2 * (f - m)) C.toList) ∧ (∀ a, a ≠ fb → a ≠ rb → (w1.setCells rb (2 * (f - m)) C.toList).heap[a]? = w.heap[a]?) ∧ (∀ B, B ≤ fb → B ≤ rb → Below B w (w1.setCells rb (2 * (f - m)) C.toList)) ∧ (w1.setCells rb (2 * (f - m)) C.toList).heap.size = w.heap.size := by
    have hkeep : ∀ a, a ≠ fb → a ≠ rb → (w1.setCells rb (2 * (f - m)) C.toList).heap[a]? = w.heap[a]? := fun a ha hb => (hfar2 a hb).trans (hfar1 a ha)
    refine ⟨⟨(hfar2 fb n3).trans hf1, by simp; omega, R', hr2, by omega, fun i j hij => ?_⟩, hkeep, fun B hB1 hB2 => (hb1 B hB1).trans ⟨s1, s2, s3, Nat.le_of_eq s4.symm, fun k hk => hfar2 k (by omega)⟩, s4.trans hsz1⟩
    by_cases hi : i < js.length
    · rw [List.getElem?_append_left hi] at hij
      obtain ⟨F, g1, g2, g3⟩ := hjs i j hij
      refine ⟨F, ?_, ?_, g3.keep (fun _ h => h) fun a o ha ho => (hkeep a (hK a ha).1 (hK a ha).2).trans ho⟩
      · rw [hRj, if_pos (by omega), show 2 * (f - m) + 2 * i - 2 * (f - m) = 2 * i by omega, Array.getElem?_toList]; exact g1
      · rw [hRj, if_pos (by omega), show 2 * (f - m) + 2 * i + 1 - 2 * (f - m) = 2 * i + 1 by omega, Array.getElem?_toList]; exact g2
    · rw [List.getElem?_append_right (by omega)] at hij
      obtain ⟨F, g1, g2, g3⟩ := hks (i - js.length) j hij
      refine ⟨F, ?_, ?_, g3.keep (fun _ h => h) fun a o ha ho => (hkeep a (hK a ha).1 (hK a ha).2).trans ho⟩
      · rw [hRj, if_neg (by omega), show 2 * (f - m) + 2 * i = 2 * f + 2 * (i - js.length) by omega]; exact g1
      · rw [hRj, if_neg (by omega), show 2 * (f - m) + 2 * i + 1 = 2 * f + 2 * (i - js.length) + 1 by omega]; exact g2
  have HFIN := Lib.hid hfin
  clear hfin hfar2 s1 s2 s3 s4 hRj hR2 hr2 hone hlC hfar1 hsz1 hb1 hl1 hr1 hf1 hjs hks hR10 hr hl hf hC
  generalize w1.setCells rb (2 * (f - m)) C.toList = w2 at *
  go_enter Tryz.func61, Tryz.ntmps61
  go_wp2_with fail
  exact bodyPost_end (results_none rfl _ _ _) rfl ⟨rfl, HFIN.out⟩
end Go.Proofs.YtgooepfhapaenaaGreat
/- The developers' numbers of an event: the list of pointers into it. Conditions: as stated. -/
namespace Go.Proofs.YtgooepfhapaenaaGreat
open Go.ChangeShapes Go.WideShapes Go.ChangeAt Go.RowKit
set_option linter.unusedVariables false
set_option maxRecDepth 100000
set_option linter.unusedSimpArgs false

/-- A number of an event, made since. -/
def NumV (B b j : Nat) (v : Value) (w : World) : Prop := ∃ F, v = .agg #[pt b j, F] ∧ FnOk (fun a => B ≤ a ∧ a < w.heap.size) b j F w
def BoxN (B : Nat) (v : Value) (w : World) : Prop := ∃ g, v = pt g 0 ∧ B ≤ g ∧ w.heap[g]? = some (.cells #[.pointer none, .nilFunc] 63 (0, 0))
theorem NumV.below {B b j : Nat} {v : Value} {w w' : World} (h : NumV B b j v w) (hb : Below w.heap.size w w') : NumV B b j v w' := by
  obtain ⟨F, e, hF⟩ := h
  exact ⟨F, e, hF.keep (fun a ha => ⟨ha.1, Nat.lt_of_lt_of_le ha.2 hb.size⟩) fun a o _ ho => blk_below hb ho (lt_of_block ho)⟩
theorem BoxN.below {B : Nat} {v : Value} {w w' : World} (h : BoxN B v w) (hb : Below w.heap.size w w') : BoxN B v w' := by
  obtain ⟨g, e, h1, h2⟩ := h
  exact ⟨g, e, h1, blk_below hb h2 (lt_of_block h2)⟩
/-- What holds within the two regions that make two numbers each. -/
def J2 (w0 : World) (b j1 j2 : Nat) (m : Nat → Bool) (s : Nat → Value) (w : World) : Prop :=
  Below w0.heap.size w0 w ∧ (m 0 = true → s 0 = pt b 0) ∧ (m 1 = true → s 1 = pt b 0) ∧ (m 2 = true → s 2 = pt b j1) ∧ (m 3 = true → NumV w0.heap.size b j1 (s 3) w) ∧ (m 4 = true → s 4 = pt b 0) ∧ (m 5 = true → s 5 = pt b 0) ∧ (m 6 = true → s 6 = pt b j2) ∧
  (m 7 = true → NumV w0.heap.size b j2 (s 7) w) ∧ (m 8 = true → BoxN w0.heap.size (s 8) w) ∧ (m 9 = true → BoxN w0.heap.size (s 9) w) ∧ (m 8 = true → m 9 = true → s 8 ≠ s 9)
theorem kept_below {w0 w w' : World} (h : Below w0.heap.size w0 w) (hb : Below w.heap.size w w') : Below w0.heap.size w0 w' := h.trans (hb.mono h.size)
theorem J2.step {w0 : World} {b j1 j2 : Nat} {m : Nat → Bool} {s : Nat → Value} {w w' : World} (h : J2 w0 b j1 j2 m s w) (hb : Below w.heap.size w w') : J2 w0 b j1 j2 m s w' := by
  obtain ⟨h0, a0, a1, a2, a3, a4, a5, a6, a7, a8, a9, a10⟩ := h
  exact ⟨kept_below h0 hb, a0, a1, a2, fun h => (a3 h).below hb, a4, a5, a6, fun h => (a7 h).below hb, fun h => (a8 h).below hb, fun h => (a9 h).below hb, a10⟩
set_option maxHeartbeats 1000000 in
theorem J2.lay {w0 : World} {b j1 j2 : Nat} {m : Nat → Bool} {s : Nat → Value} {w : World} (h : J2 w0 b j1 j2 m s w) (j : Nat) (v : Value)
    (h0 : j = 0 → v = pt b 0) (h1 : j = 1 → v = pt b 0) (h2 : j = 2 → v = pt b j1) (h3 : j = 3 → NumV w0.heap.size b j1 v w) (h4 : j = 4 → v = pt b 0) (h5 : j = 5 → v = pt b 0) (h6 : j = 6 → v = pt b j2) (h7 : j = 7 → NumV w0.heap.size b j2 v w)
    (h8 : j = 8 → BoxN w0.heap.size v w ∧ (m 9 = true → v ≠ s 9)) (h9 : j = 9 → BoxN w0.heap.size v w ∧ (m 8 = true → s 8 ≠ v)) : J2 w0 b j1 j2 (fun k => k == j || m k) (updS s j v) w := by
  obtain ⟨hb, a0, a1, a2, a3, a4, a5, a6, a7, a8, a9, a10⟩ := h
  have key : ∀ (k : Nat) (Z : Value → Prop), (j = k → Z v) → (m k = true → Z (s k)) → ((k == j || m k) = true → Z (updS s j v k)) := fun k Z hz hm hk => by
    unfold updS
    by_cases e : k = j
    · rw [if_pos e]; exact hz e.symm
    · rw [if_neg e]; simp [e] at hk; exact hm hk
  refine ⟨hb, key 0 (· = pt b 0) h0 a0, key 1 (· = pt b 0) h1 a1, key 2 (· = pt b j1) h2 a2, key 3 (NumV w0.heap.size b j1 · w) h3 a3, key 4 (· = pt b 0) h4 a4, key 5 (· = pt b 0) h5 a5, key 6 (· = pt b j2) h6 a6, key 7 (NumV w0.heap.size b j2 · w) h7 a7,
    key 8 (BoxN w0.heap.size · w) (fun e => (h8 e).1) a8, key 9 (BoxN w0.heap.size · w) (fun e => (h9 e).1) a9, fun e8 e9 => ?_⟩
  unfold updS
  by_cases k8 : 8 = j
  · subst k8; rw [if_pos rfl, if_neg (by omega)]; simp at e9; exact (h8 rfl).2 e9
  · rw [if_neg k8]; simp [k8] at e8
    by_cases k9 : 9 = j
    · subst k9; rw [if_pos rfl]; exact (h9 rfl).2 e8
    · rw [if_neg k9]; simp [k9] at e9; exact a10 e8 e9
theorem box_new {w0 w : World} (h : Below w0.heap.size w0 w) : BoxN w0.heap.size (pt w.heap.size 0) (w.alloc (.cells #[.pointer none, .nilFunc] 63)) := ⟨_, rfl, h.size, blk_new w _⟩
theorem box_ne {B : Nat} {v : Value} {w : World} (h : BoxN B v w) : pt w.heap.size 0 ≠ v := by
  obtain ⟨g, e, h1, h2⟩ := h
  subst e
  intro hc
  have := lt_of_block h2
  injection hc with hc
  injection hc with hc
  injection hc with hc
  omega
noncomputable def numR (n : Nat) : Code := ((Tryz.f41.body.bind (codeAt n)).getD .skip)
/-- A function that tells lies elsewhere than two blocks of numbers. -/
theorem fn_two {K K' : Nat → Prop} {b j g1 g2 : Nat} {F : Value} {w : World} {v1 v2 v3 v4 : Value} {C1 C2 : Array Value} (h : FnOk K b j F w) (h1 : w.heap[g1]? = some (Obj.cells C1 63 (0, 0))) (h2 : w.heap[g2]? = some (Obj.cells C2 63 (0, 0))) (hK : ∀ a, K a → K' a) :
    FnOk K' b j F ((((w.setCell ⟨g1, 0, none⟩ v1).setCell ⟨g1, 1, none⟩ v2).setCell ⟨g2, 0, none⟩ v3).setCell ⟨g2, 1, none⟩ v4) := by
  have key : ∀ (a : Nat) (C : Array Value) (t : TypeId), t ≠ 63 → w.heap[a]? = some (Obj.cells C t (0, 0)) → ((((w.setCell ⟨g1, 0, none⟩ v1).setCell ⟨g1, 1, none⟩ v2).setCell ⟨g2, 0, none⟩ v3).setCell ⟨g2, 1, none⟩ v4).heap[a]? = some (Obj.cells C t (0, 0)) := fun a C t ht ha => by
    have n1 : a ≠ g1 := fun e => by subst e; rw [h1] at ha; injection ha with ha; injection ha with _ ha; exact ht ha.symm
    have n2 : a ≠ g2 := fun e => by subst e; rw [h2] at ha; injection ha with ha; injection ha with _ ha; exact ht ha.symm
    exact blk_far _ (blk_far _ (blk_far _ (blk_far _ ha n1) n1) n2) n2
  rcases h with ⟨a, l, m, lo, hi, k1, k2, k3, e, h1, h2, h3, h4⟩ | ⟨a, k1, e, h1, h2⟩
  · exact .inl ⟨a, l, m, lo, hi, hK _ k1, hK _ k2, hK _ k3, e, key _ _ 61 (by decide) h1, key _ _ 3 (by decide) h2, key _ _ 3 (by decide) h3, h4⟩
  · exact .inr ⟨a, hK _ k1, e, key _ _ 90 (by decide) h1, h2⟩
set_option maxHeartbeats 4000000 in
theorem two_numbers1 (A : Act) (b : Nat) (w : World) (Q : Exit → Act → World → Prop) (hA : A.tmps.size = 76) (h0 : A.tmps[0]? = some (pt b 0))
    (hQ : ∀ s w' g1 g2 F1 F2, s 8 = pt g1 0 → s 9 = pt g2 0 → g1 ≠ g2 → w.heap.size ≤ g1 → w.heap.size ≤ g2 → w'.heap[g1]? = some (.cells #[pt b 1, F1] 63 (0, 0)) → w'.heap[g2]? = some (.cells #[pt b 3, F2] 63 (0, 0)) →
      FnOk (fun a => w.heap.size ≤ a ∧ a < w'.heap.size) b 1 F1 w' → FnOk (fun a => w.heap.size ≤ a ∧ a < w'.heap.size) b 3 F2 w' → Below w.heap.size w w' → Q .normal (putFrom s 0 [some 10, some 11, some 12, some 13, some 14, some 15, some 16, some 17, some 3, some 4] A) w') : (numR 1).wp Tryz.prog Q A w := by
  conv => arg 2; whnf
  refine wp_region_inv 10 (slotsOf [some 10, some 11, some 12, some 13, some 14, some 15, some 16, some 17, some 3, some 4] A) (J2 w b 1 3) [some 10, some 11, some 12, some 13, some 14, some 15, some 16, some 17, some 3, some 4] rfl (by decide) (by kernel_rfl) (by kernel_rfl) (putFrom_slots _ _) ?_ ?_ ?_
  · exact ⟨⟨rfl, rfl, rfl, Nat.le_refl _, fun _ _ => rfl⟩, by simp, by simp, by simp, by simp, by simp, by simp, by simp, by simp, by simp, by simp, by simp⟩
  · intro j o hj ho m s w1 hm haf hJ
    have rd : ∀ k t, ([some 10, some 11, some 12, some 13, some 14, some 15, some 16, some 17, some 3, some 4] : List (Option Tmp))[k]? = some (some t) → t < A.tmps.size → (putFrom s 0 [some 10, some 11, some 12, some 13, some 14, some 15, some 16, some 17, some 3, some 4] A).tmps[t]? = some (s k) := fun k t h1 h2 => by
      have := putFrom_read s [some 10, some 11, some 12, some 13, some 14, some 15, some 16, some 17, some 3, some 4] 0 k A t (by decide) h1 h2
      rwa [Nat.zero_add] at this
    have e0 := (putFrom_else s 0 [some 10, some 11, some 12, some 13, some 14, some 15, some 16, some 17, some 3, some 4] 0 A (by decide)).trans h0
    have r0 := rd 0 10 rfl (by omega)
    have r1 := rd 1 11 rfl (by omega)
    have r2 := rd 2 12 rfl (by omega)
    have r3 := rd 3 13 rfl (by omega)
    have r4 := rd 4 14 rfl (by omega)
    have r5 := rd 5 15 rfl (by omega)
    have r6 := rd 6 16 rfl (by omega)
    have r7 := rd 7 17 rfl (by omega)
    have r8 := rd 8 3 rfl (by omega)
    have r9 := rd 9 4 rfl (by omega)
    generalize putFrom s 0 [some 10, some 11, some 12, some 13, some 14, some 15, some 16, some 17, some 3, some 4] A = B at *
    obtain ⟨hb, a0, a1, a2, a3, a4, a5, a6, a7, a8, a9, a10⟩ := id hJ
    rcases (by omega : j = 0 ∨ j = 1 ∨ j = 2 ∨ j = 3 ∨ j = 4 ∨ j = 5 ∨ j = 6 ∨ j = 7 ∨ j = 8 ∨ j = 9) with rfl | rfl | rfl | rfl | rfl | rfl | rfl | rfl | rfl | rfl
    all_goals
      simp only [List.getElem?_cons_zero, List.getElem?_cons_succ, Option.some.injEq] at ho
      subst ho
      refine ⟨by rfl, ?_⟩
      simp [Region.binds] at haf
    · refine .inl ⟨pt b 0, w1, by simp [execOp, Act.eval, e0], hJ.lay 0 _ (fun _ => rfl) (by omega) (by omega) (by omega) (by omega) (by omega) (by omega) (by omega) (by omega) (by omega)⟩
    · have q : B.eval (.tmp 10) = pt b 0 := by simp [Act.eval, r0, a0 haf]
      refine .inl ⟨pt b 0, w1, by simp only [execOp, q]; go_simp, hJ.lay 1 _ (by omega) (fun _ => rfl) (by omega) (by omega) (by omega) (by omega) (by omega) (by omega) (by omega) (by omega)⟩
    · have q : B.eval (.tmp 11) = pt b 0 := by simp [Act.eval, r1, a1 haf]
      refine .inl ⟨pt b 1, w1, by simp only [execOp, q]; go_simp, hJ.lay 2 _ (by omega) (by omega) (fun _ => rfl) (by omega) (by omega) (by omega) (by omega) (by omega) (by omega) (by omega)⟩
    · have q : B.eval (.tmp 12) = pt b 1 := by simp [Act.eval, r2, a2 haf]
      refine .inr (.inr ⟨60, #[pt b 1, .int .i64 0, .int .i64 15], by simp only [execOp]; go_simp, ?_⟩)
      refine (within_any b 1 0 15 w1 (by omega) (fun v => rfl)).mono ?_
      rintro e w2 ⟨F, rfl, hF, hw⟩
      exact ⟨_, rfl, (hJ.step hw).lay 3 _ (by omega) (by omega) (by omega) (fun _ => ⟨F, rfl, hF.keep (fun a ha => ⟨Nat.le_trans hb.size ha.1, ha.2⟩) (fun _ _ _ h => h)⟩) (by omega) (by omega) (by omega) (by omega) (by omega) (by omega)⟩
    · refine .inl ⟨pt b 0, w1, by simp [execOp, Act.eval, e0], hJ.lay 4 _ (by omega) (by omega) (by omega) (by omega) (fun _ => rfl) (by omega) (by omega) (by omega) (by omega) (by omega)⟩
    · have q : B.eval (.tmp 14) = pt b 0 := by simp [Act.eval, r4, a4 haf]
      refine .inl ⟨pt b 0, w1, by simp only [execOp, q]; go_simp, hJ.lay 5 _ (by omega) (by omega) (by omega) (by omega) (by omega) (fun _ => rfl) (by omega) (by omega) (by omega) (by omega)⟩
    · have q : B.eval (.tmp 15) = pt b 0 := by simp [Act.eval, r5, a5 haf]
      refine .inl ⟨pt b 3, w1, by simp only [execOp, q]; go_simp, hJ.lay 6 _ (by omega) (by omega) (by omega) (by omega) (by omega) (by omega) (fun _ => rfl) (by omega) (by omega) (by omega)⟩
    · have q : B.eval (.tmp 16) = pt b 3 := by simp [Act.eval, r6, a6 haf.1]
      refine .inr (.inr ⟨60, #[pt b 3, .int .i64 1, .int .i64 2147483647], by simp only [execOp]; go_simp, ?_⟩)
      refine (within_any b 3 1 2147483647 w1 (by omega) (fun v => rfl)).mono ?_
      rintro e w2 ⟨F, rfl, hF, hw⟩
      exact ⟨_, rfl, (hJ.step hw).lay 7 _ (by omega) (by omega) (by omega) (by omega) (by omega) (by omega) (by omega) (fun _ => ⟨F, rfl, hF.keep (fun a ha => ⟨Nat.le_trans hb.size ha.1, ha.2⟩) (fun _ _ _ h => h)⟩) (by omega) (by omega)⟩
    · refine .inl ⟨pt w1.heap.size 0, w1.alloc (.cells #[.pointer none, .nilFunc] 63), by simp only [execOp]; go_simp, (hJ.step ((Below.refl _ _).alloc (Nat.le_refl _) _)).lay 8 _ (by omega) (by omega) (by omega) (by omega) (by omega) (by omega) (by omega) (by omega) (fun _ => ⟨box_new hb, fun h => box_ne (a9 h)⟩) (by omega)⟩
    · refine .inl ⟨pt w1.heap.size 0, w1.alloc (.cells #[.pointer none, .nilFunc] 63), by simp only [execOp]; go_simp, (hJ.step ((Below.refl _ _).alloc (Nat.le_refl _) _)).lay 9 _ (by omega) (by omega) (by omega) (by omega) (by omega) (by omega) (by omega) (by omega) (by omega) (fun _ => ⟨box_new hb, fun h e => box_ne (a8 h) e.symm⟩)⟩
  · intro m s w1 hm hJ
    have rd : ∀ k t, ([some 10, some 11, some 12, some 13, some 14, some 15, some 16, some 17, some 3, some 4] : List (Option Tmp))[k]? = some (some t) → t < A.tmps.size → (putFrom s 0 [some 10, some 11, some 12, some 13, some 14, some 15, some 16, some 17, some 3, some 4] A).tmps[t]? = some (s k) := fun k t h1 h2 => by
      have := putFrom_read s [some 10, some 11, some 12, some 13, some 14, some 15, some 16, some 17, some 3, some 4] 0 k A t (by decide) h1 h2
      rwa [Nat.zero_add] at this
    have r3 := rd 3 13 rfl (by omega)
    have r7 := rd 7 17 rfl (by omega)
    have r8 := rd 8 3 rfl (by omega)
    have r9 := rd 9 4 rfl (by omega)
    obtain ⟨hb, a0, a1, a2, a3, a4, a5, a6, a7, a8, a9, a10⟩ := hJ
    obtain ⟨F1, e3, f1⟩ := a3 (hm 3 (by omega))
    obtain ⟨F2, e7, f2⟩ := a7 (hm 7 (by omega))
    obtain ⟨g1, e8, k1, k2⟩ := a8 (hm 8 (by omega))
    obtain ⟨g2, e9, k3, k4⟩ := a9 (hm 9 (by omega))
    have hne : g1 ≠ g2 := fun e => a10 (hm 8 (by omega)) (hm 9 (by omega)) (by rw [e8, e9, e])
    have hQ' := fun w' => hQ s w' g1 g2 F1 F2 e8 e9 hne k1 k3
    clear hQ
    rw [e3] at r3
    rw [e7] at r7
    rw [e8] at r8
    rw [e9] at r9
    have bs : (putFrom s 0 [some 10, some 11, some 12, some 13, some 14, some 15, some 16, some 17, some 3, some 4] A).tmps.size = 76 := (putFrom_size s _ 0 A).trans hA
    have HQ := Lib.hid hQ'
    clear hQ' rd a0 a1 a2 a3 a4 a5 a6 a7 a8 a9 a10 h0 hm e3 e7 e8 e9
    generalize putFrom s 0 [some 10, some 11, some 12, some 13, some 14, some 15, some 16, some 17, some 3, some 4] A = B at *
    have x3 : ∀ h : 13 < B.tmps.size, B.tmps[13]'h = .agg #[pt b 1, F1] := fun h => by rw [Array.getElem?_eq_getElem h] at r3; exact Option.some.inj r3
    have x7 : ∀ h : 17 < B.tmps.size, B.tmps[17]'h = .agg #[pt b 3, F2] := fun h => by rw [Array.getElem?_eq_getElem h] at r7; exact Option.some.inj r7
    have x8 : ∀ h : 3 < B.tmps.size, B.tmps[3]'h = pt g1 0 := fun h => by rw [Array.getElem?_eq_getElem h] at r8; exact Option.some.inj r8
    have x9 : ∀ h : 4 < B.tmps.size, B.tmps[4]'h = pt g2 0 := fun h => by rw [Array.getElem?_eq_getElem h] at r9; exact Option.some.inj r9
    clear r3 r7 r8 r9
    have HF1 := Lib.hid f1
    have HF2 := Lib.hid f2
    have HB := Lib.hid hb
    have ho1 : ∀ a w m, (store a F1 m).run Tryz.prog w = stored Tryz.prog w a F1 m := fun a w m => run_store _ w a _ m f1.one
    have ho2 : ∀ a w m, (store a F2 m).run Tryz.prog w = stored Tryz.prog w a F2 m := fun a w m => run_store _ w a _ m f2.one
    have c1 := blk_cell k2 0
    have c2 := blk_cell k2 1
    have z1 := fun o => blk_free k2 o
    have k4' : ∀ x y, ((w1.setCell ⟨g1, 0, none⟩ x).setCell ⟨g1, 1, none⟩ y).heap[g2]? = some (.cells #[.pointer none, .nilFunc] 63 (0, 0)) := fun x y => blk_far _ (blk_far _ k4 hne.symm) hne.symm
    have c3 := fun x y => blk_cell (k4' x y) 0
    have c4 := fun x y => blk_cell (k4' x y) 1
    have z2 := fun x y o => blk_free (k4' x y) o
    have hg1 : ∀ w', ((((w1.setCell ⟨g1, 0, none⟩ (pt b 1)).setCell ⟨g1, 1, none⟩ F1).setCell ⟨g2, 0, none⟩ (pt b 3)).setCell ⟨g2, 1, none⟩ F2) = w' → w'.heap[g1]? = some (.cells #[pt b 1, F1] 63 (0, 0)) ∧ w'.heap[g2]? = some (.cells #[pt b 3, F2] 63 (0, 0)) ∧
        FnOk (fun a => w.heap.size ≤ a ∧ a < w'.heap.size) b 1 F1 w' ∧ FnOk (fun a => w.heap.size ≤ a ∧ a < w'.heap.size) b 3 F2 w' ∧ Below w.heap.size w w' := by
      rintro w' rfl
      refine ⟨blk_far _ (blk_far _ (blk_set (blk_set k2 0 _) 1 _) hne) hne, blk_set (blk_set (k4' _ _) 0 _) 1 _, fn_two f1 k2 k4 (fun a ha => ⟨ha.1, by simpa [World.setCell] using ha.2⟩), fn_two f2 k2 k4 (fun a ha => ⟨ha.1, by simpa [World.setCell] using ha.2⟩), ?_⟩
      exact (((hb.setCell (p := ⟨g1, 0, none⟩) k1 _).setCell (p := ⟨g1, 1, none⟩) k1 _).setCell (p := ⟨g2, 0, none⟩) k3 _).setCell (p := ⟨g2, 1, none⟩) k3 _
    have HG := Lib.hid hg1
    clear f1 f2 hb k2 k4 k4' hg1
    simp only [List.drop_succ_cons, List.drop_zero]
    go_wp2_with fail
    obtain ⟨y1, y2, y3, y4, y5⟩ := HG.out _ rfl
    exact HQ.out _ y1 y2 y3 y4 y5

set_option maxHeartbeats 4000000 in
theorem two_numbers2 (A : Act) (b : Nat) (w : World) (Q : Exit → Act → World → Prop) (hA : A.tmps.size = 76) (h0 : A.tmps[0]? = some (pt b 0))
    (hQ : ∀ s w' g1 g2 F1 F2, s 8 = pt g1 0 → s 9 = pt g2 0 → g1 ≠ g2 → w.heap.size ≤ g1 → w.heap.size ≤ g2 → w'.heap[g1]? = some (.cells #[pt b 2, F1] 63 (0, 0)) → w'.heap[g2]? = some (.cells #[pt b 4, F2] 63 (0, 0)) →
      FnOk (fun a => w.heap.size ≤ a ∧ a < w'.heap.size) b 2 F1 w' → FnOk (fun a => w.heap.size ≤ a ∧ a < w'.heap.size) b 4 F2 w' → Below w.heap.size w w' → Q .normal (putFrom s 0 [some 18, some 19, some 20, some 21, some 22, some 23, some 24, some 25, some 5, some 6] A) w') : (numR 2).wp Tryz.prog Q A w := by
  conv => arg 2; whnf
  refine wp_region_inv 10 (slotsOf [some 18, some 19, some 20, some 21, some 22, some 23, some 24, some 25, some 5, some 6] A) (J2 w b 2 4) [some 18, some 19, some 20, some 21, some 22, some 23, some 24, some 25, some 5, some 6] rfl (by decide) (by kernel_rfl) (by kernel_rfl) (putFrom_slots _ _) ?_ ?_ ?_
  · exact ⟨⟨rfl, rfl, rfl, Nat.le_refl _, fun _ _ => rfl⟩, by simp, by simp, by simp, by simp, by simp, by simp, by simp, by simp, by simp, by simp, by simp⟩
  · intro j o hj ho m s w1 hm haf hJ
    have rd : ∀ k t, ([some 18, some 19, some 20, some 21, some 22, some 23, some 24, some 25, some 5, some 6] : List (Option Tmp))[k]? = some (some t) → t < A.tmps.size → (putFrom s 0 [some 18, some 19, some 20, some 21, some 22, some 23, some 24, some 25, some 5, some 6] A).tmps[t]? = some (s k) := fun k t h1 h2 => by
      have := putFrom_read s [some 18, some 19, some 20, some 21, some 22, some 23, some 24, some 25, some 5, some 6] 0 k A t (by decide) h1 h2
      rwa [Nat.zero_add] at this
    have e0 := (putFrom_else s 0 [some 18, some 19, some 20, some 21, some 22, some 23, some 24, some 25, some 5, some 6] 0 A (by decide)).trans h0
    have r0 := rd 0 18 rfl (by omega)
    have r1 := rd 1 19 rfl (by omega)
    have r2 := rd 2 20 rfl (by omega)
    have r3 := rd 3 21 rfl (by omega)
    have r4 := rd 4 22 rfl (by omega)
    have r5 := rd 5 23 rfl (by omega)
    have r6 := rd 6 24 rfl (by omega)
    have r7 := rd 7 25 rfl (by omega)
    have r8 := rd 8 5 rfl (by omega)
    have r9 := rd 9 6 rfl (by omega)
    generalize putFrom s 0 [some 18, some 19, some 20, some 21, some 22, some 23, some 24, some 25, some 5, some 6] A = B at *
    obtain ⟨hb, a0, a1, a2, a3, a4, a5, a6, a7, a8, a9, a10⟩ := id hJ
    rcases (by omega : j = 0 ∨ j = 1 ∨ j = 2 ∨ j = 3 ∨ j = 4 ∨ j = 5 ∨ j = 6 ∨ j = 7 ∨ j = 8 ∨ j = 9) with rfl | rfl | rfl | rfl | rfl | rfl | rfl | rfl | rfl | rfl
    all_goals
      simp only [List.getElem?_cons_zero, List.getElem?_cons_succ, Option.some.injEq] at ho
      subst ho
      refine ⟨by rfl, ?_⟩
      simp [Region.binds] at haf
    · refine .inl ⟨pt b 0, w1, by simp [execOp, Act.eval, e0], hJ.lay 0 _ (fun _ => rfl) (by omega) (by omega) (by omega) (by omega) (by omega) (by omega) (by omega) (by omega) (by omega)⟩
    · have q : B.eval (.tmp 18) = pt b 0 := by simp [Act.eval, r0, a0 haf]
      refine .inl ⟨pt b 0, w1, by simp only [execOp, q]; go_simp, hJ.lay 1 _ (by omega) (fun _ => rfl) (by omega) (by omega) (by omega) (by omega) (by omega) (by omega) (by omega) (by omega)⟩
    · have q : B.eval (.tmp 19) = pt b 0 := by simp [Act.eval, r1, a1 haf]
      refine .inl ⟨pt b 2, w1, by simp only [execOp, q]; go_simp, hJ.lay 2 _ (by omega) (by omega) (fun _ => rfl) (by omega) (by omega) (by omega) (by omega) (by omega) (by omega) (by omega)⟩
    · have q : B.eval (.tmp 20) = pt b 2 := by simp [Act.eval, r2, a2 haf]
      refine .inr (.inr ⟨60, #[pt b 2, .int .i64 1, .int .i64 2147483647], by simp only [execOp]; go_simp, ?_⟩)
      refine (within_any b 2 1 2147483647 w1 (by omega) (fun v => rfl)).mono ?_
      rintro e w2 ⟨F, rfl, hF, hw⟩
      exact ⟨_, rfl, (hJ.step hw).lay 3 _ (by omega) (by omega) (by omega) (fun _ => ⟨F, rfl, hF.keep (fun a ha => ⟨Nat.le_trans hb.size ha.1, ha.2⟩) (fun _ _ _ h => h)⟩) (by omega) (by omega) (by omega) (by omega) (by omega) (by omega)⟩
    · refine .inl ⟨pt b 0, w1, by simp [execOp, Act.eval, e0], hJ.lay 4 _ (by omega) (by omega) (by omega) (by omega) (fun _ => rfl) (by omega) (by omega) (by omega) (by omega) (by omega)⟩
    · have q : B.eval (.tmp 22) = pt b 0 := by simp [Act.eval, r4, a4 haf]
      refine .inl ⟨pt b 0, w1, by simp only [execOp, q]; go_simp, hJ.lay 5 _ (by omega) (by omega) (by omega) (by omega) (by omega) (fun _ => rfl) (by omega) (by omega) (by omega) (by omega)⟩
    · have q : B.eval (.tmp 23) = pt b 0 := by simp [Act.eval, r5, a5 haf]
      refine .inl ⟨pt b 4, w1, by simp only [execOp, q]; go_simp, hJ.lay 6 _ (by omega) (by omega) (by omega) (by omega) (by omega) (by omega) (fun _ => rfl) (by omega) (by omega) (by omega)⟩
    · have q : B.eval (.tmp 24) = pt b 4 := by simp [Act.eval, r6, a6 haf.1]
      refine .inr (.inr ⟨60, #[pt b 4, .int .i64 0, .int .i64 99], by simp only [execOp]; go_simp, ?_⟩)
      refine (within_any b 4 0 99 w1 (by omega) (fun v => rfl)).mono ?_
      rintro e w2 ⟨F, rfl, hF, hw⟩
      exact ⟨_, rfl, (hJ.step hw).lay 7 _ (by omega) (by omega) (by omega) (by omega) (by omega) (by omega) (by omega) (fun _ => ⟨F, rfl, hF.keep (fun a ha => ⟨Nat.le_trans hb.size ha.1, ha.2⟩) (fun _ _ _ h => h)⟩) (by omega) (by omega)⟩
    · refine .inl ⟨pt w1.heap.size 0, w1.alloc (.cells #[.pointer none, .nilFunc] 63), by simp only [execOp]; go_simp, (hJ.step ((Below.refl _ _).alloc (Nat.le_refl _) _)).lay 8 _ (by omega) (by omega) (by omega) (by omega) (by omega) (by omega) (by omega) (by omega) (fun _ => ⟨box_new hb, fun h => box_ne (a9 h)⟩) (by omega)⟩
    · refine .inl ⟨pt w1.heap.size 0, w1.alloc (.cells #[.pointer none, .nilFunc] 63), by simp only [execOp]; go_simp, (hJ.step ((Below.refl _ _).alloc (Nat.le_refl _) _)).lay 9 _ (by omega) (by omega) (by omega) (by omega) (by omega) (by omega) (by omega) (by omega) (by omega) (fun _ => ⟨box_new hb, fun h e => box_ne (a8 h) e.symm⟩)⟩
  · intro m s w1 hm hJ
    have rd : ∀ k t, ([some 18, some 19, some 20, some 21, some 22, some 23, some 24, some 25, some 5, some 6] : List (Option Tmp))[k]? = some (some t) → t < A.tmps.size → (putFrom s 0 [some 18, some 19, some 20, some 21, some 22, some 23, some 24, some 25, some 5, some 6] A).tmps[t]? = some (s k) := fun k t h1 h2 => by
      have := putFrom_read s [some 18, some 19, some 20, some 21, some 22, some 23, some 24, some 25, some 5, some 6] 0 k A t (by decide) h1 h2
      rwa [Nat.zero_add] at this
    have r3 := rd 3 21 rfl (by omega)
    have r7 := rd 7 25 rfl (by omega)
    have r8 := rd 8 5 rfl (by omega)
    have r9 := rd 9 6 rfl (by omega)
    obtain ⟨hb, a0, a1, a2, a3, a4, a5, a6, a7, a8, a9, a10⟩ := hJ
    obtain ⟨F1, e3, f1⟩ := a3 (hm 3 (by omega))
    obtain ⟨F2, e7, f2⟩ := a7 (hm 7 (by omega))
    obtain ⟨g1, e8, k1, k2⟩ := a8 (hm 8 (by omega))
    obtain ⟨g2, e9, k3, k4⟩ := a9 (hm 9 (by omega))
    have hne : g1 ≠ g2 := fun e => a10 (hm 8 (by omega)) (hm 9 (by omega)) (by rw [e8, e9, e])
    have hQ' := fun w' => hQ s w' g1 g2 F1 F2 e8 e9 hne k1 k3
    clear hQ
    rw [e3] at r3
    rw [e7] at r7
    rw [e8] at r8
    rw [e9] at r9
    have bs : (putFrom s 0 [some 18, some 19, some 20, some 21, some 22, some 23, some 24, some 25, some 5, some 6] A).tmps.size = 76 := (putFrom_size s _ 0 A).trans hA
    have HQ := Lib.hid hQ'
    clear hQ' rd a0 a1 a2 a3 a4 a5 a6 a7 a8 a9 a10 h0 hm e3 e7 e8 e9
    generalize putFrom s 0 [some 18, some 19, some 20, some 21, some 22, some 23, some 24, some 25, some 5, some 6] A = B at *
    have x3 : ∀ h : 21 < B.tmps.size, B.tmps[21]'h = .agg #[pt b 2, F1] := fun h => by rw [Array.getElem?_eq_getElem h] at r3; exact Option.some.inj r3
    have x7 : ∀ h : 25 < B.tmps.size, B.tmps[25]'h = .agg #[pt b 4, F2] := fun h => by rw [Array.getElem?_eq_getElem h] at r7; exact Option.some.inj r7
    have x8 : ∀ h : 5 < B.tmps.size, B.tmps[5]'h = pt g1 0 := fun h => by rw [Array.getElem?_eq_getElem h] at r8; exact Option.some.inj r8
    have x9 : ∀ h : 6 < B.tmps.size, B.tmps[6]'h = pt g2 0 := fun h => by rw [Array.getElem?_eq_getElem h] at r9; exact Option.some.inj r9
    clear r3 r7 r8 r9
    have HF1 := Lib.hid f1
    have HF2 := Lib.hid f2
    have HB := Lib.hid hb
    have ho1 : ∀ a w m, (store a F1 m).run Tryz.prog w = stored Tryz.prog w a F1 m := fun a w m => run_store _ w a _ m f1.one
    have ho2 : ∀ a w m, (store a F2 m).run Tryz.prog w = stored Tryz.prog w a F2 m := fun a w m => run_store _ w a _ m f2.one
    have c1 := blk_cell k2 0
    have c2 := blk_cell k2 1
    have z1 := fun o => blk_free k2 o
    have k4' : ∀ x y, ((w1.setCell ⟨g1, 0, none⟩ x).setCell ⟨g1, 1, none⟩ y).heap[g2]? = some (.cells #[.pointer none, .nilFunc] 63 (0, 0)) := fun x y => blk_far _ (blk_far _ k4 hne.symm) hne.symm
    have c3 := fun x y => blk_cell (k4' x y) 0
    have c4 := fun x y => blk_cell (k4' x y) 1
    have z2 := fun x y o => blk_free (k4' x y) o
    have hg1 : ∀ w', ((((w1.setCell ⟨g1, 0, none⟩ (pt b 2)).setCell ⟨g1, 1, none⟩ F1).setCell ⟨g2, 0, none⟩ (pt b 4)).setCell ⟨g2, 1, none⟩ F2) = w' → w'.heap[g1]? = some (.cells #[pt b 2, F1] 63 (0, 0)) ∧ w'.heap[g2]? = some (.cells #[pt b 4, F2] 63 (0, 0)) ∧
        FnOk (fun a => w.heap.size ≤ a ∧ a < w'.heap.size) b 2 F1 w' ∧ FnOk (fun a => w.heap.size ≤ a ∧ a < w'.heap.size) b 4 F2 w' ∧ Below w.heap.size w w' := by
      rintro w' rfl
      refine ⟨blk_far _ (blk_far _ (blk_set (blk_set k2 0 _) 1 _) hne) hne, blk_set (blk_set (k4' _ _) 0 _) 1 _, fn_two f1 k2 k4 (fun a ha => ⟨ha.1, by simpa [World.setCell] using ha.2⟩), fn_two f2 k2 k4 (fun a ha => ⟨ha.1, by simpa [World.setCell] using ha.2⟩), ?_⟩
      exact (((hb.setCell (p := ⟨g1, 0, none⟩) k1 _).setCell (p := ⟨g1, 1, none⟩) k1 _).setCell (p := ⟨g2, 0, none⟩) k3 _).setCell (p := ⟨g2, 1, none⟩) k3 _
    have HG := Lib.hid hg1
    clear f1 f2 hb k2 k4 k4' hg1
    simp only [List.drop_succ_cons, List.drop_zero]
    go_wp2_with fail
    obtain ⟨y1, y2, y3, y4, y5⟩ := HG.out _ rfl
    exact HQ.out _ y1 y2 y3 y4 y5

end Go.Proofs.YtgooepfhapaenaaGreat
/- The developers' numbers of an event: the list of pointers into it, whole. Conditions: as stated. -/
namespace Go.Proofs.YtgooepfhapaenaaGreat
open Go.ChangeShapes Go.WideShapes Go.ChangeAt Go.RowKit
set_option linter.unusedVariables false
set_option maxRecDepth 100000
set_option linter.unusedSimpArgs false

/-- The list of an event's numbers: pointers and functions. -/
def NB (K : Nat → Prop) (b : Nat) (ks : List Nat) (u : Value) (w : World) : Prop :=
  ∃ rb o cap R t, u = .slice (some ⟨rb, o, none⟩) ks.length cap ∧ ks.length ≤ 5 ∧ cap ≤ 5 ∧ K rb ∧ w.heap[rb]? = some (.cells R t (0, 0)) ∧ ∀ i j, ks[i]? = some j → ∃ F, R[o + 2 * i]? = some (pt b j) ∧ R[o + 2 * i + 1]? = some F ∧ FnOk K b j F w
theorem NB.keep {K : Nat → Prop} {b : Nat} {ks : List Nat} {u : Value} {w w' : World} (h : NB K b ks u w) (hb : ∀ a o, K a → w.heap[a]? = some o → w'.heap[a]? = some o) : NB K b ks u w' := by
  obtain ⟨rb, o, cap, R, t, e, h1, h2, h3, h4, h5⟩ := h
  exact ⟨rb, o, cap, R, t, e, h1, h2, h3, hb _ _ h3 h4, fun i j hij => by
    obtain ⟨F, g1, g2, g3⟩ := h5 i j hij
    exact ⟨F, g1, g2, g3.keep (fun _ h => h) hb⟩⟩
theorem NB.below {K : Nat → Prop} {b : Nat} {ks : List Nat} {u : Value} {w w' : World} (h : NB K b ks u w) (hb : Below w.heap.size w w') : NB K b ks u w' := h.keep fun a o _ ho => blk_below hb ho (lt_of_block ho)
/-- What holds while the list is filled: B what there was ahead of the call, fb and rb the blocks of 'first' and 'room', g the numbers made ahead. -/
structure Fill (w0 : World) (b fb rb g1 g2 g3 g4 : Nat) (F1 F2 F3 F4 : Value) (f : Nat) (ks : List Nat) (w : World) : Prop where
  room : Room (fun a => w0.heap.size ≤ a ∧ a ≠ fb ∧ a ≠ rb) b fb rb f ks w
  n1 : w.heap[g1]? = some (.cells #[pt b 1, F1] 63 (0, 0)) ∧ FnOk (fun a => w0.heap.size ≤ a ∧ a ≠ fb ∧ a ≠ rb) b 1 F1 w ∧ g1 ≠ fb ∧ g1 ≠ rb
  n2 : w.heap[g2]? = some (.cells #[pt b 3, F2] 63 (0, 0)) ∧ FnOk (fun a => w0.heap.size ≤ a ∧ a ≠ fb ∧ a ≠ rb) b 3 F2 w ∧ g2 ≠ fb ∧ g2 ≠ rb
  n3 : w.heap[g3]? = some (.cells #[pt b 2, F3] 63 (0, 0)) ∧ FnOk (fun a => w0.heap.size ≤ a ∧ a ≠ fb ∧ a ≠ rb) b 2 F3 w ∧ g3 ≠ fb ∧ g3 ≠ rb
  n4 : w.heap[g4]? = some (.cells #[pt b 4, F4] 63 (0, 0)) ∧ FnOk (fun a => w0.heap.size ≤ a ∧ a ≠ fb ∧ a ≠ rb) b 4 F4 w ∧ g4 ≠ fb ∧ g4 ≠ rb
  hf : w0.heap.size ≤ fb
  hr : w0.heap.size ≤ rb
  ne : fb ≠ rb
  bl : Below w0.heap.size w0 w
section
variable {w0 : World} {b fb rb g1 g2 g3 g4 : Nat} {F1 F2 F3 F4 : Value} {f : Nat} {ks : List Nat} {w w' : World}
theorem Room.keep {K : Nat → Prop} (h : Room K b fb rb f ks w) (hb : Below w.heap.size w w') : Room K b fb rb f ks w' := by
  obtain ⟨h1, h2, R, h3, h4, h5⟩ := h
  exact ⟨blk_below hb h1 (lt_of_block h1), h2, R, blk_below hb h3 (lt_of_block h3), h4, fun i j hij => by
    obtain ⟨F, g1, g2, g3⟩ := h5 i j hij
    exact ⟨F, g1, g2, g3.below hb⟩⟩
theorem Fill.below (h : Fill w0 b fb rb g1 g2 g3 g4 F1 F2 F3 F4 f ks w) (hb : Below w.heap.size w w') : Fill w0 b fb rb g1 g2 g3 g4 F1 F2 F3 F4 f ks w' :=
  ⟨h.room.keep hb, ⟨blk_below hb h.n1.1 (lt_of_block h.n1.1), h.n1.2.1.below hb, h.n1.2.2⟩, ⟨blk_below hb h.n2.1 (lt_of_block h.n2.1), h.n2.2.1.below hb, h.n2.2.2⟩, ⟨blk_below hb h.n3.1 (lt_of_block h.n3.1), h.n3.2.1.below hb, h.n3.2.2⟩,
    ⟨blk_below hb h.n4.1 (lt_of_block h.n4.1), h.n4.2.1.below hb, h.n4.2.2⟩, h.hf, h.hr, h.ne, h.bl.trans (hb.mono h.bl.size)⟩
theorem Fill.far {f' : Nat} {ks' : List Nat} (h : Fill w0 b fb rb g1 g2 g3 g4 F1 F2 F3 F4 f ks w) (hR : Room (fun a => w0.heap.size ≤ a ∧ a ≠ fb ∧ a ≠ rb) b fb rb f' ks' w') (hk : ∀ a, a ≠ fb → a ≠ rb → w'.heap[a]? = w.heap[a]?) (hb : ∀ B, B ≤ fb → B ≤ rb → Below B w w') :
    Fill w0 b fb rb g1 g2 g3 g4 F1 F2 F3 F4 f' ks' w' :=
  have kf : ∀ (a : Nat) (o : Obj), (w0.heap.size ≤ a ∧ a ≠ fb ∧ a ≠ rb) → w.heap[a]? = some o → w'.heap[a]? = some o := fun a o ha ho => (hk a ha.2.1 ha.2.2).trans ho
  ⟨hR, ⟨(hk _ h.n1.2.2.1 h.n1.2.2.2).trans h.n1.1, h.n1.2.1.keep (fun _ h => h) kf, h.n1.2.2⟩, ⟨(hk _ h.n2.2.2.1 h.n2.2.2.2).trans h.n2.1, h.n2.2.1.keep (fun _ h => h) kf, h.n2.2.2⟩, ⟨(hk _ h.n3.2.2.1 h.n3.2.2.2).trans h.n3.1, h.n3.2.1.keep (fun _ h => h) kf, h.n3.2.2⟩,
    ⟨(hk _ h.n4.2.2.1 h.n4.2.2.2).trans h.n4.1, h.n4.2.1.keep (fun _ h => h) kf, h.n4.2.2⟩, h.hf, h.hr, h.ne, h.bl.trans (hb _ h.hf h.hr)⟩
theorem Src.below {K : Nat → Prop} {lb : Nat} {js : List Nat} (h : Src K b lb js w) (hb : Below w.heap.size w w') : Src K b lb js w' := by
  obtain ⟨R, h1, h2, h3⟩ := h
  exact ⟨R, blk_below hb h1 (lt_of_block h1), h2, fun i j hij => by
    obtain ⟨F, g1, g2, g3⟩ := h3 i j hij
    exact ⟨F, g1, g2, g3.below hb⟩⟩
theorem fill_ahead (h : Fill w0 b fb rb g1 g2 g3 g4 F1 F2 F3 F4 f ks w) (lb m cap : Nat) (js : List Nat) (hm : js.length = m) (h1 : 0 < m) (h2 : m ≤ f) (hS : Src (fun a => w0.heap.size ≤ a ∧ a ≠ fb ∧ a ≠ rb) b lb js w) (n1 : lb ≠ fb) (n2 : lb ≠ rb) :
    Calls Tryz.prog 61 #[.slice (some ⟨lb, 0, none⟩) m cap, pt fb 0, pt rb 0] w fun e w' => e = .returned (.tuple #[]) ∧ Fill w0 b fb rb g1 g2 g3 g4 F1 F2 F3 F4 (f - m) (js ++ ks) w' :=
  (ahead_any b lb fb rb f m cap js ks w hm h1 h2 (fun a ha => ha.2) h.room hS n1 n2 h.ne).mono fun e w' ⟨e1, e2, e3, e4, e5⟩ => ⟨e1, h.far e2 e3 e4⟩
theorem Fill.lt (h : Fill w0 b fb rb g1 g2 g3 g4 F1 F2 F3 F4 f ks w) : fb < w.heap.size ∧ rb < w.heap.size := by
  obtain ⟨h1, _, R, h3, _⟩ := h.room
  exact ⟨lt_of_block h1, lt_of_block h3⟩
theorem fill_vector (h : Fill w0 b fb rb g1 g2 g3 g4 F1 F2 F3 F4 f ks w) :
    Calls Tryz.prog 62 #[pt b 5] w fun e w' => ∃ lb, e = .returned (.slice (some ⟨lb, 0, none⟩) 3 3) ∧ Fill w0 b fb rb g1 g2 g3 g4 F1 F2 F3 F4 f ks w' ∧ Src (fun a => w0.heap.size ≤ a ∧ a ≠ fb ∧ a ≠ rb) b lb [5, 6, 7] w' ∧ lb ≠ fb ∧ lb ≠ rb :=
  (vector_any b w).mono fun e w' ⟨F, e1, e2, e3, e4⟩ => by
    obtain ⟨l1, l2⟩ := h.lt
    have l3 := h.bl.size
    have hk : ∀ j, 5 ≤ j → FnOk (fun a => w0.heap.size ≤ a ∧ a ≠ fb ∧ a ≠ rb) b j F w' := fun j hj => (e3 j hj).keep (fun a ha => by subst ha; exact ⟨l3, by omega, by omega⟩) fun _ _ _ h => h
    refine ⟨_, e1, h.below e4, ⟨_, e2, rfl, fun i j hij => ?_⟩, by omega, by omega⟩
    rcases (by
      have := (List.getElem?_eq_some_iff.1 hij).1
      simp at this
      omega : i = 0 ∨ i = 1 ∨ i = 2) with rfl | rfl | rfl
    · obtain rfl : 5 = j := Option.some.inj hij
      exact ⟨F, rfl, rfl, hk 5 (by omega)⟩
    · obtain rfl : 6 = j := Option.some.inj hij
      exact ⟨F, rfl, rfl, hk 6 (by omega)⟩
    · obtain rfl : 7 = j := Option.some.inj hij
      exact ⟨F, rfl, rfl, hk 7 (by omega)⟩
/-- Slices written out. -/
theorem src_one {K : Nat → Prop} {lb j1 : Nat} {G1 : Value} (h : w.heap[lb]? = some (.cells #[pt b j1, G1] 63 (0, 0))) (k1 : FnOk K b j1 G1 w) : Src K b lb [j1] w := ⟨_, h, rfl, fun i j hij => by
  obtain rfl : i = 0 := by
    have := (List.getElem?_eq_some_iff.1 hij).1
    simp at this
    omega
  obtain rfl : j1 = j := Option.some.inj hij
  exact ⟨G1, rfl, rfl, k1⟩⟩
theorem src_two {K : Nat → Prop} {lb j1 j2 : Nat} {G1 G2 : Value} (h : w.heap[lb]? = some (.cells #[pt b j1, G1, pt b j2, G2] 63 (0, 0))) (k1 : FnOk K b j1 G1 w) (k2 : FnOk K b j2 G2 w) : Src K b lb [j1, j2] w := ⟨_, h, rfl, fun i j hij => by
  rcases (by
    have := (List.getElem?_eq_some_iff.1 hij).1
    simp at this
    omega : i = 0 ∨ i = 1) with rfl | rfl
  · obtain rfl : j1 = j := Option.some.inj hij
    exact ⟨G1, rfl, rfl, k1⟩
  · obtain rfl : j2 = j := Option.some.inj hij
    exact ⟨G2, rfl, rfl, k2⟩⟩
theorem src_three {K : Nat → Prop} {lb j1 j2 j3 : Nat} {G1 G2 G3 : Value} (h : w.heap[lb]? = some (.cells #[pt b j1, G1, pt b j2, G2, pt b j3, G3] 63 (0, 0))) (k1 : FnOk K b j1 G1 w) (k2 : FnOk K b j2 G2 w) (k3 : FnOk K b j3 G3 w) : Src K b lb [j1, j2, j3] w := ⟨_, h, rfl, fun i j hij => by
  rcases (by
    have := (List.getElem?_eq_some_iff.1 hij).1
    simp at this
    omega : i = 0 ∨ i = 1 ∨ i = 2) with rfl | rfl | rfl
  · obtain rfl : j1 = j := Option.some.inj hij
    exact ⟨G1, rfl, rfl, k1⟩
  · obtain rfl : j2 = j := Option.some.inj hij
    exact ⟨G2, rfl, rfl, k2⟩
  · obtain rfl : j3 = j := Option.some.inj hij
    exact ⟨G3, rfl, rfl, k3⟩⟩
theorem fill_out (h : Fill w0 b fb rb g1 g2 g3 g4 F1 F2 F3 F4 f ks w) (hf : f < 5) : NB (fun a => w0.heap.size ≤ a) b ks (.slice (some ⟨rb, 2 * f, none⟩) (5 - f) (5 - f)) w := by
  obtain ⟨h1, h2, R, h3, h4, h5⟩ := h.room
  rw [show 5 - f = ks.length by omega]
  exact ⟨rb, 2 * f, ks.length, R, _, rfl, by omega, by omega, h.hr, h3, fun i j hij => by
    obtain ⟨F, g1, g2, g3⟩ := h5 i j hij
    exact ⟨F, g1, g2, g3.keep (fun a ha => ha.1) fun _ _ _ h => h⟩⟩
theorem fill_none (h : Fill w0 b fb rb g1 g2 g3 g4 F1 F2 F3 F4 5 ks w) : NB (fun a => w0.heap.size ≤ a) b [] (.slice (some ⟨rb, 0, none⟩) 0 0) w := by
  obtain ⟨h1, h2, R, h3, h4, h5⟩ := h.room
  exact ⟨rb, 0, 0, R, _, rfl, by simp, by omega, h.hr, h3, fun i j hij => by simp at hij⟩
end
theorem room_slice (rb f : Nat) (w : World) (hf : f < 5) : (Instr.sliceAt 87 (pt rb 0) (some (.int .i64 (f : Int))) none none).run Tryz.prog w = .ok (.slice (some ⟨rb, 2 * f, none⟩) (5 - f) (5 - f)) w := by
  have h := run_sliceAt_arr_l (P := Tryz.prog) w 87 63 5 2 (by kernel_rfl) (fun w => by kernel_rfl) ⟨rb, 0, none⟩ .i64 f (by omega)
  rw [if_neg (by omega), addr_add_n, Nat.zero_add, Nat.mul_comm] at h
  exact h
theorem room_slice5 (rb : Nat) (w : World) : (Instr.sliceAt 87 (pt rb 0) (some (.int .i64 5)) none none).run Tryz.prog w = .ok (.slice (some ⟨rb, 0, none⟩) 0 0) w := by
  have h := run_sliceAt_arr_l (P := Tryz.prog) w 87 63 5 2 (by kernel_rfl) (fun w => by kernel_rfl) ⟨rb, 0, none⟩ .i64 5 (by omega)
  rw [if_pos rfl] at h
  exact h
end Go.Proofs.YtgooepfhapaenaaGreat
/- What numbers, of package event, comes to. Written by tools/gen-eve.py. Conditions: as stated. -/
namespace Go.Proofs.YtgooepfhapaenaaGreat
open Go.ChangeShapes Go.WideShapes Go.ChangeAt Go.RowKit
set_option linter.unusedVariables false
set_option maxRecDepth 100000
set_option linter.unusedSimpArgs false

theorem fill_first {w0 : World} {b fb rb g1 g2 g3 g4 : Nat} {F1 F2 F3 F4 : Value} {f : Nat} {ks : List Nat} {w : World} (h : Fill w0 b fb rb g1 g2 g3 g4 F1 F2 F3 F4 f ks w) (n : Int) (hn : (f : Int) = n) : w.cell? ⟨fb, 0, none⟩ = some (.int .i64 n) := by
  subst hn; exact cell_of_one h.room.1
theorem fill_cells {w0 : World} {b fb rb g1 g2 g3 g4 : Nat} {F1 F2 F3 F4 : Value} {f : Nat} {ks : List Nat} {w : World} (h : Fill w0 b fb rb g1 g2 g3 g4 F1 F2 F3 F4 f ks w) : w.cell? ⟨g1, 0, none⟩ = some (pt b 1) ∧ w.cell? ⟨g1, 1, none⟩ = some F1 ∧ w.cell? ⟨g2, 0, none⟩ = some (pt b 3) ∧ w.cell? ⟨g2, 1, none⟩ = some F2 ∧
    w.cell? ⟨g3, 0, none⟩ = some (pt b 2) ∧ w.cell? ⟨g3, 1, none⟩ = some F3 ∧ w.cell? ⟨g4, 0, none⟩ = some (pt b 4) ∧ w.cell? ⟨g4, 1, none⟩ = some F4 :=
  ⟨blk_cell h.n1.1 0, blk_cell h.n1.1 1, blk_cell h.n2.1 0, blk_cell h.n2.1 1, blk_cell h.n3.1 0, blk_cell h.n3.1 1, blk_cell h.n4.1 0, blk_cell h.n4.1 1⟩
theorem room_sliceZ (rb f : Nat) (z : Int) (hz : (f : Int) = z) (w : World) (hf : f < 5) : (Instr.sliceAt 87 (pt rb 0) (some (.int .i64 z)) none none).run Tryz.prog w = .ok (.slice (some ⟨rb, 2 * f, none⟩) (5 - f) (5 - f)) w := by
  subst hz; exact room_slice rb f w hf
theorem fill_start {w w1 w2 : World} {b g1 g2 g3 g4 : Nat} {F1 F2 F3 F4 : Value} (h1 : Below w.heap.size w w1) (h2 : Below w1.heap.size w1 w2)
    (l1 : w.heap.size ≤ g1) (l2 : w.heap.size ≤ g2) (b1 : w1.heap[g1]? = some (.cells #[pt b 1, F1] 63 (0, 0))) (b2 : w1.heap[g2]? = some (.cells #[pt b 3, F2] 63 (0, 0)))
    (f1 : FnOk (fun a => w.heap.size ≤ a ∧ a < w1.heap.size) b 1 F1 w1) (f2 : FnOk (fun a => w.heap.size ≤ a ∧ a < w1.heap.size) b 3 F2 w1)
    (b3 : w2.heap[g3]? = some (.cells #[pt b 2, F3] 63 (0, 0))) (b4 : w2.heap[g4]? = some (.cells #[pt b 4, F4] 63 (0, 0)))
    (f3 : FnOk (fun a => w1.heap.size ≤ a ∧ a < w2.heap.size) b 2 F3 w2) (f4 : FnOk (fun a => w1.heap.size ≤ a ∧ a < w2.heap.size) b 4 F4 w2) :
    Fill w b (w2.heap.size + 1) w2.heap.size g1 g2 g3 g4 F1 F2 F3 F4 5 [] ((w2.alloc (.cells #[.pointer none, .nilFunc, .pointer none, .nilFunc, .pointer none, .nilFunc, .pointer none, .nilFunc, .pointer none, .nilFunc] 87)).alloc (.cells #[.int .i64 5] 3)) := by
  have z1 := h1.size
  have z2 := h2.size
  have hb : Below w2.heap.size w2 ((w2.alloc (.cells #[.pointer none, .nilFunc, .pointer none, .nilFunc, .pointer none, .nilFunc, .pointer none, .nilFunc, .pointer none, .nilFunc] 87)).alloc (.cells #[.int .i64 5] 3)) := ((Below.refl _ _).alloc (Nat.le_refl _) _).alloc (by simp) _
  have y1 := blk_below h2 b1 (lt_of_block b1)
  have y2 := blk_below h2 b2 (lt_of_block b2)
  have x1 := lt_of_block y1
  have x2 := lt_of_block y2
  have x3 := lt_of_block b3
  have x4 := lt_of_block b4
  exact ⟨⟨blk_at _ _ _ (by simp), rfl, _, blk_old _ (blk_new w2 _), rfl, fun i j hij => by simp at hij⟩,
    ⟨blk_below hb y1 x1, ((f1.below h2).below hb).keep (fun a ha => ⟨ha.1, by omega, by omega⟩) fun _ _ _ h => h, by omega, by omega⟩,
    ⟨blk_below hb y2 x2, ((f2.below h2).below hb).keep (fun a ha => ⟨ha.1, by omega, by omega⟩) fun _ _ _ h => h, by omega, by omega⟩,
    ⟨blk_below hb b3 x3, (f3.below hb).keep (fun a ha => ⟨by omega, by omega, by omega⟩) fun _ _ _ h => h, by omega, by omega⟩,
    ⟨blk_below hb b4 x4, (f4.below hb).keep (fun a ha => ⟨by omega, by omega, by omega⟩) fun _ _ _ h => h, by omega, by omega⟩, by omega, by omega, by omega, (h1.trans (h2.mono h1.size)).trans (hb.mono (by omega))⟩
end Go.Proofs.YtgooepfhapaenaaGreat
/- What numbers, of package event, comes to at a kind. Written by tools/gen-eve.py. Conditions: as stated. -/
namespace Go.Proofs.YtgooepfhapaenaaGreat
open Go.ChangeShapes Go.WideShapes Go.ChangeAt Go.RowKit
set_option linter.unusedVariables false
set_option maxRecDepth 100000
set_option linter.unusedSimpArgs false

set_option maxHeartbeats 8000000 in
theorem numbers_1 (b : Nat) (w : World) (hx : w.cell? ⟨b, 0, none⟩ = some (.int .i64 1)) :
    Calls Tryz.prog 41 #[pt b 0] w fun e w' => ∃ u, e = .returned u ∧ NB (fun a => w.heap.size ≤ a) b (idxE 1) u w' ∧ Below w.heap.size w w' := by
  have hmf : ∀ (fn : Fn) (first cap : Array Value) (w : World), (Instr.makeFunc fn first cap).run Tryz.prog w = .ok (.func fn first cap) w := fun _ _ _ _ => rfl
  have hbs : b < w.heap.size := by
    unfold World.cell? at hx
    rcases Nat.lt_or_ge b w.heap.size with h | h
    · exact h
    · simp [h] at hx
  go_enter Tryz.func41, Tryz.ntmps41
  go_wp2_with fail
  refine two_numbers1 _ b w _ rfl rfl ?_
  intro s w1 g1 g2 F1 F2 q1 q2 n12 l1 l2 b1 b2 f1 f2 hb1
  simp only [putFrom, Act.put, List.setIfInBounds_toArray, List.set_cons_zero, List.set_cons_succ, Nat.zero_add, Nat.reduceAdd]
  rw [q1, q2]
  go_wp2_with fail
  refine two_numbers2 _ b w1 _ rfl rfl ?_
  intro s2 w2 g3 g4 F3 F4 q3 q4 n34 l3 l4 b3 b4 f3 f4 hb2
  simp only [putFrom, Act.put, List.setIfInBounds_toArray, List.set_cons_zero, List.set_cons_succ, Nat.zero_add, Nat.reduceAdd]
  rw [q3, q4]
  have HF0 := Lib.hid (fill_start hb1 hb2 l1 l2 b1 b2 f1 f2 b3 b4 f3 f4)
  have hx3 : ((w2.alloc (.cells #[.pointer none, .nilFunc, .pointer none, .nilFunc, .pointer none, .nilFunc, .pointer none, .nilFunc, .pointer none, .nilFunc] 87)).alloc (.cells #[.int .i64 5] 3)).cell? ⟨b, 0, none⟩ = some (.int .i64 1) := by
    rw [((HF0.out.bl)).cell (p := ⟨b, 0, none⟩) hbs]; exact hx
  obtain ⟨w3, hW⟩ : ∃ w3, ((w2.alloc (.cells #[.pointer none, .nilFunc, .pointer none, .nilFunc, .pointer none, .nilFunc, .pointer none, .nilFunc, .pointer none, .nilFunc] 87)).alloc (.cells #[.int .i64 5] 3)) = w3 := ⟨_, rfl⟩
  rw [hW] at HF0 hx3
  clear q1 q2 q3 q4 n12 n34 l1 l2 l3 l4 b1 b2 b3 b4 f1 f2 f3 f4 hb1 hb2 hx
  generalize s 0 = a0, s 1 = a1, s 2 = a2, s 3 = a3, s 4 = a4, s 5 = a5, s 6 = a6, s 7 = a7, s2 0 = c0, s2 1 = c1, s2 2 = c2, s2 3 = c3, s2 4 = c4, s2 5 = c5, s2 6 = c6, s2 7 = c7
  go_wp2_with fail
  refine (fill_vector HF0.out).mono ?_
  rintro e w4 ⟨lb1, rfl, hF1, hS1, nf1, nr1⟩
  have HF1 := Lib.hid hF1
  have HS := Lib.hid hS1
  clear hF1 hS1
  go_wp2_with fail
  refine (fill_ahead HF1.out lb1 3 3 [5, 6, 7] rfl (by omega) (by omega) HS.out nf1 nr1).mono ?_
  rintro e w5 ⟨rfl, hF2⟩
  have HF2 := Lib.hid hF2
  clear hF2 HS
  have HY := Lib.hid ((HF2.out).below (((Below.refl _ _).alloc (Nat.le_refl _) (.cells #[pt b 1, F1, pt b 3, F2] 63))))
  have HS := Lib.hid (src_two (blk_new _ _) HY.out.n1.2.1 HY.out.n2.2.1)
  have hlt := HF2.out.lt
  obtain ⟨x0, x1, x2, x3, x4, x5, x6, x7⟩ := fill_cells HF2.out
  go_wp2_with fail
  refine (fill_ahead HY.out w5.heap.size 2 2 [1, 3] rfl (by omega) (by omega) HS.out (by omega) (by omega)).mono ?_
  rintro e w6 ⟨rfl, hF3⟩
  have HF3 := Lib.hid hF3
  clear hF3 HS HY hlt x0 x1 x2 x3 x4 x5 x6 x7
  have y := fill_first HF3.out 0 rfl
  have hsl := fun W => room_sliceZ w2.heap.size 0 0 rfl W (by omega)
  go_wp2_with fail
  go_ret
  exact ⟨_, rfl, fill_out HF3.out (by omega), HF3.out.bl⟩
end Go.Proofs.YtgooepfhapaenaaGreat
/- What numbers, of package event, comes to at a kind. Written by tools/gen-eve.py. Conditions: as stated. -/
namespace Go.Proofs.YtgooepfhapaenaaGreat
open Go.ChangeShapes Go.WideShapes Go.ChangeAt Go.RowKit
set_option linter.unusedVariables false
set_option maxRecDepth 100000
set_option linter.unusedSimpArgs false

set_option maxHeartbeats 8000000 in
theorem numbers_2 (b : Nat) (w : World) (hx : w.cell? ⟨b, 0, none⟩ = some (.int .i64 2)) :
    Calls Tryz.prog 41 #[pt b 0] w fun e w' => ∃ u, e = .returned u ∧ NB (fun a => w.heap.size ≤ a) b (idxE 2) u w' ∧ Below w.heap.size w w' := by
  have hmf : ∀ (fn : Fn) (first cap : Array Value) (w : World), (Instr.makeFunc fn first cap).run Tryz.prog w = .ok (.func fn first cap) w := fun _ _ _ _ => rfl
  have hbs : b < w.heap.size := by
    unfold World.cell? at hx
    rcases Nat.lt_or_ge b w.heap.size with h | h
    · exact h
    · simp [h] at hx
  go_enter Tryz.func41, Tryz.ntmps41
  go_wp2_with fail
  refine two_numbers1 _ b w _ rfl rfl ?_
  intro s w1 g1 g2 F1 F2 q1 q2 n12 l1 l2 b1 b2 f1 f2 hb1
  simp only [putFrom, Act.put, List.setIfInBounds_toArray, List.set_cons_zero, List.set_cons_succ, Nat.zero_add, Nat.reduceAdd]
  rw [q1, q2]
  go_wp2_with fail
  refine two_numbers2 _ b w1 _ rfl rfl ?_
  intro s2 w2 g3 g4 F3 F4 q3 q4 n34 l3 l4 b3 b4 f3 f4 hb2
  simp only [putFrom, Act.put, List.setIfInBounds_toArray, List.set_cons_zero, List.set_cons_succ, Nat.zero_add, Nat.reduceAdd]
  rw [q3, q4]
  have HF0 := Lib.hid (fill_start hb1 hb2 l1 l2 b1 b2 f1 f2 b3 b4 f3 f4)
  have hx3 : ((w2.alloc (.cells #[.pointer none, .nilFunc, .pointer none, .nilFunc, .pointer none, .nilFunc, .pointer none, .nilFunc, .pointer none, .nilFunc] 87)).alloc (.cells #[.int .i64 5] 3)).cell? ⟨b, 0, none⟩ = some (.int .i64 2) := by
    rw [((HF0.out.bl)).cell (p := ⟨b, 0, none⟩) hbs]; exact hx
  obtain ⟨w3, hW⟩ : ∃ w3, ((w2.alloc (.cells #[.pointer none, .nilFunc, .pointer none, .nilFunc, .pointer none, .nilFunc, .pointer none, .nilFunc, .pointer none, .nilFunc] 87)).alloc (.cells #[.int .i64 5] 3)) = w3 := ⟨_, rfl⟩
  rw [hW] at HF0 hx3
  clear q1 q2 q3 q4 n12 n34 l1 l2 l3 l4 b1 b2 b3 b4 f1 f2 f3 f4 hb1 hb2 hx
  generalize s 0 = a0, s 1 = a1, s 2 = a2, s 3 = a3, s 4 = a4, s 5 = a5, s 6 = a6, s 7 = a7, s2 0 = c0, s2 1 = c1, s2 2 = c2, s2 3 = c3, s2 4 = c4, s2 5 = c5, s2 6 = c6, s2 7 = c7
  go_wp2_with fail
  refine (fill_vector HF0.out).mono ?_
  rintro e w4 ⟨lb1, rfl, hF1, hS1, nf1, nr1⟩
  have HF1 := Lib.hid hF1
  have HS := Lib.hid hS1
  clear hF1 hS1
  go_wp2_with fail
  refine (fill_ahead HF1.out lb1 3 3 [5, 6, 7] rfl (by omega) (by omega) HS.out nf1 nr1).mono ?_
  rintro e w5 ⟨rfl, hF2⟩
  have HF2 := Lib.hid hF2
  clear hF2 HS
  have HY := Lib.hid ((HF2.out).below (((Below.refl _ _).alloc (Nat.le_refl _) (.cells #[pt b 1, F1, pt b 3, F2] 63))))
  have HS := Lib.hid (src_two (blk_new _ _) HY.out.n1.2.1 HY.out.n2.2.1)
  have hlt := HF2.out.lt
  obtain ⟨x0, x1, x2, x3, x4, x5, x6, x7⟩ := fill_cells HF2.out
  go_wp2_with fail
  refine (fill_ahead HY.out w5.heap.size 2 2 [1, 3] rfl (by omega) (by omega) HS.out (by omega) (by omega)).mono ?_
  rintro e w6 ⟨rfl, hF3⟩
  have HF3 := Lib.hid hF3
  clear hF3 HS HY hlt x0 x1 x2 x3 x4 x5 x6 x7
  have y := fill_first HF3.out 0 rfl
  have hsl := fun W => room_sliceZ w2.heap.size 0 0 rfl W (by omega)
  go_wp2_with fail
  go_ret
  exact ⟨_, rfl, fill_out HF3.out (by omega), HF3.out.bl⟩
end Go.Proofs.YtgooepfhapaenaaGreat
/- What numbers, of package event, comes to at a kind. Written by tools/gen-eve.py. Conditions: as stated. -/
namespace Go.Proofs.YtgooepfhapaenaaGreat
open Go.ChangeShapes Go.WideShapes Go.ChangeAt Go.RowKit
set_option linter.unusedVariables false
set_option maxRecDepth 100000
set_option linter.unusedSimpArgs false

set_option maxHeartbeats 8000000 in
theorem numbers_3 (b : Nat) (w : World) (hx : w.cell? ⟨b, 0, none⟩ = some (.int .i64 3)) :
    Calls Tryz.prog 41 #[pt b 0] w fun e w' => ∃ u, e = .returned u ∧ NB (fun a => w.heap.size ≤ a) b (idxE 3) u w' ∧ Below w.heap.size w w' := by
  have hmf : ∀ (fn : Fn) (first cap : Array Value) (w : World), (Instr.makeFunc fn first cap).run Tryz.prog w = .ok (.func fn first cap) w := fun _ _ _ _ => rfl
  have hbs : b < w.heap.size := by
    unfold World.cell? at hx
    rcases Nat.lt_or_ge b w.heap.size with h | h
    · exact h
    · simp [h] at hx
  go_enter Tryz.func41, Tryz.ntmps41
  go_wp2_with fail
  refine two_numbers1 _ b w _ rfl rfl ?_
  intro s w1 g1 g2 F1 F2 q1 q2 n12 l1 l2 b1 b2 f1 f2 hb1
  simp only [putFrom, Act.put, List.setIfInBounds_toArray, List.set_cons_zero, List.set_cons_succ, Nat.zero_add, Nat.reduceAdd]
  rw [q1, q2]
  go_wp2_with fail
  refine two_numbers2 _ b w1 _ rfl rfl ?_
  intro s2 w2 g3 g4 F3 F4 q3 q4 n34 l3 l4 b3 b4 f3 f4 hb2
  simp only [putFrom, Act.put, List.setIfInBounds_toArray, List.set_cons_zero, List.set_cons_succ, Nat.zero_add, Nat.reduceAdd]
  rw [q3, q4]
  have HF0 := Lib.hid (fill_start hb1 hb2 l1 l2 b1 b2 f1 f2 b3 b4 f3 f4)
  have hx3 : ((w2.alloc (.cells #[.pointer none, .nilFunc, .pointer none, .nilFunc, .pointer none, .nilFunc, .pointer none, .nilFunc, .pointer none, .nilFunc] 87)).alloc (.cells #[.int .i64 5] 3)).cell? ⟨b, 0, none⟩ = some (.int .i64 3) := by
    rw [((HF0.out.bl)).cell (p := ⟨b, 0, none⟩) hbs]; exact hx
  obtain ⟨w3, hW⟩ : ∃ w3, ((w2.alloc (.cells #[.pointer none, .nilFunc, .pointer none, .nilFunc, .pointer none, .nilFunc, .pointer none, .nilFunc, .pointer none, .nilFunc] 87)).alloc (.cells #[.int .i64 5] 3)) = w3 := ⟨_, rfl⟩
  rw [hW] at HF0 hx3
  clear q1 q2 q3 q4 n12 n34 l1 l2 l3 l4 b1 b2 b3 b4 f1 f2 f3 f4 hb1 hb2 hx
  generalize s 0 = a0, s 1 = a1, s 2 = a2, s 3 = a3, s 4 = a4, s 5 = a5, s 6 = a6, s 7 = a7, s2 0 = c0, s2 1 = c1, s2 2 = c2, s2 3 = c3, s2 4 = c4, s2 5 = c5, s2 6 = c6, s2 7 = c7
  have HY := Lib.hid ((HF0.out).below (((Below.refl _ _).alloc (Nat.le_refl _) (.cells #[pt b 1, F1, pt b 3, F2] 63))))
  have HS := Lib.hid (src_two (blk_new _ _) HY.out.n1.2.1 HY.out.n2.2.1)
  have hlt := HF0.out.lt
  obtain ⟨x0, x1, x2, x3, x4, x5, x6, x7⟩ := fill_cells HF0.out
  go_wp2_with fail
  refine (fill_ahead HY.out w3.heap.size 2 2 [1, 3] rfl (by omega) (by omega) HS.out (by omega) (by omega)).mono ?_
  rintro e w4 ⟨rfl, hF1⟩
  have HF1 := Lib.hid hF1
  clear hF1 HS HY hlt x0 x1 x2 x3 x4 x5 x6 x7
  have y := fill_first HF1.out 3 rfl
  have hsl := fun W => room_sliceZ w2.heap.size 3 3 rfl W (by omega)
  go_wp2_with fail
  go_ret
  exact ⟨_, rfl, fill_out HF1.out (by omega), HF1.out.bl⟩
set_option maxHeartbeats 8000000 in
theorem numbers_4 (b : Nat) (w : World) (hx : w.cell? ⟨b, 0, none⟩ = some (.int .i64 4)) :
    Calls Tryz.prog 41 #[pt b 0] w fun e w' => ∃ u, e = .returned u ∧ NB (fun a => w.heap.size ≤ a) b (idxE 4) u w' ∧ Below w.heap.size w w' := by
  have hmf : ∀ (fn : Fn) (first cap : Array Value) (w : World), (Instr.makeFunc fn first cap).run Tryz.prog w = .ok (.func fn first cap) w := fun _ _ _ _ => rfl
  have hbs : b < w.heap.size := by
    unfold World.cell? at hx
    rcases Nat.lt_or_ge b w.heap.size with h | h
    · exact h
    · simp [h] at hx
  go_enter Tryz.func41, Tryz.ntmps41
  go_wp2_with fail
  refine two_numbers1 _ b w _ rfl rfl ?_
  intro s w1 g1 g2 F1 F2 q1 q2 n12 l1 l2 b1 b2 f1 f2 hb1
  simp only [putFrom, Act.put, List.setIfInBounds_toArray, List.set_cons_zero, List.set_cons_succ, Nat.zero_add, Nat.reduceAdd]
  rw [q1, q2]
  go_wp2_with fail
  refine two_numbers2 _ b w1 _ rfl rfl ?_
  intro s2 w2 g3 g4 F3 F4 q3 q4 n34 l3 l4 b3 b4 f3 f4 hb2
  simp only [putFrom, Act.put, List.setIfInBounds_toArray, List.set_cons_zero, List.set_cons_succ, Nat.zero_add, Nat.reduceAdd]
  rw [q3, q4]
  have HF0 := Lib.hid (fill_start hb1 hb2 l1 l2 b1 b2 f1 f2 b3 b4 f3 f4)
  have hx3 : ((w2.alloc (.cells #[.pointer none, .nilFunc, .pointer none, .nilFunc, .pointer none, .nilFunc, .pointer none, .nilFunc, .pointer none, .nilFunc] 87)).alloc (.cells #[.int .i64 5] 3)).cell? ⟨b, 0, none⟩ = some (.int .i64 4) := by
    rw [((HF0.out.bl)).cell (p := ⟨b, 0, none⟩) hbs]; exact hx
  obtain ⟨w3, hW⟩ : ∃ w3, ((w2.alloc (.cells #[.pointer none, .nilFunc, .pointer none, .nilFunc, .pointer none, .nilFunc, .pointer none, .nilFunc, .pointer none, .nilFunc] 87)).alloc (.cells #[.int .i64 5] 3)) = w3 := ⟨_, rfl⟩
  rw [hW] at HF0 hx3
  clear q1 q2 q3 q4 n12 n34 l1 l2 l3 l4 b1 b2 b3 b4 f1 f2 f3 f4 hb1 hb2 hx
  generalize s 0 = a0, s 1 = a1, s 2 = a2, s 3 = a3, s 4 = a4, s 5 = a5, s 6 = a6, s 7 = a7, s2 0 = c0, s2 1 = c1, s2 2 = c2, s2 3 = c3, s2 4 = c4, s2 5 = c5, s2 6 = c6, s2 7 = c7
  go_wp2_with fail
  refine (fill_vector HF0.out).mono ?_
  rintro e w4 ⟨lb1, rfl, hF1, hS1, nf1, nr1⟩
  have HF1 := Lib.hid hF1
  have HS := Lib.hid hS1
  clear hF1 hS1
  go_wp2_with fail
  refine (fill_ahead HF1.out lb1 3 3 [5, 6, 7] rfl (by omega) (by omega) HS.out nf1 nr1).mono ?_
  rintro e w5 ⟨rfl, hF2⟩
  have HF2 := Lib.hid hF2
  clear hF2 HS
  have HY := Lib.hid ((HF2.out).below (((Below.refl _ _).alloc (Nat.le_refl _) (.cells #[pt b 4, F4] 63))))
  have HS := Lib.hid (src_one (blk_new _ _) HY.out.n4.2.1)
  have hlt := HF2.out.lt
  obtain ⟨x0, x1, x2, x3, x4, x5, x6, x7⟩ := fill_cells HF2.out
  go_wp2_with fail
  refine (fill_ahead HY.out w5.heap.size 1 1 [4] rfl (by omega) (by omega) HS.out (by omega) (by omega)).mono ?_
  rintro e w6 ⟨rfl, hF3⟩
  have HF3 := Lib.hid hF3
  clear hF3 HS HY hlt x0 x1 x2 x3 x4 x5 x6 x7
  have HY := Lib.hid ((HF3.out).below (((Below.refl _ _).alloc (Nat.le_refl _) (.cells #[pt b 2, F3] 63))))
  have HS := Lib.hid (src_one (blk_new _ _) HY.out.n3.2.1)
  have hlt := HF3.out.lt
  obtain ⟨x0, x1, x2, x3, x4, x5, x6, x7⟩ := fill_cells HF3.out
  go_wp2_with fail
  refine (fill_ahead HY.out w6.heap.size 1 1 [2] rfl (by omega) (by omega) HS.out (by omega) (by omega)).mono ?_
  rintro e w7 ⟨rfl, hF4⟩
  have HF4 := Lib.hid hF4
  clear hF4 HS HY hlt x0 x1 x2 x3 x4 x5 x6 x7
  have y := fill_first HF4.out 0 rfl
  have hsl := fun W => room_sliceZ w2.heap.size 0 0 rfl W (by omega)
  go_wp2_with fail
  go_ret
  exact ⟨_, rfl, fill_out HF4.out (by omega), HF4.out.bl⟩
end Go.Proofs.YtgooepfhapaenaaGreat
/- What numbers, of package event, comes to at a kind. Written by tools/gen-eve.py. Conditions: as stated. -/
namespace Go.Proofs.YtgooepfhapaenaaGreat
open Go.ChangeShapes Go.WideShapes Go.ChangeAt Go.RowKit
set_option linter.unusedVariables false
set_option maxRecDepth 100000
set_option linter.unusedSimpArgs false

set_option maxHeartbeats 8000000 in
theorem numbers_5 (b : Nat) (w : World) (hx : w.cell? ⟨b, 0, none⟩ = some (.int .i64 5)) :
    Calls Tryz.prog 41 #[pt b 0] w fun e w' => ∃ u, e = .returned u ∧ NB (fun a => w.heap.size ≤ a) b (idxE 5) u w' ∧ Below w.heap.size w w' := by
  have hmf : ∀ (fn : Fn) (first cap : Array Value) (w : World), (Instr.makeFunc fn first cap).run Tryz.prog w = .ok (.func fn first cap) w := fun _ _ _ _ => rfl
  have hbs : b < w.heap.size := by
    unfold World.cell? at hx
    rcases Nat.lt_or_ge b w.heap.size with h | h
    · exact h
    · simp [h] at hx
  go_enter Tryz.func41, Tryz.ntmps41
  go_wp2_with fail
  refine two_numbers1 _ b w _ rfl rfl ?_
  intro s w1 g1 g2 F1 F2 q1 q2 n12 l1 l2 b1 b2 f1 f2 hb1
  simp only [putFrom, Act.put, List.setIfInBounds_toArray, List.set_cons_zero, List.set_cons_succ, Nat.zero_add, Nat.reduceAdd]
  rw [q1, q2]
  go_wp2_with fail
  refine two_numbers2 _ b w1 _ rfl rfl ?_
  intro s2 w2 g3 g4 F3 F4 q3 q4 n34 l3 l4 b3 b4 f3 f4 hb2
  simp only [putFrom, Act.put, List.setIfInBounds_toArray, List.set_cons_zero, List.set_cons_succ, Nat.zero_add, Nat.reduceAdd]
  rw [q3, q4]
  have HF0 := Lib.hid (fill_start hb1 hb2 l1 l2 b1 b2 f1 f2 b3 b4 f3 f4)
  have hx3 : ((w2.alloc (.cells #[.pointer none, .nilFunc, .pointer none, .nilFunc, .pointer none, .nilFunc, .pointer none, .nilFunc, .pointer none, .nilFunc] 87)).alloc (.cells #[.int .i64 5] 3)).cell? ⟨b, 0, none⟩ = some (.int .i64 5) := by
    rw [((HF0.out.bl)).cell (p := ⟨b, 0, none⟩) hbs]; exact hx
  obtain ⟨w3, hW⟩ : ∃ w3, ((w2.alloc (.cells #[.pointer none, .nilFunc, .pointer none, .nilFunc, .pointer none, .nilFunc, .pointer none, .nilFunc, .pointer none, .nilFunc] 87)).alloc (.cells #[.int .i64 5] 3)) = w3 := ⟨_, rfl⟩
  rw [hW] at HF0 hx3
  clear q1 q2 q3 q4 n12 n34 l1 l2 l3 l4 b1 b2 b3 b4 f1 f2 f3 f4 hb1 hb2 hx
  generalize s 0 = a0, s 1 = a1, s 2 = a2, s 3 = a3, s 4 = a4, s 5 = a5, s 6 = a6, s 7 = a7, s2 0 = c0, s2 1 = c1, s2 2 = c2, s2 3 = c3, s2 4 = c4, s2 5 = c5, s2 6 = c6, s2 7 = c7
  have HY := Lib.hid ((HF0.out).below (((Below.refl _ _).alloc (Nat.le_refl _) (.cells #[pt b 2, F3] 63))))
  have HS := Lib.hid (src_one (blk_new _ _) HY.out.n3.2.1)
  have hlt := HF0.out.lt
  obtain ⟨x0, x1, x2, x3, x4, x5, x6, x7⟩ := fill_cells HF0.out
  go_wp2_with fail
  refine (fill_ahead HY.out w3.heap.size 1 1 [2] rfl (by omega) (by omega) HS.out (by omega) (by omega)).mono ?_
  rintro e w4 ⟨rfl, hF1⟩
  have HF1 := Lib.hid hF1
  clear hF1 HS HY hlt x0 x1 x2 x3 x4 x5 x6 x7
  have y := fill_first HF1.out 4 rfl
  have hsl := fun W => room_sliceZ w2.heap.size 4 4 rfl W (by omega)
  go_wp2_with fail
  go_ret
  exact ⟨_, rfl, fill_out HF1.out (by omega), HF1.out.bl⟩
set_option maxHeartbeats 8000000 in
theorem numbers_6 (b : Nat) (w : World) (hx : w.cell? ⟨b, 0, none⟩ = some (.int .i64 6)) :
    Calls Tryz.prog 41 #[pt b 0] w fun e w' => ∃ u, e = .returned u ∧ NB (fun a => w.heap.size ≤ a) b (idxE 6) u w' ∧ Below w.heap.size w w' := by
  have hmf : ∀ (fn : Fn) (first cap : Array Value) (w : World), (Instr.makeFunc fn first cap).run Tryz.prog w = .ok (.func fn first cap) w := fun _ _ _ _ => rfl
  have hbs : b < w.heap.size := by
    unfold World.cell? at hx
    rcases Nat.lt_or_ge b w.heap.size with h | h
    · exact h
    · simp [h] at hx
  go_enter Tryz.func41, Tryz.ntmps41
  go_wp2_with fail
  refine two_numbers1 _ b w _ rfl rfl ?_
  intro s w1 g1 g2 F1 F2 q1 q2 n12 l1 l2 b1 b2 f1 f2 hb1
  simp only [putFrom, Act.put, List.setIfInBounds_toArray, List.set_cons_zero, List.set_cons_succ, Nat.zero_add, Nat.reduceAdd]
  rw [q1, q2]
  go_wp2_with fail
  refine two_numbers2 _ b w1 _ rfl rfl ?_
  intro s2 w2 g3 g4 F3 F4 q3 q4 n34 l3 l4 b3 b4 f3 f4 hb2
  simp only [putFrom, Act.put, List.setIfInBounds_toArray, List.set_cons_zero, List.set_cons_succ, Nat.zero_add, Nat.reduceAdd]
  rw [q3, q4]
  have HF0 := Lib.hid (fill_start hb1 hb2 l1 l2 b1 b2 f1 f2 b3 b4 f3 f4)
  have hx3 : ((w2.alloc (.cells #[.pointer none, .nilFunc, .pointer none, .nilFunc, .pointer none, .nilFunc, .pointer none, .nilFunc, .pointer none, .nilFunc] 87)).alloc (.cells #[.int .i64 5] 3)).cell? ⟨b, 0, none⟩ = some (.int .i64 6) := by
    rw [((HF0.out.bl)).cell (p := ⟨b, 0, none⟩) hbs]; exact hx
  obtain ⟨w3, hW⟩ : ∃ w3, ((w2.alloc (.cells #[.pointer none, .nilFunc, .pointer none, .nilFunc, .pointer none, .nilFunc, .pointer none, .nilFunc, .pointer none, .nilFunc] 87)).alloc (.cells #[.int .i64 5] 3)) = w3 := ⟨_, rfl⟩
  rw [hW] at HF0 hx3
  clear q1 q2 q3 q4 n12 n34 l1 l2 l3 l4 b1 b2 b3 b4 f1 f2 f3 f4 hb1 hb2 hx
  generalize s 0 = a0, s 1 = a1, s 2 = a2, s 3 = a3, s 4 = a4, s 5 = a5, s 6 = a6, s 7 = a7, s2 0 = c0, s2 1 = c1, s2 2 = c2, s2 3 = c3, s2 4 = c4, s2 5 = c5, s2 6 = c6, s2 7 = c7
  have HY := Lib.hid ((HF0.out).below (((Below.refl _ _).alloc (Nat.le_refl _) (.cells #[pt b 2, F3, pt b 1, F1, pt b 3, F2] 63))))
  have HS := Lib.hid (src_three (blk_new _ _) HY.out.n3.2.1 HY.out.n1.2.1 HY.out.n2.2.1)
  have hlt := HF0.out.lt
  obtain ⟨x0, x1, x2, x3, x4, x5, x6, x7⟩ := fill_cells HF0.out
  go_wp2_with fail
  refine (fill_ahead HY.out w3.heap.size 3 3 [2, 1, 3] rfl (by omega) (by omega) HS.out (by omega) (by omega)).mono ?_
  rintro e w4 ⟨rfl, hF1⟩
  have HF1 := Lib.hid hF1
  clear hF1 HS HY hlt x0 x1 x2 x3 x4 x5 x6 x7
  have y := fill_first HF1.out 2 rfl
  have hsl := fun W => room_sliceZ w2.heap.size 2 2 rfl W (by omega)
  go_wp2_with fail
  go_ret
  exact ⟨_, rfl, fill_out HF1.out (by omega), HF1.out.bl⟩
end Go.Proofs.YtgooepfhapaenaaGreat
/- What numbers, of package event, comes to at a kind. Written by tools/gen-eve.py. Conditions: as stated. -/
namespace Go.Proofs.YtgooepfhapaenaaGreat
open Go.ChangeShapes Go.WideShapes Go.ChangeAt Go.RowKit
set_option linter.unusedVariables false
set_option maxRecDepth 100000
set_option linter.unusedSimpArgs false

set_option maxHeartbeats 8000000 in
theorem numbers_7 (b : Nat) (w : World) (hx : w.cell? ⟨b, 0, none⟩ = some (.int .i64 7)) :
    Calls Tryz.prog 41 #[pt b 0] w fun e w' => ∃ u, e = .returned u ∧ NB (fun a => w.heap.size ≤ a) b (idxE 7) u w' ∧ Below w.heap.size w w' := by
  have hmf : ∀ (fn : Fn) (first cap : Array Value) (w : World), (Instr.makeFunc fn first cap).run Tryz.prog w = .ok (.func fn first cap) w := fun _ _ _ _ => rfl
  have hbs : b < w.heap.size := by
    unfold World.cell? at hx
    rcases Nat.lt_or_ge b w.heap.size with h | h
    · exact h
    · simp [h] at hx
  go_enter Tryz.func41, Tryz.ntmps41
  go_wp2_with fail
  refine two_numbers1 _ b w _ rfl rfl ?_
  intro s w1 g1 g2 F1 F2 q1 q2 n12 l1 l2 b1 b2 f1 f2 hb1
  simp only [putFrom, Act.put, List.setIfInBounds_toArray, List.set_cons_zero, List.set_cons_succ, Nat.zero_add, Nat.reduceAdd]
  rw [q1, q2]
  go_wp2_with fail
  refine two_numbers2 _ b w1 _ rfl rfl ?_
  intro s2 w2 g3 g4 F3 F4 q3 q4 n34 l3 l4 b3 b4 f3 f4 hb2
  simp only [putFrom, Act.put, List.setIfInBounds_toArray, List.set_cons_zero, List.set_cons_succ, Nat.zero_add, Nat.reduceAdd]
  rw [q3, q4]
  have HF0 := Lib.hid (fill_start hb1 hb2 l1 l2 b1 b2 f1 f2 b3 b4 f3 f4)
  have hx3 : ((w2.alloc (.cells #[.pointer none, .nilFunc, .pointer none, .nilFunc, .pointer none, .nilFunc, .pointer none, .nilFunc, .pointer none, .nilFunc] 87)).alloc (.cells #[.int .i64 5] 3)).cell? ⟨b, 0, none⟩ = some (.int .i64 7) := by
    rw [((HF0.out.bl)).cell (p := ⟨b, 0, none⟩) hbs]; exact hx
  obtain ⟨w3, hW⟩ : ∃ w3, ((w2.alloc (.cells #[.pointer none, .nilFunc, .pointer none, .nilFunc, .pointer none, .nilFunc, .pointer none, .nilFunc, .pointer none, .nilFunc] 87)).alloc (.cells #[.int .i64 5] 3)) = w3 := ⟨_, rfl⟩
  rw [hW] at HF0 hx3
  clear q1 q2 q3 q4 n12 n34 l1 l2 l3 l4 b1 b2 b3 b4 f1 f2 f3 f4 hb1 hb2 hx
  generalize s 0 = a0, s 1 = a1, s 2 = a2, s 3 = a3, s 4 = a4, s 5 = a5, s 6 = a6, s 7 = a7, s2 0 = c0, s2 1 = c1, s2 2 = c2, s2 3 = c3, s2 4 = c4, s2 5 = c5, s2 6 = c6, s2 7 = c7
  have HY := Lib.hid ((HF0.out).below (((Below.refl _ _).alloc (Nat.le_refl _) (.cells #[pt b 2, F3, pt b 1, F1, pt b 3, F2] 63))))
  have HS := Lib.hid (src_three (blk_new _ _) HY.out.n3.2.1 HY.out.n1.2.1 HY.out.n2.2.1)
  have hlt := HF0.out.lt
  obtain ⟨x0, x1, x2, x3, x4, x5, x6, x7⟩ := fill_cells HF0.out
  go_wp2_with fail
  refine (fill_ahead HY.out w3.heap.size 3 3 [2, 1, 3] rfl (by omega) (by omega) HS.out (by omega) (by omega)).mono ?_
  rintro e w4 ⟨rfl, hF1⟩
  have HF1 := Lib.hid hF1
  clear hF1 HS HY hlt x0 x1 x2 x3 x4 x5 x6 x7
  have y := fill_first HF1.out 2 rfl
  have hsl := fun W => room_sliceZ w2.heap.size 2 2 rfl W (by omega)
  go_wp2_with fail
  go_ret
  exact ⟨_, rfl, fill_out HF1.out (by omega), HF1.out.bl⟩
set_option maxHeartbeats 8000000 in
theorem numbers_none (b : Nat) (k : Int) (w : World) (hk : k ≠ 1 ∧ k ≠ 2 ∧ k ≠ 3 ∧ k ≠ 4 ∧ k ≠ 5 ∧ k ≠ 6 ∧ k ≠ 7) (hx : w.cell? ⟨b, 0, none⟩ = some (.int .i64 k)) :
    Calls Tryz.prog 41 #[pt b 0] w fun e w' => ∃ u, e = .returned u ∧ NB (fun a => w.heap.size ≤ a) b (idxE k) u w' ∧ Below w.heap.size w w' := by
  have hmf : ∀ (fn : Fn) (first cap : Array Value) (w : World), (Instr.makeFunc fn first cap).run Tryz.prog w = .ok (.func fn first cap) w := fun _ _ _ _ => rfl
  have hbs : b < w.heap.size := by
    unfold World.cell? at hx
    rcases Nat.lt_or_ge b w.heap.size with h | h
    · exact h
    · simp [h] at hx
  go_enter Tryz.func41, Tryz.ntmps41
  go_wp2_with fail
  refine two_numbers1 _ b w _ rfl rfl ?_
  intro s w1 g1 g2 F1 F2 q1 q2 n12 l1 l2 b1 b2 f1 f2 hb1
  simp only [putFrom, Act.put, List.setIfInBounds_toArray, List.set_cons_zero, List.set_cons_succ, Nat.zero_add, Nat.reduceAdd]
  rw [q1, q2]
  go_wp2_with fail
  refine two_numbers2 _ b w1 _ rfl rfl ?_
  intro s2 w2 g3 g4 F3 F4 q3 q4 n34 l3 l4 b3 b4 f3 f4 hb2
  simp only [putFrom, Act.put, List.setIfInBounds_toArray, List.set_cons_zero, List.set_cons_succ, Nat.zero_add, Nat.reduceAdd]
  rw [q3, q4]
  have HF0 := Lib.hid (fill_start hb1 hb2 l1 l2 b1 b2 f1 f2 b3 b4 f3 f4)
  have hx3 : ((w2.alloc (.cells #[.pointer none, .nilFunc, .pointer none, .nilFunc, .pointer none, .nilFunc, .pointer none, .nilFunc, .pointer none, .nilFunc] 87)).alloc (.cells #[.int .i64 5] 3)).cell? ⟨b, 0, none⟩ = some (.int .i64 k) := by
    rw [((HF0.out.bl)).cell (p := ⟨b, 0, none⟩) hbs]; exact hx
  obtain ⟨w3, hW⟩ : ∃ w3, ((w2.alloc (.cells #[.pointer none, .nilFunc, .pointer none, .nilFunc, .pointer none, .nilFunc, .pointer none, .nilFunc, .pointer none, .nilFunc] 87)).alloc (.cells #[.int .i64 5] 3)) = w3 := ⟨_, rfl⟩
  rw [hW] at HF0 hx3
  clear q1 q2 q3 q4 n12 n34 l1 l2 l3 l4 b1 b2 b3 b4 f1 f2 f3 f4 hb1 hb2 hx
  generalize s 0 = a0, s 1 = a1, s 2 = a2, s 3 = a3, s 4 = a4, s 5 = a5, s 6 = a6, s 7 = a7, s2 0 = c0, s2 1 = c1, s2 2 = c2, s2 3 = c3, s2 4 = c4, s2 5 = c5, s2 6 = c6, s2 7 = c7
  obtain ⟨k1, k2, k3, k4, k5, k6, k7⟩ := hk
  have y := fill_first HF0.out 5 rfl
  have hsl := fun W => room_slice5 w2.heap.size W
  have e0 : idxE k = [] := by unfold idxE; rw [if_neg (by omega), if_neg k3, if_neg k4, if_neg k5, if_neg (by omega)]
  have HE0 := Lib.hid e0
  clear e0
  have HF1 := HF0
  clear HF0
  have z1 : decide (k = 1) = false := decide_eq_false k1
  have z2 : decide (k = 2) = false := decide_eq_false k2
  have z3 : decide (k = 3) = false := decide_eq_false k3
  have z4 : decide (k = 4) = false := decide_eq_false k4
  have z5 : decide (k = 5) = false := decide_eq_false k5
  have z6 : decide (k = 6) = false := decide_eq_false k6
  have z7 : decide (k = 7) = false := decide_eq_false k7
  go_wp2_with fail
  go_ret
  exact ⟨_, rfl, by rw [HE0.out]; exact fill_none HF1.out, HF1.out.bl⟩
end Go.Proofs.YtgooepfhapaenaaGreat
/- What numbers, of package event, comes to. Conditions: as stated. -/
namespace Go.Proofs.YtgooepfhapaenaaGreat
open Go.ChangeShapes Go.WideShapes Go.ChangeAt Go.RowKit
set_option linter.unusedVariables false

theorem numbers_any (b : Nat) (k : Int) (w : World) (hx : w.cell? ⟨b, 0, none⟩ = some (.int .i64 k)) :
    Calls Tryz.prog 41 #[pt b 0] w fun e w' => ∃ u, e = .returned u ∧ NB (fun a => w.heap.size ≤ a) b (idxE k) u w' ∧ Below w.heap.size w w' := by
  rcases (by omega : k = 1 ∨ k = 2 ∨ k = 3 ∨ k = 4 ∨ k = 5 ∨ k = 6 ∨ k = 7 ∨ (k ≠ 1 ∧ k ≠ 2 ∧ k ≠ 3 ∧ k ≠ 4 ∧ k ≠ 5 ∧ k ≠ 6 ∧ k ≠ 7)) with rfl | rfl | rfl | rfl | rfl | rfl | rfl | hk
  · exact numbers_1 b w hx
  · exact numbers_2 b w hx
  · exact numbers_3 b w hx
  · exact numbers_4 b w hx
  · exact numbers_5 b w hx
  · exact numbers_6 b w hx
  · exact numbers_7 b w hx
  · exact numbers_none b k w hk hx
end Go.Proofs.YtgooepfhapaenaaGreat
/- Plain facts on the numbers of an event by their cells; what Check, of package event, comes to. Conditions: as stated. -/
namespace Go.Proofs.YtgooepfhapaenaaGreat
open Go.ChangeShapes Go.WideShapes Go.ChangeAt Go.RowKit
set_option linter.unusedVariables false
set_option maxRecDepth 100000
set_option linter.unusedSimpArgs false

/-! ### Plain -/
def setE (v : Evt) (j : Nat) (x : Int) : Evt := if j = 1 then { v with n := x } else if j = 2 then { v with j := x } else if j = 3 then { v with i := x } else if j = 4 then { v with p := x } else if j = 5 then { v with r := ⟨x, v.r.b, v.r.c⟩ } else if j = 6 then { v with r := ⟨v.r.a, x, v.r.c⟩ } else { v with r := ⟨v.r.a, v.r.b, x⟩ }
theorem setE_cells (v : Evt) (j : Nat) (x : Int) (h : 1 ≤ j ∧ j < 8) : v.cells.setIfInBounds j (.int .i64 x) = (setE v j x).cells := by
  rcases (by omega : j = 1 ∨ j = 2 ∨ j = 3 ∨ j = 4 ∨ j = 5 ∨ j = 6 ∨ j = 7) with rfl | rfl | rfl | rfl | rfl | rfl | rfl <;> rfl
theorem setE_k (v : Evt) (j : Nat) (x : Int) : (setE v j x).k = v.k := by unfold setE; (repeat' split) <;> rfl
theorem setE_ok (v : Evt) (j : Nat) (x : Int) (hv : v.ok) (hx : inI x) : (setE v j x).ok := by
  obtain ⟨h1, h2, h3, h4, h5, h6, h7, h8⟩ := hv
  unfold setE
  (repeat' split) <;> exact ⟨by assumption, by assumption, by assumption, by assumption, by assumption, by assumption, by assumption, by assumption⟩
/-- The numbers laid into the cells, in order. -/
def layE : List Nat → List Int → Evt → Evt
  | j :: ks, x :: xs, v => layE ks xs (setE v j x)
  | _, _, v => v
theorem layE_k : ∀ (ks : List Nat) (xs : List Int) (v : Evt), (layE ks xs v).k = v.k
  | [], _, _ => by unfold layE; rfl
  | _ :: _, [], _ => by unfold layE; rfl
  | j :: ks, x :: xs, v => by rw [layE, layE_k ks xs, setE_k]
theorem layE_snoc (v : Evt) (j : Nat) (x : Int) : ∀ (ks : List Nat) (xs : List Int) (u : Evt), ks.length = xs.length → layE (ks ++ [j]) (xs ++ [x]) u = setE (layE ks xs u) j x
  | [], [], _, _ => rfl
  | k :: ks, y :: xs, u, h => by
    rw [List.cons_append, List.cons_append, layE, layE, layE_snoc v j x ks xs _ (by simpa using h)]
theorem idx_cases (k : Int) : (k = 1 ∧ idxE k = [1, 3, 5, 6, 7] ∧ lettersE k = [78, 73, 82]) ∨ (k = 2 ∧ idxE k = [1, 3, 5, 6, 7] ∧ lettersE k = [78, 73, 82]) ∨ (k = 3 ∧ idxE k = [1, 3] ∧ lettersE k = [78, 73]) ∨ (k = 4 ∧ idxE k = [2, 4, 5, 6, 7] ∧ lettersE k = [74, 80, 82]) ∨
    (k = 5 ∧ idxE k = [2] ∧ lettersE k = [74]) ∨ (k = 6 ∧ idxE k = [2, 1, 3] ∧ lettersE k = [74, 78, 73]) ∨ (k = 7 ∧ idxE k = [2, 1, 3] ∧ lettersE k = [74, 78, 73]) ∨ (idxE k = [] ∧ lettersE k = []) := by
  by_cases h1 : k = 1; · subst h1; exact .inl ⟨rfl, rfl, rfl⟩
  by_cases h2 : k = 2; · subst h2; exact .inr (.inl ⟨rfl, rfl, rfl⟩)
  by_cases h3 : k = 3; · subst h3; exact .inr (.inr (.inl ⟨rfl, rfl, rfl⟩))
  by_cases h4 : k = 4; · subst h4; exact .inr (.inr (.inr (.inl ⟨rfl, rfl, rfl⟩)))
  by_cases h5 : k = 5; · subst h5; exact .inr (.inr (.inr (.inr (.inl ⟨rfl, rfl, rfl⟩))))
  by_cases h6 : k = 6; · subst h6; exact .inr (.inr (.inr (.inr (.inr (.inl ⟨rfl, rfl, rfl⟩)))))
  by_cases h7 : k = 7; · subst h7; exact .inr (.inr (.inr (.inr (.inr (.inr (.inl ⟨rfl, rfl, rfl⟩))))))
  refine .inr (.inr (.inr (.inr (.inr (.inr (.inr ⟨?_, ?_⟩))))))
  · unfold idxE; rw [if_neg (by omega), if_neg h3, if_neg h4, if_neg h5, if_neg (by omega)]
  · unfold lettersE; rw [if_neg (by omega), if_neg h3, if_neg h4, if_neg h5, if_neg (by omega)]
theorem idx_none (k : Int) : idxE k = [] ↔ lettersE k = [] := by
  rcases idx_cases k with ⟨_, h1, h2⟩ | ⟨_, h1, h2⟩ | ⟨_, h1, h2⟩ | ⟨_, h1, h2⟩ | ⟨_, h1, h2⟩ | ⟨_, h1, h2⟩ | ⟨_, h1, h2⟩ | ⟨h1, h2⟩ <;> rw [h1, h2] <;> simp
theorem idx_len (k : Int) : (idxE k).length = manyE (lettersE k) := by
  rcases idx_cases k with ⟨_, h1, h2⟩ | ⟨_, h1, h2⟩ | ⟨_, h1, h2⟩ | ⟨_, h1, h2⟩ | ⟨_, h1, h2⟩ | ⟨_, h1, h2⟩ | ⟨_, h1, h2⟩ | ⟨h1, h2⟩ <;> rw [h1, h2] <;> rfl
theorem idx_lt (k : Int) : ∀ j ∈ idxE k, 1 ≤ j ∧ j < 8 := by
  rcases idx_cases k with ⟨_, h1, h2⟩ | ⟨_, h1, h2⟩ | ⟨_, h1, h2⟩ | ⟨_, h1, h2⟩ | ⟨_, h1, h2⟩ | ⟨_, h1, h2⟩ | ⟨_, h1, h2⟩ | ⟨h1, h2⟩ <;> rw [h1] <;> decide
theorem idx_nums (v : Evt) (k : Int) : numsE v (lettersE k) = (idxE k).map fun j => (intsE v).getD j 0 := by
  rcases idx_cases k with ⟨_, h1, h2⟩ | ⟨_, h1, h2⟩ | ⟨_, h1, h2⟩ | ⟨_, h1, h2⟩ | ⟨_, h1, h2⟩ | ⟨_, h1, h2⟩ | ⟨_, h1, h2⟩ | ⟨h1, h2⟩ <;> rw [h1, h2] <;> rfl
theorem idx_all (v : Evt) (k : Int) : (lettersE k).all (okFv v) = (idxE k).all (okAt v) := by
  have a1 : okFv v 78 = okAt v 1 := by unfold okFv okAt rightN; simp [Bool.decide_and]
  have a2 : okFv v 74 = okAt v 2 := by unfold okFv okAt rightN; simp [Bool.decide_and]
  have a3 : okFv v 73 = okAt v 3 := by unfold okFv okAt rightN; simp [Bool.decide_and]
  have a4 : okFv v 80 = okAt v 4 := by unfold okFv okAt rightN; simp [Bool.decide_and]
  have a5 : okFv v 82 = rightB v.r := by unfold okFv; simp
  have a6 : ∀ j, 5 ≤ j → okAt v j = rightB v.r := fun j h => by unfold okAt; rw [if_neg (by omega), if_neg (by omega), if_neg (by omega), if_neg (by omega)]
  rcases idx_cases k with ⟨_, h1, h2⟩ | ⟨_, h1, h2⟩ | ⟨_, h1, h2⟩ | ⟨_, h1, h2⟩ | ⟨_, h1, h2⟩ | ⟨_, h1, h2⟩ | ⟨_, h1, h2⟩ | ⟨h1, h2⟩ <;> rw [h1, h2] <;>
    simp [List.all_cons, a1, a2, a3, a4, a5, a6 5, a6 6, a6 7]
theorem idx_made (k : Int) (l : List Int) (h : l.length = (idxE k).length) : layE (idxE k) l ⟨k, 0, 0, 0, 0, zero3⟩ = madeE k l := by
  unfold madeE
  rcases idx_cases k with ⟨_, h1, h2⟩ | ⟨_, h1, h2⟩ | ⟨_, h1, h2⟩ | ⟨_, h1, h2⟩ | ⟨_, h1, h2⟩ | ⟨_, h1, h2⟩ | ⟨_, h1, h2⟩ | ⟨h1, h2⟩ <;> rw [h1] at h ⊢ <;> rw [h2]
  · obtain ⟨a, b, c, d, e, rfl⟩ := len5 h; rfl
  · obtain ⟨a, b, c, d, e, rfl⟩ := len5 h; rfl
  · obtain ⟨a, b, rfl⟩ := len2 h; rfl
  · obtain ⟨a, b, c, d, e, rfl⟩ := len5 h; rfl
  · obtain ⟨a, rfl⟩ := len1 h; rfl
  · obtain ⟨a, b, c, rfl⟩ := len3 h; rfl
  · obtain ⟨a, b, c, rfl⟩ := len3 h; rfl
  · obtain rfl := List.eq_nil_of_length_eq_zero h; rfl
/-- What is left of an event without its kind's numbers. -/
def bareE (v : Evt) (m : Nat) : Evt := layE ((idxE v.k).take m) (List.replicate m 0) v
theorem bareE_zero (v : Evt) : bareE v 0 = v := by unfold bareE; rw [List.take_zero]; rfl
theorem bareE_succ (v : Evt) (m : Nat) (j : Nat) (h : (idxE v.k)[m]? = some j) : bareE v (m + 1) = setE (bareE v m) j 0 := by
  obtain ⟨hm, hj⟩ := List.getElem?_eq_some_iff.1 h
  unfold bareE
  rw [List.take_succ_eq_append_getElem hm, hj, List.replicate_succ', layE_snoc v j 0 _ _ _ (by simp; omega)]
theorem bareE_k (v : Evt) (m : Nat) : (bareE v m).k = v.k := layE_k _ _ _
theorem bare_pure (v : Evt) (h : idxE v.k ≠ []) : eqE (bareE v (idxE v.k).length) ⟨v.k, 0, 0, 0, 0, zero3⟩ = eqE (pureE v) v := by
  rw [Bool.eq_iff_iff, eqE_iff, eqE_iff]
  have hl : lettersE v.k ≠ [] := fun e => h ((idx_none _).2 e)
  have hp : pureE v = layE (idxE v.k) ((idxE v.k).map fun j => (intsE v).getD j 0) ⟨v.k, 0, 0, 0, 0, zero3⟩ := by
    unfold pureE; rw [if_neg hl, idx_nums, ← idx_made _ _ (by simp)]
  rw [hp]
  unfold bareE
  rw [List.take_length]
  obtain ⟨k, n, j, i, p, ⟨a, b, c⟩⟩ := v
  dsimp only at h ⊢
  rcases idx_cases k with ⟨_, h1, h2⟩ | ⟨_, h1, h2⟩ | ⟨_, h1, h2⟩ | ⟨_, h1, h2⟩ | ⟨_, h1, h2⟩ | ⟨_, h1, h2⟩ | ⟨_, h1, h2⟩ | ⟨h1, h2⟩
  all_goals first
    | exact absurd h1 h
    | (rw [h1]; simp [layE, setE, intsE, zero3, List.replicate]; (try constructor) <;> intros <;> (try simp_all) <;> omega)
end Go.Proofs.YtgooepfhapaenaaGreat
/- What Check, of package event, comes to. Conditions: the event's numbers fit. -/
namespace Go.Proofs.YtgooepfhapaenaaGreat
open Go.ChangeShapes Go.WideShapes Go.ChangeAt Go.RowKit
set_option linter.unusedVariables false
set_option maxRecDepth 100000
set_option linter.unusedSimpArgs false

theorem NB.form {K : Nat → Prop} {b : Nat} {ks : List Nat} {u : Value} {w : World} (h : NB K b ks u w) : ∃ rb o cap, u = .slice (some ⟨rb, o, none⟩) ks.length cap ∧ ks.length ≤ 5 := by
  obtain ⟨rb, o, cap, R, t, e, h1, h2, h3, h4, h5⟩ := h
  exact ⟨rb, o, cap, e, h1⟩
/-- A number of the list. -/
theorem NB.at {K : Nat → Prop} {b rb o n cap : Nat} {ks : List Nat} {w : World} (h : NB K b ks (.slice (some ⟨rb, o, none⟩) n cap) w) (i j : Nat) (hi : ks[i]? = some j) :
    ∃ F, w.cell? ⟨rb, o + i * 2, none⟩ = some (pt b j) ∧ w.cell? ⟨rb, o + i * 2 + 1, none⟩ = some F ∧ FnOk K b j F w := by
  obtain ⟨rb', o', cap', R, t, e, h1, h2, h3, h4, h5⟩ := h
  injection e with e1 e2 e3
  injection e1 with e1
  injection e1 with e1 e4
  subst e1 e4
  obtain ⟨F, g1, g2, g3⟩ := h5 i j hi
  exact ⟨F, (blk_cell h4 _).trans (by rw [Nat.mul_comm]; exact g1), (blk_cell h4 _).trans (by rw [Nat.mul_comm]; exact g2), g3⟩
theorem evt_new (w : World) (v : Evt) (t : TypeId) : (w.alloc (.cells v.cells t)).heap[w.heap.size]? = some (.cells v.cells t (0, 0)) := blk_new w _
set_option maxHeartbeats 4000000 in
theorem evcheck_any (v : Evt) (w : World) (hok : v.ok) : Calls Tryz.prog 38 #[v.val] w fun e w' => e = .returned (.int .i64 (checkE v)) ∧ Below w.heap.size w w' := by
  have hb0 : Below w.heap.size w (w.alloc (.cells v.cells 25)) := (Below.refl _ _).alloc (Nat.le_refl _) _
  have hz0 : (w.alloc (.cells v.cells 25)).heap.size = w.heap.size + 1 := by simp
  have hx0 := evt_new w v 25
  have HN := Lib.hid (numbers_any w.heap.size v.k (w.alloc (.cells v.cells 25)) (evt_cells hx0).1)
  rw [hz0] at HN
  have HNE := Lib.hid fun (w : World) (a b : Evt) => neE_run w a b
  have HNG := Lib.hid fun (w : World) (a b : Evt) (x y : Operand) => neE_guard w a b x y
  unfold Evt.val Evt.cells at *
  have HB0 := Lib.hid hb0
  have HX0 := Lib.hid hx0
  clear hb0 hx0
  obtain ⟨ks, hks⟩ : ∃ ks, idxE v.k = ks := ⟨_, rfl⟩
  rw [hks] at HN
  go_enter Tryz.func38, Tryz.ntmps38
  go_wp2_with fail
  generalize w.alloc (Obj.cells #[.int .i64 v.k, .int .i64 v.n, .int .i64 v.j, .int .i64 v.i, .int .i64 v.p, .int .i64 v.r.a, .int .i64 v.r.b, .int .i64 v.r.c] 25) = w1 at *
  refine HN.out.mono ?_
  rintro e w2 ⟨u, rfl, hnb, hb2⟩
  obtain ⟨rb, o, cap, rfl, hl5⟩ := hnb.form
  have HNB2 := Lib.hid hnb
  have HX2 := Lib.hid (blk_below hb2 HX0.out (by omega))
  have HB2 := Lib.hid (HB0.out.trans (hb2.mono (by omega)))
  clear hnb hb2
  by_cases h0 : ks.length = 0
  · have dk : decide ((ks.length : Int) = 0) = true := decide_eq_true (by omega)
    have HE := Lib.hid (show checkE v = 5 by
      unfold checkE
      rw [if_pos ((idx_none _).1 (by rw [hks]; exact List.eq_nil_of_length_eq_zero h0))])
    go_wp2_with fail
    go_ret
    exact ⟨by rw [HE.out]; rfl, HB2.out⟩
  · have dk : decide ((ks.length : Int) = 0) = false := decide_eq_false (by omega)
    have dk0 : ((ks.length : Int) == 0) = false := beq_eq_false_iff_ne.2 (by omega)
    have HL := Lib.hid (show lettersE v.k ≠ [] from fun e => h0 (by rw [← hks, (idx_none _).2 e]; rfl))
    go_wp2_with fail
    go_loopw [14] (fun i wr => ∃ m : Nat, m ≤ ks.length ∧ i = .int .i64 m ∧ (ks.take m).all (okAt v) = true ∧ wr.heap[w.heap.size]? = some (.cells #[.int .i64 v.k, .int .i64 v.n, .int .i64 v.j, .int .i64 v.i, .int .i64 v.p, .int .i64 v.r.a, .int .i64 v.r.b, .int .i64 v.r.c] 25 (0, 0)) ∧ NB (fun a => w.heap.size + 1 ≤ a) w.heap.size ks (.slice (some ⟨rb, o, none⟩) ks.length cap) wr ∧ Below w.heap.size w wr) (fun i _ => ks.length - (intOf i).toNat)
    case atStart => exact ⟨0, by omega, rfl, rfl, HX2.out, HNB2.out, HB2.out⟩
    case round =>
      clear HNB2 HX2 HB2 HN
      obtain ⟨m, hm, rfl, hall, hx, hnb, hb⟩ := hrel
      by_cases hlt : m < ks.length
      · have dk1 : decide ((m : Int) < ks.length) = true := decide_eq_true (by omega)
        have dk2 : (0 : Int) ≤ (m : Int) := by omega
        have dk3 : (m : Int) < (ks.length : Int) := by omega
        have q3 : IntKind.i64.wrap ((m : Int) + 1) = ((m + 1 : Nat) : Int) := by rw [IntWalk.i64_in _ (by omega)]; omega
        obtain ⟨j, hj⟩ : ∃ j, ks[m]? = some j := ⟨_, List.getElem?_eq_getElem hlt⟩
        obtain ⟨F, c1, c2, hF⟩ := hnb.at m j hj
        have hbl := (Below.refl wr.heap.size wr).alloc (Nat.le_refl _) (.cells #[pt w.heap.size j, F] 63)
        have hx' := blk_below hbl hx (lt_of_block hx)
        obtain ⟨f, cs, rfl, hcf, hC⟩ := fn_valid (v := v) (hF.below hbl) hx' hok
        have HC := Lib.hid hC
        have HX3 := Lib.hid hx'
        have HNB3 := Lib.hid (hnb.below hbl)
        have HB3 := Lib.hid (hb.trans (hbl.mono hb.size))
        have HA := Lib.hid (show (ks.take (m + 1)).all (okAt v) = okAt v j by
          obtain ⟨_, hj'⟩ := List.getElem?_eq_some_iff.1 hj
          rw [List.take_succ_eq_append_getElem hlt, List.all_append, hall, hj']; simp)
        have HAF := Lib.hid (show okAt v j = false → checkE v = 1 from fun h => by
          unfold checkE
          rw [if_neg HL.out, if_pos]
          rw [idx_all, hks]
          exact Bool.eq_false_iff.2 fun hh => by
            have := List.all_eq_true.1 hh j (List.mem_of_getElem? hj)
            rw [h] at this; cases this)
        clear hall hx hnb hb hF hbl hx' hC hj
        go_wp2_with fail
        refine HC.out.mono ?_
        rintro e w3 ⟨rfl, hb3⟩
        have HX4 := Lib.hid (blk_below hb3 HX3.out (lt_of_block HX3.out))
        have HNB4 := Lib.hid (HNB3.out.below hb3)
        have HB4 := Lib.hid (HB3.out.trans (hb3.mono HB3.out.size))
        clear hb3 HC HX3 HNB3 HB3
        cases hv : okAt v j with
        | true =>
          have HA1 := Lib.hid (HA.out.trans hv)
          clear HA HAF hv
          go_wp2_with fail
          go_roundw
          case rel => exact ⟨m + 1, by omega, rfl, HA1.out, HX4.out, HNB4.out, HB4.out⟩
          case measure => simp [intOf]; omega
        | false =>
          have HE := Lib.hid (HAF.out hv)
          clear HA HAF hv
          go_wp2_with fail
          go_ret
          exact ⟨by rw [HE.out]; rfl, HB4.out⟩
      · obtain rfl : m = ks.length := by omega
        have dk1 : decide ((ks.length : Int) < ks.length) = false := decide_eq_false (by omega)
        have HALL := Lib.hid (show (lettersE v.k).all (okFv v) = true by rw [idx_all, hks, ← hall, List.take_length])
        have HX0' := Lib.hid hx
        have HNB0 := Lib.hid hnb
        have HBB := Lib.hid hb
        clear hall hx hnb hb
        go_wp2_with fail
        go_loopw [25] (fun i wr => ∃ m : Nat, m ≤ ks.length ∧ i = .int .i64 m ∧ wr.heap[w.heap.size]? = some (.cells (bareE v m).cells 25 (0, 0)) ∧ NB (fun a => w.heap.size + 1 ≤ a) w.heap.size ks (.slice (some ⟨rb, o, none⟩) ks.length cap) wr ∧ Below w.heap.size w wr) (fun i _ => ks.length - (intOf i).toNat)
        case atStart => exact ⟨0, by omega, rfl, by rw [bareE_zero]; exact HX0'.out, HNB0.out, HBB.out⟩
        case round =>
          clear HX0' HNB0 HBB
          obtain ⟨m, hm, rfl, hx, hnb, hb⟩ := hrel
          by_cases hlt : m < ks.length
          · have dk3 : decide ((m : Int) < ks.length) = true := decide_eq_true (by omega)
            have dk4 : (0 : Int) ≤ (m : Int) := by omega
            have dk5 : (m : Int) < (ks.length : Int) := by omega
            have q3 : IntKind.i64.wrap ((m : Int) + 1) = ((m + 1 : Nat) : Int) := by rw [IntWalk.i64_in _ (by omega)]; omega
            obtain ⟨j, hj⟩ : ∃ j, ks[m]? = some j := ⟨_, List.getElem?_eq_getElem hlt⟩
            obtain ⟨F, c1, c2, hF⟩ := hnb.at m j hj
            have hone := hF.one
            have ho1 : ∀ a w m, (store a F m).run Tryz.prog w = stored Tryz.prog w a F m := fun a w m => run_store _ w a _ m hone
            have hj8 := idx_lt v.k j (by rw [hks]; exact List.mem_of_getElem? hj)
            have hbl := (Below.refl wr.heap.size wr).alloc (Nat.le_refl _) (.cells #[pt w.heap.size j, F] 63)
            have hx' := blk_below hbl hx (lt_of_block hx)
            have fz := blk_free hx' j
            obtain ⟨x, hxc⟩ : ∃ x, (wr.alloc (.cells #[pt w.heap.size j, F] 63)).cell? ⟨w.heap.size, j, none⟩ = some (.int .i64 x) := ⟨_, evt_at hx' j hj8.2⟩
            have hx2 := blk_set hx' j (.int .i64 0)
            rw [setE_cells _ _ _ hj8, ← bareE_succ v m j (by rw [hks]; exact hj)] at hx2
            have HX5 := Lib.hid hx2
            have HNB5 := Lib.hid ((hnb.below hbl).keep (w' := (wr.alloc (.cells #[pt w.heap.size j, F] 63)).setCell ⟨w.heap.size, j, none⟩ (.int .i64 0)) fun a ob ha ho => blk_far _ ho (by simp; omega))
            have HB5 := Lib.hid ((hb.trans (hbl.mono hb.size)).setCell (p := ⟨w.heap.size, j, none⟩) (Nat.le_refl _) (.int .i64 0))
            clear hx hnb hb hF hone hbl hx' hx2 hj
            go_wp2_with fail
            go_roundw
            case rel => exact ⟨m + 1, by omega, rfl, HX5.out, HNB5.out, HB5.out⟩
            case measure => simp [intOf]; omega
          · obtain rfl : m = ks.length := by omega
            have dk3 : decide ((ks.length : Int) < ks.length) = false := decide_eq_false (by omega)
            have HP := Lib.hid (bare_pure v (by rw [hks]; intro e; exact h0 (by rw [e]; rfl)))
            rw [hks] at HP
            have HK := Lib.hid (bareE_k v ks.length)
            obtain ⟨y0, y1, y2, y3, y4, y5, y6, y7⟩ := evt_cells hx
            have HB6 := Lib.hid hb
            have hnc : ∀ w', (binOp .neq 25 (.agg (bareE v ks.length).cells) (.agg #[.int .i64 v.k, .int .i64 0, .int .i64 0, .int .i64 0, .int .i64 0, .int .i64 0, .int .i64 0, .int .i64 0])).run Tryz.prog w' = .ok (.bool (!eqE (pureE v) v)) w' := fun w' => by
              have := neE_run w' (bareE v ks.length) ⟨v.k, 0, 0, 0, 0, zero3⟩
              rw [HP.out] at this
              exact this
            have hng : ∀ w' x y, (eqGuard .neq 25 x y (.agg (bareE v ks.length).cells) (.agg #[.int .i64 v.k, .int .i64 0, .int .i64 0, .int .i64 0, .int .i64 0, .int .i64 0, .int .i64 0, .int .i64 0])).run Tryz.prog w' = .ok () w' := fun w' x y =>
              neE_guard w' (bareE v ks.length) ⟨v.k, 0, 0, 0, 0, zero3⟩ x y
            have HC1 := Lib.hid (show eqE (pureE v) v = true → checkE v = 0 from fun h => by
              unfold checkE; rw [if_neg HL.out, if_neg (by rw [HALL.out]; simp), if_neg (by rw [h]; simp)])
            have HC2 := Lib.hid (show eqE (pureE v) v = false → checkE v = 1 from fun h => by
              unfold checkE; rw [if_neg HL.out, if_neg (by rw [HALL.out]; simp), if_pos h])
            rw [HK.out] at y0
            unfold Evt.cells at hnc hng
            rw [HK.out] at hnc hng
            generalize eqE (pureE v) v = q at *
            generalize (bareE v ks.length).n = z1, (bareE v ks.length).j = z2, (bareE v ks.length).i = z3, (bareE v ks.length).p = z4, (bareE v ks.length).r.a = z5, (bareE v ks.length).r.b = z6, (bareE v ks.length).r.c = z7 at *
            clear hx hnb hb HP HK
            cases q with
            | true =>
              have HE := Lib.hid (HC1.out rfl)
              clear HC1 HC2
              go_wp2_with fail
              go_ret
              exact ⟨by rw [HE.out]; rfl, HB6.out⟩
            | false =>
              have HE := Lib.hid (HC2.out rfl)
              clear HC1 HC2
              go_wp2_with fail
              go_ret
              exact ⟨by rw [HE.out]; rfl, HB6.out⟩
end Go.Proofs.YtgooepfhapaenaaGreat
/- What Pure, of package event, comes to. Conditions: the event's numbers fit. -/
namespace Go.Proofs.YtgooepfhapaenaaGreat
open Go.ChangeShapes Go.WideShapes Go.ChangeAt Go.RowKit
set_option linter.unusedVariables false
set_option maxRecDepth 100000
set_option linter.unusedSimpArgs false

theorem FnOk.lt {K : Nat → Prop} {b j : Nat} {F : Value} {w : World} (h : FnOk K b j F w) : FnOk (fun a => K a ∧ a < w.heap.size) b j F w := by
  rcases h with ⟨a, l, m, lo, hi, k1, k2, k3, e, h1, h2, h3, h4⟩ | ⟨a, k1, e, h1, h2⟩
  · exact .inl ⟨a, l, m, lo, hi, ⟨k1, lt_of_block h1⟩, ⟨k2, lt_of_block h2⟩, ⟨k3, lt_of_block h3⟩, e, h1, h2, h3, h4⟩
  · exact .inr ⟨a, ⟨k1, lt_of_block h1⟩, e, h1, h2⟩
theorem NB.lt {K : Nat → Prop} {b : Nat} {ks : List Nat} {u : Value} {w : World} (h : NB K b ks u w) : NB (fun a => K a ∧ a < w.heap.size) b ks u w := by
  obtain ⟨rb, o, cap, R, t, e, h1, h2, h3, h4, h5⟩ := h
  exact ⟨rb, o, cap, R, t, e, h1, h2, ⟨h3, lt_of_block h4⟩, h4, fun i j hij => by
    obtain ⟨F, g1, g2, g3⟩ := h5 i j hij
    exact ⟨F, g1, g2, g3.lt⟩⟩
/-- The numbers of v laid so far into a bare event. -/
def partE (v : Evt) (m : Nat) : Evt := layE ((idxE v.k).take m) (((idxE v.k).map fun j => (intsE v).getD j 0).take m) ⟨v.k, 0, 0, 0, 0, zero3⟩
theorem partE_zero (v : Evt) : partE v 0 = ⟨v.k, 0, 0, 0, 0, zero3⟩ := by unfold partE; rw [List.take_zero]; rfl
theorem partE_succ (v : Evt) (m : Nat) (j : Nat) (h : (idxE v.k)[m]? = some j) : partE v (m + 1) = setE (partE v m) j ((intsE v).getD j 0) := by
  obtain ⟨hm, hj⟩ := List.getElem?_eq_some_iff.1 h
  unfold partE
  rw [List.take_succ_eq_append_getElem hm, List.take_succ_eq_append_getElem (by simpa using hm), hj, List.getElem_map, hj, layE_snoc v j _ _ _ _ (by simp)]
theorem partE_all (v : Evt) (h : idxE v.k ≠ []) : partE v (idxE v.k).length = pureE v := by
  unfold partE pureE
  rw [if_neg (fun e => h ((idx_none _).2 e)), List.take_length, ← idx_made _ _ (by rw [idx_nums]; simp), idx_nums]
  rw [List.take_of_length_le (by simp)]
end Go.Proofs.YtgooepfhapaenaaGreat
