/- A wheel's find: the slot that has a number. Conditions: as stated. -/
import Derived.Test.YtpdlpnfaclpgbaaWhlA
namespace Go.Proofs.Ytpdlpnfaclpgbaa
open Go.ChangeShapes Go.WideShapes Go.ChangeAt Go.RowKit Go.Shelf
set_option linter.unusedVariables false
set_option maxRecDepth 100000
set_option linter.unusedSimpArgs false
set_option maxHeartbeats 2000000
attribute [local go_sem] Oper.semAt_some

theorem below_books {a W W' : World} {L : Nat} (h : Below L a W) (hb : Books L W W') : Below L a W' :=
  ⟨hb.os.trans h.os, hb.tape.trans h.tape, hb.output.trans h.output, Nat.le_trans h.size (Nat.le_of_eq hb.size.symm), fun j hj => (hb.block j (by omega) (by omega)).trans (h.block j hj)⟩
theorem below_books' {a W W' : World} {B L : Nat} (h : Below B a W) (hL : B ≤ L) (hb : Books L W W') : Below B a W' :=
  ⟨hb.os.trans h.os, hb.tape.trans h.tape, hb.output.trans h.output, Nat.le_trans h.size (Nat.le_of_eq hb.size.symm), fun j hj => (hb.block j (by omega) (by omega)).trans (h.block j hj)⟩
theorem blk_books {W W' : World} {L b : Nat} {o : Obj} (h : W.heap[b]? = some o) (hb : Books L W W') (h1 : b ≠ L) (h2 : b ≠ L + 1) : W'.heap[b]? = some o := (hb.block b h1 h2).trans h
theorem below_two (w : World) (o1 o2 : Obj) : Below w.heap.size w ((w.alloc o1).alloc o2) := ((Below.refl _ w).alloc (Nat.le_refl _) _).alloc (by simp) _
/-- The function's way out: the loop's mark is taken up. -/
theorem leaves_mark {P : Program} {fn : Func} {tmps : Array Value} {R : Ending → World → Prop} {D : Nat} {v : Value} {w : World} (hK : w.heap[D]? = some (.deferred (some [])))
    (hr : (results fn tmps).run P (w.putObj D (.deferred none)) = .ok v (w.putObj D (.deferred none))) (h : R (.returned v) (w.putObj D (.deferred none))) :
    LeavesInM Fence.wide 0 P fn tmps R [{ target := .collected D, args := #[] }] .returning w :=
  ⟨by simp, .inl ⟨_, _, rfl, run_takeDeferred hK, ⟨_, hr, h⟩⟩⟩
theorem below_put {a W : World} {B D : Nat} (h : Below B a W) (hD : B ≤ D) (o : Obj) : Below B a (W.putObj D o) :=
  h.trans ⟨rfl, rfl, rfl, by simp, fun k hk => World.putObj_heap_other (by omega)⟩
theorem loadVar_one {P : Program} {t : TypeId} {d : TypeDesc} (hu : P.underlying t = some d) (hd : (match d with | .struct _ | .array _ _ => false | _ => true) = true) {w : World} {g : Nat} {v : Value} (h : w.cell? ⟨g, 0, none⟩ = some v) : (loadVar t ⟨g, 0, none⟩).run P w = .ok v w := by
  have hagg : (isAgg t).run P w = .ok false w := by
    unfold isAgg
    rw [Sem.run_bind, run_underlying hu w]
    cases d <;> simp_all
  simp [loadVar, Sem.run_bind, hagg, h]
theorem results_cells2 {P : Program} {fn : Func} {p q : Tmp} {t1 t2 : TypeId} (h : fn.results = #[.cell p t1, .cell q t2]) {tmps : Array Value} {w : World} {g1 g2 : Nat} {v1 v2 : Value} (hp : tmps.getD p undef = .pointer (some ⟨g1, 0, none⟩)) (hq : tmps.getD q undef = .pointer (some ⟨g2, 0, none⟩))
    (h1 : (loadVar t1 ⟨g1, 0, none⟩).run P w = .ok v1 w) (h2 : (loadVar t2 ⟨g2, 0, none⟩).run P w = .ok v2 w) : (results fn tmps).run P w = .ok (.tuple #[v1, v2]) w := by
  have hp' : tmps[p]?.getD undef = .pointer (some ⟨g1, 0, none⟩) := by simpa using hp
  have hq' : tmps[q]?.getD undef = .pointer (some ⟨g2, 0, none⟩) := by simpa using hq
  simp [results, h, hp', hq', asAddr, h1, h2]
theorem look_slot {w : World} {mv : Value} {L : List Tm} (h : Slot w mv L) {id : Int} (hid : inI id) :
    (Instr.lookup 26 mv (.int .i64 id) true).run Try.prog w = .ok (.tuple #[.int .i64 ((tickW L id).getD 0), .bool (tickW L id).isSome]) w := by
  rcases h with ⟨rfl, rfl⟩ | ⟨m, rfl, h⟩
  · exact nomap_look_ok (P := Try.prog) (val := Value.int .i64) (z := 0) (w := w) (k := 3) (t := 26) (e := 3) Try.underlying3 Try.underlying26 (zeroV_int w) hid
  · exact MapF.look_ok (t := 26) (e := 3) h intV_inj Try.underlying3 Try.underlying26 (zeroV_int w) hid
theorem wfind_some (b : Nat) (ms : Array Value) (l : List Tm) (id : Int) (w : World) (H : Whl b ms l w) (hid : inI id) :
    Calls Try.prog 19 #[.pointer (some ⟨b, 0, none⟩), .int .i64 id] w fun e w' =>
      ((∃ i, i < 16 ∧ (tickW (slotL l i) id).isSome = true ∧ e = .returned (.tuple #[mAt ms i, .bool true])) ∨ ((∀ i, i < 16 → (tickW (slotL l i) id).isSome = false) ∧ e = .returned (.tuple #[.map none, .bool false]))) ∧ Below w.heap.size w w' := by
  have hbw : b < w.heap.size := lt_of_block H.blk
  refine calls_of_wp_marks Try.func19 rfl ?_
  simp only [Try.ntmps19, List.size_toArray, List.length_cons, List.length_nil, Nat.reduceAdd, Nat.reduceSub, Array.replicate_succ, Array.replicate_zero, List.push_toArray, List.append_toArray, List.nil_append, List.cons_append]
  go_wp2_with fail
  obtain ⟨w3, hw3⟩ : ∃ w3, ((w.alloc (.cells #[.int .i64 id] 3)).alloc (.cells #[.map none] 26)).alloc (.cells #[.bool false] 4) = w3 := ⟨_, rfl⟩
  rw [hw3]
  have hB3 : Below w.heap.size w w3 := by rw [← hw3]; exact (((Below.refl _ w).alloc (Nat.le_refl _) _).alloc (by simp) _).alloc (by simp; omega) _
  have hs3 : w3.heap.size = w.heap.size + 3 := by rw [← hw3]; simp
  have b0 : w3.heap[w.heap.size]? = some (.cells #[.int .i64 id] 3 (0, 0)) := by rw [← hw3]; exact blk_old _ (blk_old _ (blk_new w _))
  have b1 : w3.heap[w.heap.size + 1]? = some (.cells #[.map none] 26 (0, 0)) := by rw [← hw3]; have := blk_new (w.alloc (.cells #[.int .i64 id] 3)) (.cells #[.map none] 26); rw [World.size_alloc] at this; exact blk_old _ this
  have b2 : w3.heap[w.heap.size + 1 + 1]? = some (.cells #[.bool false] 4 (0, 0)) := by rw [← hw3]; have := blk_new ((w.alloc (.cells #[.int .i64 id] 3)).alloc (.cells #[.map none] 26)) (.cells #[.bool false] 4); simpa using this
  have H3 : Whl b ms l w3 := whl_below H hB3
  clear hw3
  refine wp_rangeFunc_rounds (gf := 20) (bs := #[.pointer (some ⟨b, 0, none⟩)]) rfl (enters_of Try.func20 (by kernel_rfl) rfl) 16 (fun k => #[mAt ms k]) (fun _ => rfl) (each_some b ms w3 H3.blk H3.size)
    (fun k W => Below w3.heap.size w3 W ∧ ∀ i, i < k → (tickW (slotL l i) id).isSome = false)
    (fun W => ∃ i, i < 16 ∧ (tickW (slotL l i) id).isSome = true ∧ W.heap[w.heap.size + 1]? = some (.cells #[mAt ms i] 26 (0, 0)) ∧ W.heap[w.heap.size + 1 + 1]? = some (.cells #[.bool true] 4 (0, 0)) ∧ Below w.heap.size w W)
    (fun o1 o2 => ⟨below_two _ _ _, by omega⟩)
    (fun k W W' h hb => ⟨below_books h.1 hb, h.2⟩)
    (fun W W' ⟨i, h1, h2, h3, h4, h5⟩ hb => ⟨i, h1, h2, blk_books h3 hb (by omega) (by omega), blk_books h4 hb (by omega) (by omega), below_books' h5 (by omega) hb⟩)
    ?round ?done ?ret
  case round =>
    rintro k l' W ⟨hBW, hn⟩ hk hl
    gi_wp2
    refine ⟨trivial, ?_⟩
    rintro W2 ⟨hB2, hn2⟩ hl2
    have c0 : W2.cell? ⟨w.heap.size, 0, none⟩ = some (.int .i64 id) := blk_cell (blk_below hB2 b0 (by omega)) 0
    have d1 : W2.heap[w.heap.size + 1]? = some (.cells #[.map none] 26 (0, 0)) := blk_below hB2 b1 (by omega)
    have d2 : W2.heap[w.heap.size + 1 + 1]? = some (.cells #[.bool false] 4 (0, 0)) := blk_below hB2 b2 (by omega)
    have c1 := blk_cell d1 0
    have f1 := blk_free d1 0
    have c2 := blk_cell d2 0
    have f2 := blk_free d2 0
    have H2 : Whl b ms l W2 := whl_below H3 hB2
    have hlk := look_slot (H2.slot k hk) hid
    obtain ⟨mv, hmv⟩ := (H2.slot k hk).form
    cases hh : (tickW (slotL l k) id).isSome with
    | false =>
      rw [hh] at hlk
      generalize (tickW (slotL l k) id).getD 0 = t0 at hlk
      generalize hx : mAt ms k = x at *
      clear hmv
      gi_wp2
      refine ⟨by first | trivial | rfl, by first | trivial | rfl, hB2, fun i hi => ?_⟩
      by_cases e : i = k
      · rw [e]; exact hh
      · exact hn2 i (by omega)
    | true =>
      rw [hh] at hlk
      generalize (tickW (slotL l k) id).getD 0 = t0 at hlk
      generalize hx : mAt ms k = x at *
      subst hmv
      gi_wp2
      have e1 := blk_far (p := ⟨w.heap.size + 1 + 1, 0, none⟩) (.bool true) (blk_set d1 0 (.map mv)) (by simp)
      have e2 := blk_set (blk_far (p := ⟨w.heap.size + 1, 0, none⟩) (.map mv) d2 (by simp)) 0 (.bool true)
      have hBw : Below w.heap.size w W2 := hB3.trans (hB2.mono (by omega))
      refine ⟨?_, ?_, k, hk, hh, ?_, e2, ?_⟩
      · rw [Below.heap_setCell _ _ _ _ (by simp only; omega), Below.heap_setCell _ _ _ _ (by simp only; omega)]
      · rw [Below.heap_setCell _ _ _ _ (by simp only; omega), Below.heap_setCell _ _ _ _ (by simp only; omega)]
      · rw [hx]; exact e1
      · exact (hBw.setCell (p := ⟨w.heap.size + 1, 0, none⟩) (by simp only; omega) _).setCell (p := ⟨w.heap.size + 1 + 1, 0, none⟩) (by simp only; omega) _
  case done =>
    rintro W ⟨hB, hn⟩ hl hK
    have d1 : W.heap[w.heap.size + 1]? = some (.cells #[.map none] 26 (0, 0)) := blk_below hB b1 (by omega)
    have d2 : W.heap[w.heap.size + 1 + 1]? = some (.cells #[.bool false] 4 (0, 0)) := blk_below hB b2 (by omega)
    have c1 := blk_cell d1 0
    have f1 := blk_free d1 0
    have c2 := blk_cell d2 0
    have f2 := blk_free d2 0
    have hBw : Below w.heap.size w W := hB3.trans (hB.mono (by omega))
    go_wp2_with fail
    have e1 := blk_far (p := ⟨w.heap.size + 1 + 1, 0, none⟩) (.bool false) (blk_set d1 0 (.map none)) (by simp)
    have e2 := blk_set (blk_far (p := ⟨w.heap.size + 1, 0, none⟩) (.map none) d2 (by simp)) 0 (.bool false)
    have hK' : ((W.setCell ⟨w.heap.size + 1, 0, none⟩ (.map none)).setCell ⟨w.heap.size + 1 + 1, 0, none⟩ (.bool false)).heap[w3.heap.size]? = some (.deferred (some [])) := by
      rw [Below.heap_setCell _ _ _ _ (by simp only; omega), Below.heap_setCell _ _ _ _ (by simp only; omega)]; exact hK
    refine leaves_mark (v := .tuple #[.map none, .bool false]) hK' ?_ ⟨.inr ⟨hn, rfl⟩, ?_⟩
    · refine results_cells2 rfl rfl rfl (loadVar_one Try.underlying26 rfl ?_) (loadVar_one Try.underlying4 rfl ?_)
      · exact blk_cell ((World.putObj_heap_other (by omega)).trans e1) 0
      · exact blk_cell ((World.putObj_heap_other (by omega)).trans e2) 0
    · exact below_put ((hBw.setCell (p := ⟨w.heap.size + 1, 0, none⟩) (by simp only; omega) _).setCell (p := ⟨w.heap.size + 1 + 1, 0, none⟩) (by simp only; omega) _) (by omega) _
  case ret =>
    rintro W ⟨i, h1, h2, h3, h4, h5⟩ hl hK
    have c1 := blk_cell h3 0
    have c2 := blk_cell h4 0
    go_wp2_with fail
    refine leaves_mark (v := .tuple #[mAt ms i, .bool true]) hK ?_ ⟨.inl ⟨i, h1, h2, rfl⟩, below_put h5 (by omega) _⟩
    refine results_cells2 rfl rfl rfl (loadVar_one Try.underlying26 rfl ?_) (loadVar_one Try.underlying4 rfl ?_)
    · exact blk_cell ((World.putObj_heap_other (by omega)).trans h3) 0
    · exact blk_cell ((World.putObj_heap_other (by omega)).trans h4) 0
end Go.Proofs.Ytpdlpnfaclpgbaa
