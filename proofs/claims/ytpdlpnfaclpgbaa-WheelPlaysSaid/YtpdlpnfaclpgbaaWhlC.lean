/- A wheel's At and Drop; a nil wheel's. Conditions: as stated. -/
import Derived.Test.YtpdlpnfaclpgbaaWhlB
import Derived.Test.YtpdlpnfaclpgbaaTwo
namespace Go.Proofs.Ytpdlpnfaclpgbaa
open Go.ChangeShapes Go.WideShapes Go.ChangeAt Go.RowKit Go.Shelf
set_option linter.unusedVariables false
set_option maxRecDepth 100000
set_option linter.unusedSimpArgs false
set_option maxHeartbeats 2000000
attribute [local go_sem] Oper.semAt_some

def whlO : Own (List Tm) := ⟨WP, fun h hk _ => wp_keep h hk, fun h => wp_lt h⟩
theorem wfind_nil (id : Int) (w : World) (hid : inI id) :
    Calls Try.prog 19 #[.pointer none, .int .i64 id] w fun e w' => e = .returned (.tuple #[.map none, .bool false]) ∧ Below w.heap.size w w' := by
  refine calls_of_wp_marks Try.func19 rfl ?_
  simp only [Try.ntmps19, List.size_toArray, List.length_cons, List.length_nil, Nat.reduceAdd, Nat.reduceSub, Array.replicate_succ, Array.replicate_zero, List.push_toArray, List.append_toArray, List.nil_append, List.cons_append]
  go_wp2_with fail
  obtain ⟨w3, hw3⟩ : ∃ w3, ((w.alloc (.cells #[.int .i64 id] 3)).alloc (.cells #[.map none] 26)).alloc (.cells #[.bool false] 4) = w3 := ⟨_, rfl⟩
  rw [hw3]
  have hB3 : Below w.heap.size w w3 := by rw [← hw3]; exact (((Below.refl _ w).alloc (Nat.le_refl _) _).alloc (by simp) _).alloc (by simp; omega) _
  have hs3 : w3.heap.size = w.heap.size + 3 := by rw [← hw3]; simp
  have b1 : w3.heap[w.heap.size + 1]? = some (.cells #[.map none] 26 (0, 0)) := by rw [← hw3]; have := blk_new (w.alloc (.cells #[.int .i64 id] 3)) (.cells #[.map none] 26); rw [World.size_alloc] at this; exact blk_old _ this
  have b2 : w3.heap[w.heap.size + 1 + 1]? = some (.cells #[.bool false] 4 (0, 0)) := by rw [← hw3]; have := blk_new ((w.alloc (.cells #[.int .i64 id] 3)).alloc (.cells #[.map none] 26)) (.cells #[.bool false] 4); simpa using this
  clear hw3
  refine wp_rangeFunc_rounds (gf := 20) (bs := #[.pointer none]) rfl (enters_of Try.func20 (by kernel_rfl) rfl) 0 (fun k => #[undef]) (fun _ => rfl) (each_none w3)
    (fun k W => Below w3.heap.size w3 W) (fun W => False)
    (fun o1 o2 => below_two _ _ _)
    (fun k W W' h hb => below_books h hb)
    (fun W W' h _ => h)
    ?round ?done ?ret
  case round =>
    rintro k l' W hBW hk hl
    omega
  case done =>
    rintro W hB hl hK
    have d1 : W.heap[w.heap.size + 1]? = some (.cells #[.map none] 26 (0, 0)) := blk_below hB b1 (by omega)
    have d2 : W.heap[w.heap.size + 1 + 1]? = some (.cells #[.bool false] 4 (0, 0)) := blk_below hB b2 (by omega)
    have c1 := blk_cell d1 0
    have f1 := blk_free d1 0
    have c2 := blk_cell d2 0
    have f2 := blk_free d2 0
    have hBw : Below w.heap.size w W := hB3.trans (hB.mono (by omega))
    go_wp2_with fail
    have e1 := blk_far (p := ⟨w.heap.size + 1 + 1, 0, none⟩) (.bool false) (blk_set d1 0 (.map none)) (by simp)
    have e2 := blk_set (blk_far (p := ⟨w.heap.size + 1, 0, none⟩) (.map none) d2 (by simp)) 0 (.bool false)
    have hK' : ((W.setCell ⟨w.heap.size + 1, 0, none⟩ (.map none)).setCell ⟨w.heap.size + 1 + 1, 0, none⟩ (.bool false)).heap[w3.heap.size]? = some (.deferred (some [])) := by
      rw [Below.heap_setCell _ _ _ _ (by simp only; omega), Below.heap_setCell _ _ _ _ (by simp only; omega)]; exact hK
    refine leaves_mark (v := .tuple #[.map none, .bool false]) hK' ?_ ⟨rfl, ?_⟩
    · refine results_cells2 rfl rfl rfl (loadVar_one Try.underlying26 rfl ?_) (loadVar_one Try.underlying4 rfl ?_)
      · exact blk_cell ((World.putObj_heap_other (by omega)).trans e1) 0
      · exact blk_cell ((World.putObj_heap_other (by omega)).trans e2) 0
    · exact below_put ((hBw.setCell (p := ⟨w.heap.size + 1, 0, none⟩) (by simp only; omega) _).setCell (p := ⟨w.heap.size + 1 + 1, 0, none⟩) (by simp only; omega) _) (by omega) _
  case ret =>
    rintro W h
    exact h.elim
/-! ### What find's slot says of the whole -/
theorem slot_has {l : List Tm} (h : IdsW l) {id : Int} {i : Nat} (hh : (tickW (slotL l i) id).isSome = true) : tickW (slotL l i) id = tickW l id ∧ (tickW l id).isSome = true ∧ (tickW l id).getD 0 % 16 = (i : Int) := by
  rw [tickW_slot h] at hh ⊢
  by_cases h1 : tickW l id = none
  · rw [if_pos h1] at hh; cases hh
  · rw [if_neg h1] at hh ⊢
    by_cases h2 : (tickW l id).getD 0 % 16 = (i : Int)
    · rw [if_pos h2] at hh ⊢
      exact ⟨rfl, hh, h2⟩
    · rw [if_neg h2] at hh; cases hh
theorem slot_hasnot {l : List Tm} (h : IdsW l) {id : Int} (hh : ∀ i, i < 16 → (tickW (slotL l i) id).isSome = false) : tickW l id = none := by
  cases h1 : tickW l id with
  | none => rfl
  | some t =>
    have h2 := hh (t % 16).toNat (by omega)
    rw [tickW_slot h, h1, if_neg (by simp), if_pos (by simp only [Option.getD_some]; omega)] at h2
    cases h2
theorem look_slot1 {w : World} {mv : Value} {L : List Tm} (h : Slot w mv L) {id : Int} (hid : inI id) :
    (Instr.lookup 26 mv (.int .i64 id) false).run Try.prog w = .ok (.int .i64 ((tickW L id).getD 0)) w := by
  rcases h with ⟨rfl, rfl⟩ | ⟨m, rfl, h⟩
  · exact nomap_look (P := Try.prog) (val := Value.int .i64) (z := 0) (w := w) (k := 3) (t := 26) (e := 3) Try.underlying3 Try.underlying26 (zeroV_int w) hid
  · exact MapF.look (t := 26) (e := 3) h intV_inj Try.underlying3 Try.underlying26 (zeroV_int w) hid
/-! ### At -/
theorem wat_any (F : Nat → Prop) (v : Value) (l : List Tm) (id : Int) (w : World) (h : WP F v l w) (hid : inI id) :
    Calls Try.prog 15 #[v, .int .i64 id] w fun e w' => e = .returned (.tuple #[.int .i64 ((tickW l id).getD 0), .bool (tickW l id).isSome]) ∧ Below w.heap.size w w' := by
  obtain ⟨b, ms, rfl, H, hs, hF⟩ := h
  have C := Lib.hid (wfind_some b ms l id w H hid)
  go_enter Try.func15, Try.ntmps15
  go_wp2_with fail
  refine C.out.mono ?_
  rintro e w1 ⟨⟨i, hi, hh, rfl⟩ | ⟨hh, rfl⟩, hB⟩
  · obtain ⟨h1, h2, h3⟩ := slot_has hs.ids hh
    have hlk := look_slot1 ((whl_below H hB).slot i hi) hid
    rw [h1] at hlk
    generalize mAt ms i = x at *
    go_wp2_with fail
    go_ret2
    exact ⟨by rw [h2]; rfl, hB⟩
  · have h1 := slot_hasnot hs.ids hh
    have hlk := look_slot1 (w := w1) (mv := .map none) (L := []) (.inl ⟨rfl, rfl⟩) hid
    go_wp2_with fail
    go_ret2
    exact ⟨by rw [h1]; rfl, hB⟩
theorem nwat_any (id : Int) (w : World) (hid : inI id) :
    Calls Try.prog 15 #[.pointer none, .int .i64 id] w fun e w' => e = .returned (.tuple #[.int .i64 0, .bool false]) ∧ Below w.heap.size w w' := by
  have C := Lib.hid (wfind_nil id w hid)
  go_enter Try.func15, Try.ntmps15
  go_wp2_with fail
  refine C.out.mono ?_
  rintro e w1 ⟨rfl, hB⟩
  have hlk := look_slot1 (w := w1) (mv := .map none) (L := []) (.inl ⟨rfl, rfl⟩) hid
  go_wp2_with fail
  go_ret2
  exact ⟨rfl, hB⟩
/-! ### Drop -/
theorem slot_dropW_other {l : List Tm} (h : IdsW l) {id : Int} {i j : Nat} (hh : (tickW (slotL l i) id).isSome = true) (hj : j ≠ i) : slotL (dropW l id) j = slotL l j := by
  rw [dropW_slot]
  refine dropW_none ?_
  obtain ⟨h1, h2, h3⟩ := slot_has h hh
  cases hc : (tickW (slotL l j) id).isSome with
  | false => simpa using hc
  | true =>
    obtain ⟨_, _, h4⟩ := slot_has h hc
    rw [h3] at h4
    exact absurd (by omega) hj
theorem wdrop_any (F : Nat → Prop) (v : Value) (l : List Tm) (id : Int) (w : World) (h : WP F v l w) (hid : inI id) :
    Calls Try.prog 10 #[v, .int .i64 id] w fun e w' => e = .returned (.bool (tickW l id).isSome) ∧ OPost whlO F v (dropW l id) w w' := by
  have h0 := h
  obtain ⟨b, ms, rfl, H, hs, hF⟩ := h
  have C := Lib.hid (wfind_some b ms l id w H hid)
  go_enter Try.func10, Try.ntmps10
  go_wp2_with fail
  refine C.out.mono ?_
  rintro e w1 ⟨⟨i, hi, hh, rfl⟩ | ⟨hh, rfl⟩, hB⟩
  · obtain ⟨h1, h2, h3⟩ := slot_has hs.ids hh
    have H1 := whl_below H hB
    rcases H1.slot i hi with ⟨_, hx⟩ | ⟨m, hm, hM⟩
    · rw [hx] at hh; cases hh
    · have HP := Lib.hid (show ∀ w2, MapI w2 m ((slotL l i).length - if (tickW (slotL l i) id).isSome = true then 1 else 0) (delF (tickW (slotL l i)) id) → Only m w1 w2 → OPost whlO F (.pointer (some ⟨b, 0, none⟩)) (dropW l id) w w2 from fun w2 hm2 ho => by
        have hne : ∀ j, j < 16 → j ≠ i → mAt ms j ≠ .map (some m) := fun j hj e hc => e (H.apart j i m hj hi hc hm)
        have hbm : b ≠ m := fun e => H.own i hi (by rw [hm, e])
        refine ⟨F, ⟨b, ms, rfl, ⟨ho.old H1.blk hbm, H.size, fun j hj => ?_, H.apart, H.own⟩, sorted_dropW hs id, hF⟩, ⟨ho.os.trans hB.os, ho.tape.trans hB.tape, ho.output.trans hB.output, Nat.le_trans hB.size ho.size, fun k hk hf => ?_⟩, fun k hk => .inl hk⟩
        · by_cases e : j = i
          · subst e
            rw [hm]
            refine .inr ⟨m, rfl, hm2.same (fun x => ?_) ?_⟩
            · rw [dropW_slot, tickW_dropW]; rfl
            · rw [dropW_slot, dropW_len_eq (l := slotL l j) (idsW_filter hs.ids _)]
          · rw [slot_dropW_other hs.ids hh e]
            exact (H1.slot j hj).keep fun g hg => ho.block g ((H1.slot j hj).lt hg) (fun e2 => hne j hj e (e2 ▸ hg))
        · have hkm : k ≠ m := fun e => hf ((hF k).2 (.inr ⟨i, hi, by rw [hm, e]⟩))
          exact (ho.block k (Nat.lt_of_lt_of_le hk hB.size) hkm).trans (hB.block k hk))
      clear hF
      generalize hx : mAt ms i = x at *
      subst hm
      generalize hn' : (slotL l i).length - (if (tickW (slotL l i) id).isSome = true then 1 else 0) = n' at *
      go_wp2_with (first | (refine wpList_delete_mapF rfl _ _ _ _ rfl 3 Try.underlying3 Try.underlying26 m _ rfl hM id hid rfl n' hn' ?_; intro w2 hm2 ho2))
      go_ret
      exact ⟨by rw [h2]; rfl, HP.out _ hm2 ho2⟩
  · have h1 := slot_hasnot hs.ids hh
    have HP := Lib.hid (show OPost whlO F (.pointer (some ⟨b, 0, none⟩)) (dropW l id) w w1 by rw [dropW_none h1]; exact opost_same (O := whlO) h0 hB)
    clear h0 hF H hs hh
    go_wp2_with (first | (refine wpList_delete_nomap rfl _ _ _ _ rfl 3 Try.underlying3 Try.underlying26 rfl id hid rfl ?_))
    go_ret
    exact ⟨by rw [h1]; rfl, HP.out⟩
theorem nwdrop_any (id : Int) (w : World) (hid : inI id) :
    Calls Try.prog 10 #[.pointer none, .int .i64 id] w fun e w' => e = .returned (.bool false) ∧ Below w.heap.size w w' := by
  have C := Lib.hid (wfind_nil id w hid)
  go_enter Try.func10, Try.ntmps10
  go_wp2_with fail
  refine C.out.mono ?_
  rintro e w1 ⟨rfl, hB⟩
  go_wp2_with (first | (refine wpList_delete_nomap rfl _ _ _ _ rfl 3 Try.underlying3 Try.underlying26 rfl id hid rfl ?_))
  go_ret
  exact ⟨rfl, hB⟩
end Go.Proofs.Ytpdlpnfaclpgbaa
