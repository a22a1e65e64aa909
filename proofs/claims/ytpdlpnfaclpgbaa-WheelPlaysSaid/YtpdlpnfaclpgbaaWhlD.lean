/- A wheel's Set; a nil wheel's. Conditions: as stated. -/
import Derived.Test.YtpdlpnfaclpgbaaWhlC
import Derived.Test.YtpdlpnfaclpgbaaNumB
namespace Go.Proofs.Ytpdlpnfaclpgbaa
open Go.ChangeShapes Go.WideShapes Go.ChangeAt Go.RowKit Go.Shelf
set_option linter.unusedVariables false
set_option maxRecDepth 100000
set_option linter.unusedSimpArgs false
set_option maxHeartbeats 2000000

theorem right_may (n : Int) : rightN n 0 1099511627776 = mayW n := by unfold rightN mayW; rw [Bool.decide_and]
theorem weql_some (m : Nat) (w : World) : (binOp .eql 26 (.map (some m)) (.map none)).run Try.prog w = .ok (.bool false) w := by kernel_rfl
theorem weql_nil (w : World) : (binOp .eql 26 (.map none) (.map none)).run Try.prog w = .ok (.bool true) w := by kernel_rfl
theorem mAt_set {ms : Array Value} {k i : Nat} {x : Value} (hk : k < ms.size) : mAt (ms.setIfInBounds k x) i = if i = k then x else mAt ms i := by
  unfold mAt
  rw [Array.getD_eq_getD_getElem?, Array.getD_eq_getD_getElem?, Array.getElem?_setIfInBounds]
  by_cases h : k = i
  · subst h; simp [hk]
  · rw [if_neg h, if_neg (fun e => h e.symm)]
/-- What a store into slot k leaves. -/
theorem whl_store {b : Nat} {ms : Array Value} {l : List Tm} {w w' : World} {id tick : Int} {k g : Nat} (hs : SortedW l) (hn : tickW l id = none) (hk : k < 16) (hkt : tick % 16 = (k : Int))
    (H : Whl b ms l w) (hb : w'.heap[b]? = some (wX (ms.setIfInBounds k (.map (some g)))))
    (hg : ∀ j, j < 16 → j ≠ k → mAt ms j ≠ .map (some g)) (hgb : g ≠ b)
    (hM : MapI w' g ((slotL l k).length + 1) (setF (tickW (slotL l k)) id tick))
    (hkeep : ∀ j, j < w.heap.size → j ≠ b → j ≠ g → w'.heap[j]? = w.heap[j]?) : Whl b (ms.setIfInBounds k (.map (some g))) (insW l ⟨id, tick⟩) w' := by
  have hsz : k < ms.size := by rw [H.size]; exact hk
  refine ⟨hb, by rw [Array.size_setIfInBounds]; exact H.size, fun i hi => ?_, fun i j g' hi hj h1 h2 => ?_, fun i hi => ?_⟩
  · rw [mAt_set hsz]
    by_cases e : i = k
    · rw [if_pos e]
      subst e
      have hp : (slotL (insW l ⟨id, tick⟩) i).Perm (⟨id, tick⟩ :: slotL l i) := by
        have := slotL_insW l ⟨id, tick⟩ i
        rw [if_pos (by simp [slotOf, hkt])] at this
        exact this
      have hni : ∀ x ∈ slotL l i, x.id ≠ id := fun x hx => tickW_none.1 hn x (mem_slotL.1 hx).1
      refine .inr ⟨g, rfl, hM.same (fun j => ?_) (by rw [hp.length_eq]; rfl)⟩
      have hids : IdsW (⟨id, tick⟩ :: slotL l i) := List.pairwise_cons.2 ⟨fun x hx e => hni x hx e.symm, idsW_filter hs.ids _⟩
      rw [tickW_perm (idsW_of_perm hids hp.symm) hp]
      unfold setF
      by_cases e2 : j = id
      · subst e2
        rw [if_pos rfl]
        simp [tickW]
      · rw [if_neg e2]
        unfold tickW
        rw [List.find?_cons]
        have : (id == j) = false := by simpa using fun e => e2 e.symm
        simp only [this]
    · rw [if_neg e]
      have hp : (slotL (insW l ⟨id, tick⟩) i).Perm (slotL l i) := by
        have := slotL_insW l ⟨id, tick⟩ i
        rw [if_neg (by simp only [slotOf, hkt, beq_iff_eq]; omega)] at this
        exact this
      have h2 := (H.slot i hi).same hp.length_eq.symm (fun j => (tickW_perm (idsW_of_perm (idsW_filter hs.ids _) hp.symm) hp j).symm)
      refine h2.keep fun g' hg' => ?_
      have h3 : g' ≠ g := fun e3 => hg i hi e (e3 ▸ hg')
      have h4 : g' ≠ b := fun e4 => H.own i hi (e4 ▸ hg')
      exact hkeep g' ((H.slot i hi).lt hg') h4 h3
  · rw [mAt_set hsz] at h1 h2
    by_cases e1 : i = k
    · by_cases e2 : j = k
      · rw [e1, e2]
      · rw [if_pos e1] at h1
        rw [if_neg e2] at h2
        cases h1
        exact absurd h2 (hg j hj e2)
    · rw [if_neg e1] at h1
      by_cases e2 : j = k
      · rw [if_pos e2] at h2
        cases h2
        exact absurd h1 (hg i hi e1)
      · rw [if_neg e2] at h2
        exact H.apart i j g' hi hj h1 h2
  · rw [mAt_set hsz]
    by_cases e : i = k
    · rw [if_pos e]; intro e2; exact hgb (Option.some.inj (Value.map.inj e2))
    · rw [if_neg e]; exact H.own i hi
theorem nwset_any (id tick : Int) (w : World) :
    Calls Try.prog 8 #[.pointer none, .int .i64 id, .int .i64 tick] w fun e w' => e = .returned (.bool false) ∧ w = w' := by
  go_enter Try.func8, Try.ntmps8
  go_wp2_with fail
  go_ret
  exact ⟨rfl, rfl⟩
theorem wset_any (F : Nat → Prop) (v : Value) (l : List Tm) (id tick : Int) (w : World) (h : WP F v l w) (hid : inI id) (hat : inI tick) (hlen : l.length ≤ 1000000) :
    Calls Try.prog 8 #[v, .int .i64 id, .int .i64 tick] w fun e w' => e = .returned (.bool (mayW tick)) ∧ OPost whlO F v (setW l ⟨id, tick⟩) w w' := by
  have C1 := Lib.hid (right_any tick 0 1099511627776 w)
  rw [right_may] at C1
  have h0 := h
  obtain ⟨b, ms, rfl, H, hs, hF⟩ := h
  cases hm : mayW tick with
  | false =>
    have HP := Lib.hid (show OPost whlO F (.pointer (some ⟨b, 0, none⟩)) (setW l ⟨id, tick⟩) w w by unfold setW; rw [if_neg (by rw [hm]; simp)]; exact opost_same (O := whlO) h0 (Below.refl _ _))
    clear h0 H hs hF
    rw [hm] at C1
    go_enter Try.func8, Try.ntmps8
    go_wp2_with (go_at_call 18; refine C1.out.mono ?_; rintro e w1 ⟨rfl, rfl⟩)
    go_ret
    exact ⟨rfl, HP.out⟩
  | true =>
    rw [hm] at C1
    have C2 := Lib.hid (wdrop_any F (.pointer (some ⟨b, 0, none⟩)) l id w h0 hid)
    have hge : 0 ≤ tick := by unfold mayW at hm; simp at hm; omega
    obtain ⟨k, hkt, hk⟩ : ∃ k : Nat, tick % 16 = (k : Int) ∧ k < 16 := ⟨(tick % 16).toNat, by omega, by omega⟩
    have hset : setW l ⟨id, tick⟩ = insW (dropW l id) ⟨id, tick⟩ := by unfold setW; rw [if_pos hm]
    have hdl := dropW_len l id
    have hdn : tickW (dropW l id) id = none := by rw [tickW_dropW, if_pos rfl]
    have hmt := hm
    clear hm h0 H hs hF
    go_enter Try.func8, Try.ntmps8
    go_wp2_with fail
    refine C1.out.mono ?_; rintro e w1 ⟨rfl, rfl⟩
    go_wp2_with fail
    refine C2.out.mono ?_; rintro e w1 ⟨rfl, F', ⟨b', ms, hb', H1, hs1, hF1⟩, hT, hF2⟩
    cases hb'
    have hsl := slotL_len (dropW l id) k
    have HS := Lib.hid hset
    clear hset
    generalize hl1 : dropW l id = l1 at *
    clear hl1
    have c0 : w1.cell? ⟨b, k, none⟩ = some (mAt ms k) := by
      rw [blk_cell H1.blk k]; unfold mAt; rw [Array.getD_eq_getD_getElem?, Array.getElem?_eq_getElem (by rw [H1.size]; exact hk)]; rfl
    have f0 := blk_free H1.blk k
    have hkn : tickW (slotL l1 k) id = none := tickW_none.2 fun x hx => tickW_none.1 hdn x (mem_slotL.1 hx).1
    have hins : SortedW (insW l1 ⟨id, tick⟩) := sorted_insW hs1 ⟨id, tick⟩ ⟨hid, hmt⟩ (fun z hz => tickW_none.1 hdn z hz)
    have hbl : b < w1.heap.size := lt_of_block H1.blk
    have hFb : F' b := (hF1 b).2 (.inl rfl)
    rcases H1.slot k hk with ⟨hx, hL⟩ | ⟨m, hx, hM⟩
    · rw [hx] at c0
      have hq := weql_nil w1
      have HP := Lib.hid (show ∀ w2, MapI w2 w1.heap.size 1 (setF (fun _ => none) id tick) → Only w1.heap.size ((w1.setCell ⟨b, k, none⟩ (.map (some w1.heap.size))).alloc (.map #[] 0)) w2 → OPost whlO F (.pointer (some ⟨b, 0, none⟩)) (insW l1 ⟨id, tick⟩) w w2 from fun w2 hm2 ho => by
        have e1 : w2.heap[b]? = some (wX (ms.setIfInBounds k (.map (some w1.heap.size)))) := ho.old (blk_old _ (blk_set H1.blk k _)) (by omega)
        have hkeep : ∀ j, j < w1.heap.size → j ≠ b → w2.heap[j]? = w1.heap[j]? := fun j hj hjb => by
          rw [ho.block j (by rw [World.size_alloc, World.size_setCell]; omega) (by omega), Below.heap_alloc _ _ _ (by rw [World.size_setCell]; exact hj), Below.heap_setCell _ _ _ _ hjb]
        have hfar : ∀ j, j < 16 → mAt ms j ≠ .map (some w1.heap.size) := fun j hj e => by have := (H1.slot j hj).lt e; omega
        have hsz2 : w1.heap.size < w2.heap.size := hm2.lt
        have HW := whl_store (g := w1.heap.size) hs1 hdn hk hkt H1 e1 (fun j hj _ => hfar j hj) (by omega) (by rw [hL]; exact hm2.same (fun i => rfl) rfl) (fun j hj hjb _ => hkeep j hj hjb)
        refine ⟨fun q => F' q ∨ q = w1.heap.size, ⟨b, _, rfl, HW, hins, fun q => ?_⟩, hT.trans (G := F') ⟨ho.os, ho.tape, ho.output, by omega, fun j hj hf => hkeep j hj (fun e => hf (e ▸ hFb))⟩ hF2, fun q hq => ?_⟩
        · constructor
          · rintro (hq | rfl)
            · rcases (hF1 q).1 hq with hq | ⟨i, hi, hq⟩
              · exact .inl hq
              · refine .inr ⟨i, hi, ?_⟩
                rw [mAt_set (by rw [H1.size]; exact hk), if_neg]
                · exact hq
                · intro e; rw [e, hx] at hq; cases hq
            · exact .inr ⟨k, hk, by rw [mAt_set (by rw [H1.size]; exact hk), if_pos rfl]⟩
          · rintro (hq | ⟨i, hi, hq⟩)
            · exact .inl ((hF1 q).2 (.inl hq))
            · rw [mAt_set (by rw [H1.size]; exact hk)] at hq
              by_cases e : i = k
              · rw [if_pos e] at hq; cases hq; exact .inr rfl
              · rw [if_neg e] at hq; exact .inl ((hF1 q).2 (.inr ⟨i, hi, hq⟩))
        · rcases hq with hq | hq
          · exact hF2 q hq
          · exact .inr (by have := hT.size; omega))
      have hM : MapI ((w1.setCell ⟨b, k, none⟩ (.map (some w1.heap.size))).alloc (.map #[] 0)) w1.heap.size 0 (fun _ => none) := by have := mapF_made (w1.setCell ⟨b, k, none⟩ (.map (some w1.heap.size))) Try.prog 3 (Value.int .i64) (0 : Int); rwa [World.size_setCell] at this
      have hmm := @run_makeMap Try.prog
      clear hT hF1 hF2 H1 hs1
      go_wp2_with (first | (refine wpList_store_mapF rfl _ _ _ _ rfl 3 3 intV_inj Try.underlying3 Try.underlying26 w1.heap.size 0 (by decide) rfl hM id hid rfl tick rfl 1 rfl ?_; intro w2 hm2 ho2))
      go_ret
      exact ⟨rfl, by rw [HS.out]; exact HP.out _ hm2 ho2⟩
    · rw [hx] at c0
      have hq := weql_some m w1
      have HP := Lib.hid (show ∀ w2, MapI w2 m ((slotL l1 k).length + 1) (setF (tickW (slotL l1 k)) id tick) → Only m w1 w2 → OPost whlO F (.pointer (some ⟨b, 0, none⟩)) (insW l1 ⟨id, tick⟩) w w2 from fun w2 hm2 ho => by
        have hbm : b ≠ m := fun e => H1.own k hk (by rw [hx, e])
        have e0 : ms.setIfInBounds k (.map (some m)) = ms := by
          apply Array.ext_getElem?
          intro i
          rw [Array.getElem?_setIfInBounds]
          by_cases e : k = i
          · subst e
            rw [if_pos rfl, if_pos (by rw [H1.size]; exact hk), ← hx]
            unfold mAt; rw [Array.getD_eq_getD_getElem?, Array.getElem?_eq_getElem (by rw [H1.size]; exact hk)]; rfl
          · rw [if_neg e]
        have e1 : w2.heap[b]? = some (wX (ms.setIfInBounds k (.map (some m)))) := by rw [e0]; exact ho.old H1.blk hbm
        have HW := whl_store (g := m) hs1 hdn hk hkt H1 e1 (fun j hj hjk e => hjk (H1.apart j k m hj hk e hx)) (fun e => hbm e.symm) hm2 (fun j hj _ hjm => ho.block j hj hjm)
        rw [e0] at HW
        refine ⟨F', ⟨b, ms, rfl, HW, hins, hF1⟩, hT.trans (G := F') ⟨ho.os, ho.tape, ho.output, ho.size, fun j hj hf => ho.block j hj (fun e => hf ((hF1 j).2 (.inr ⟨k, hk, by rw [hx, e]⟩)))⟩ hF2, hF2⟩)
      have n' : (slotL l1 k).length + (if (tickW (slotL l1 k) id).isNone = true then 1 else 0) = (slotL l1 k).length + 1 := by rw [hkn]; rfl
      have hlt : (slotL l1 k).length < maxLen := by unfold maxLen; omega
      clear hT hF1 hF2 H1 hs1 hkn
      go_wp2_with (first | (refine wpList_store_mapF rfl _ _ _ _ rfl 3 3 intV_inj Try.underlying3 Try.underlying26 m _ hlt rfl hM id hid rfl tick rfl _ n' ?_; intro w2 hm2 ho2))
      go_ret
      exact ⟨rfl, by rw [HS.out]; exact HP.out _ hm2 ho2⟩
end Go.Proofs.Ytpdlpnfaclpgbaa
