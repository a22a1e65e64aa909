/- What Take of a heap comes to. Conditions: as stated. -/
import Derived.Test.YtfknmokidjgeiaaHpqJ
namespace Go.Proofs.Ytfknmokidjgeiaa
open Go.ChangeShapes Go.WideShapes Go.ChangeAt Go.RowKit
set_option linter.unusedVariables false
set_option maxRecDepth 100000
set_option linter.unusedSimpArgs false

theorem hpost_set3 {F F' : Nat → Prop} {v : Value} {l : List Thg} {w W2 : World} {kb : Nat} (key : V3) (h : HP F' v l W2) (ht : Turned F w W2) (hF : ∀ k, F' k → F k ∨ w.heap.size ≤ k) (hkb : w.heap.size ≤ kb) (hn : ¬ F' kb) : HPost F v l w (set3 W2.drew kb key) := by
  have ho := set3_only W2.drew kb key
  have hk : ∀ k, k ≠ kb → (set3 W2.drew kb key).heap[k]? = W2.heap[k]? := fun k hk => by
    unfold set3
    rw [Below.heap_setCell _ _ _ _ hk, Below.heap_setCell _ _ _ _ hk, Below.heap_setCell _ _ _ _ hk]; rfl
  refine ⟨F', hp_keep h (fun k hk2 => hk k (fun e => hn (e ▸ hk2))) ho.size, ht.trans (G := fun k => k = kb) ⟨ho.os, ho.tape, ho.output, ho.size, fun k _ hne => hk k hne⟩ (fun k hk => .inr (by rw [hk]; exact hkb)), hF⟩
theorem drop_head {t : Thg} {r : List Thg} (h : Sorted (t :: r)) : dropT (t :: r) t.id = r := by
  have e : dropT (t :: r) t.id = dropT r t.id := by simp [dropT]
  rw [e, drop_same]
  exact fun s hs q => (List.pairwise_cons.1 h.2.2).1 s hs q.symm
set_option maxHeartbeats 4000000 in
theorem htake_any (F : Nat → Prop) (v : Value) (l : List Thg) (w : World) (hn : l.length ≤ 100000) (h : HP F v l w) :
    Calls Try.prog 16 #[v] w fun e w' => e = .returned (topT l) ∧ HPost F v l.tail w w' := by
  have hV := kv_below w zero3
  have hVs : (kv w zero3).heap.size = w.heap.size + 1 := by simp
  have h1 : HP F v l (kv w zero3) := hp_keep h (fun k hk => hV.block k (hp_lt h k hk)) hV.size
  have hkb := kv_blk w zero3
  have TP := htop_any F v l (kv w zero3) hn h1
  obtain ⟨b, rfl⟩ := hp_ptr h
  have HFL := Lib.hid (hp_lt h)
  have HSO := Lib.hid (hp_sorted h)
  cases l with
  | nil =>
    have HX := Lib.hid (show topT [] = .tuple #[.int .i64 0, .agg #[.int .i64 0, .int .i64 0, .int .i64 0], .bool false] from rfl)
    rw [HX.out] at TP
    have TP := Lib.hid TP
    have H1 := Lib.hid h1
    have HV := Lib.hid hV
    have HKB := Lib.hid hkb
    have HVS := Lib.hid hVs
    rw [HX.out]
    unfold kv zero3 at TP
    clear h h1 hV hkb hVs
    go_enter Try.func16, Try.ntmps16
    go_wp2_with fail
    refine TP.out.mono ?_; rintro e w1 ⟨rfl, b1⟩
    have hz : w.heap.size + 1 ≤ w1.heap.size := by have := b1.size; simp at this; omega
    have KB := Lib.hid (show (w1.alloc (.cells #[.int .i64 0, .int .i64 0, .int .i64 0] 24)).heap[w.heap.size]? = some (.cells #[.int .i64 zero3.a, .int .i64 zero3.b, .int .i64 zero3.c] 24 (0, 0)) from
      blk_old _ ((b1.block w.heap.size (by simp)).trans HKB.out))
    have K6 := Lib.hid (show (w1.alloc (.cells #[.int .i64 0, .int .i64 0, .int .i64 0] 24)).heap[w1.heap.size]? = some (.cells #[.int .i64 zero3.a, .int .i64 zero3.b, .int .i64 zero3.c] 24 (0, 0)) from blk_new _ _)
    have HNE := Lib.hid (show w1.heap.size ≠ w.heap.size by omega)
    have hbel : Below w.heap.size w (w1.alloc (.cells #[.int .i64 0, .int .i64 0, .int .i64 0] 24)) := (HV.out.trans (b1.mono HV.out.size)).alloc (by omega) _
    have HQ := Lib.hid (show HPost F (.pointer (some ⟨b, 0, none⟩)) [] w (set3 (w1.alloc (.cells #[.int .i64 0, .int .i64 0, .int .i64 0] 24)).drew w.heap.size zero3) from
      hpost_set3 zero3 (hp_keep H1.out (fun k hk => by
        have hlt := HFL.out k hk
        have e1 : (w1.alloc (.cells #[.int .i64 0, .int .i64 0, .int .i64 0] 24)).heap[k]? = w.heap[k]? := hbel.block k hlt
        rw [e1]; exact (HV.out.block k hlt).symm) (by simp; omega)) (Turned.of hbel) (fun k hk => .inl hk) (Nat.le_refl _) (fun hk => Nat.lt_irrefl _ (HFL.out _ hk)))
    clear TP b1 hbel HV HKB HVS H1
    go_wp2_with fail
    generalize w1.alloc (.cells #[.int .i64 0, .int .i64 0, .int .i64 0] 24) = W2 at *
    generalize hk6 : w1.heap.size = k6 at *
    clear hk6 hz
    obtain ⟨ka, kc, kd⟩ := (show _ ∧ _ ∧ _ from ⟨blk_cell KB.out 0, blk_cell KB.out 1, blk_cell KB.out 2⟩)
    obtain ⟨fa, fc, fd⟩ := (show _ ∧ _ ∧ _ from ⟨blk_free KB.out 0, blk_free KB.out 1, blk_free KB.out 2⟩)
    have HL := Lib.hid (show ∀ w', w' = W2.drew ∨ w' = set3 W2.drew w.heap.size zero3 → w'.cell? ⟨k6, 0, none⟩ = some (.int .i64 zero3.a) ∧ w'.cell? ⟨k6, 1, none⟩ = some (.int .i64 zero3.b) ∧ w'.cell? ⟨k6, 2, none⟩ = some (.int .i64 zero3.c) from by
      rintro w' (rfl | rfl)
      · exact ⟨blk_cell (w := W2) K6.out 0, blk_cell (w := W2) K6.out 1, blk_cell (w := W2) K6.out 2⟩
      · have hb := (set3_only W2.drew w.heap.size zero3).old (c := k6) K6.out HNE.out
        exact ⟨blk_cell hb 0, blk_cell hb 1, blk_cell hb 2⟩)
    refine wp_region_holdC [4] (oneC W2.drew (set3 W2.drew w.heap.size zero3)) (by kernel_rfl) (by kernel_rfl) (by kernel_rfl) (oneC_start _ _) ?_
    repeat
      first
      | (refine holdC_val (v := ?_) (by rfl) (by rfl) ?_ ?_
         rotate_left
         · (intro m w' hC
            obtain ⟨_, _, _⟩ := HL.out w' (oneC_any hC)
            go_simp
            try with_reducible rfl)
         simp only [Act.put, List.setIfInBounds_toArray, List.set_cons_zero, List.set_cons_succ])
      | (refine holdC_turn 0 [] (by rfl) (by rfl) (by decide) (by rfl) (by rfl) (fun m w' hm _ hC => ?_) ?_
         · (obtain rfl := oneC_off hm hC
            refine ⟨_, ?_, oneC_set hm⟩
            go_simp
            try rfl)
         simp only [Act.put, List.setIfInBounds_toArray, List.set_cons_zero, List.set_cons_succ])
    refine holdC_nil (fun w' hC => ?_)
    have hw := oneC_on rfl hC
    subst hw
    clear hC HL
    go_wp2_with fail
    exact bodyPost_ret (keyc_results3 rfl (set3_blk (w := W2.drew) (u := zero3) (v := zero3) KB.out) rfl rfl) rfl ⟨rfl, HQ.out⟩
  | cons t r =>
    have HX := Lib.hid (show topT (t :: r) = .tuple #[.int .i64 t.id, .agg #[.int .i64 t.key.a, .int .i64 t.key.b, .int .i64 t.key.c], .bool true] from rfl)
    rw [HX.out] at TP
    have TP := Lib.hid TP
    have H1 := Lib.hid h1
    have HV := Lib.hid hV
    have HKB := Lib.hid hkb
    have HTO := Lib.hid (show inI t.id from ((hp_sorted h).2.1 t (by simp)).1)
    rw [HX.out]
    unfold kv zero3 at TP
    clear h h1 hV hkb hVs
    go_enter Try.func16, Try.ntmps16
    go_wp2_with fail
    refine TP.out.mono ?_; rintro e w1 ⟨rfl, b1⟩
    have hz : w.heap.size + 1 ≤ w1.heap.size := by have := b1.size; simp at this; omega
    have hkb1 : (w1.alloc (.cells #[.int .i64 t.key.a, .int .i64 t.key.b, .int .i64 t.key.c] 24)).heap[w.heap.size]? = some (.cells #[.int .i64 zero3.a, .int .i64 zero3.b, .int .i64 zero3.c] 24 (0, 0)) :=
      blk_old _ ((b1.block w.heap.size (by simp)).trans HKB.out)
    have hk61 : (w1.alloc (.cells #[.int .i64 t.key.a, .int .i64 t.key.b, .int .i64 t.key.c] 24)).heap[w1.heap.size]? = some (.cells #[.int .i64 t.key.a, .int .i64 t.key.b, .int .i64 t.key.c] 24 (0, 0)) := blk_new _ _
    have hbel : Below w.heap.size w (w1.alloc (.cells #[.int .i64 t.key.a, .int .i64 t.key.b, .int .i64 t.key.c] 24)) := (HV.out.trans (b1.mono HV.out.size)).alloc (by omega) _
    have hp1 : HP F (.pointer (some ⟨b, 0, none⟩)) (t :: r) (w1.alloc (.cells #[.int .i64 t.key.a, .int .i64 t.key.b, .int .i64 t.key.c] 24)) := hp_keep H1.out (fun k hk => by
        have hlt := HFL.out k hk
        have e1 : (w1.alloc (.cells #[.int .i64 t.key.a, .int .i64 t.key.b, .int .i64 t.key.c] 24)).heap[k]? = w.heap[k]? := hbel.block k hlt
        rw [e1]; exact (HV.out.block k hlt).symm) (by simp; omega)
    have DR := Lib.hid (hdrop_any F _ (t :: r) t.id _ HTO.out hn hp1)
    have HBE := Lib.hid hbel
    have HK1 := Lib.hid hkb1
    have HK2 := Lib.hid hk61
    have hszW : (w1.alloc (.cells #[.int .i64 t.key.a, .int .i64 t.key.b, .int .i64 t.key.c] 24)).heap.size = w1.heap.size + 1 := by simp
    have HSZ := Lib.hid hszW
    clear TP b1 hbel HV HKB H1 hkb1 hk61 hp1 hszW
    go_wp2_with fail
    refine DR.out.mono ?_; rintro e W2 ⟨rfl, F2, hp2, ht2, hF2⟩
    rw [drop_head HSO.out] at hp2
    have hnF : ∀ k, w.heap.size ≤ k → ¬ F k := fun k hk hf => by have := HFL.out k hf; omega
    have KB := Lib.hid ((ht2.block w.heap.size (by rw [HSZ.out]; omega) (hnF _ (Nat.le_refl _))).trans HK1.out)
    have K6 := Lib.hid ((ht2.block w1.heap.size (by rw [HSZ.out]; omega) (hnF _ (by omega))).trans HK2.out)
    have HNE := Lib.hid (show w1.heap.size ≠ w.heap.size by omega)
    have HQ := Lib.hid (show HPost F (.pointer (some ⟨b, 0, none⟩)) r w (set3 W2.drew w.heap.size t.key) from
      hpost_set3 t.key hp2 ((Turned.of (F := F) HBE.out).trans (G := F) ht2 (fun k hk => .inl hk)) (fun k hk => (hF2 k hk).imp id (fun h => by rw [HSZ.out] at h; omega)) (Nat.le_refl _) (fun hk => by
        rcases hF2 _ hk with h | h
        · exact hnF _ (Nat.le_refl _) h
        · rw [HSZ.out] at h; omega))
    clear DR hp2 ht2 hF2 hnF HBE HK1 HK2 HSZ
    go_wp2_with fail
    generalize hk6 : w1.heap.size = k6 at *
    clear hk6 hz
    obtain ⟨ka, kc, kd⟩ := (show _ ∧ _ ∧ _ from ⟨blk_cell KB.out 0, blk_cell KB.out 1, blk_cell KB.out 2⟩)
    obtain ⟨fa, fc, fd⟩ := (show _ ∧ _ ∧ _ from ⟨blk_free KB.out 0, blk_free KB.out 1, blk_free KB.out 2⟩)
    have HL := Lib.hid (show ∀ w', w' = W2.drew ∨ w' = set3 W2.drew w.heap.size t.key → w'.cell? ⟨k6, 0, none⟩ = some (.int .i64 t.key.a) ∧ w'.cell? ⟨k6, 1, none⟩ = some (.int .i64 t.key.b) ∧ w'.cell? ⟨k6, 2, none⟩ = some (.int .i64 t.key.c) from by
      rintro w' (rfl | rfl)
      · exact ⟨blk_cell (w := W2) K6.out 0, blk_cell (w := W2) K6.out 1, blk_cell (w := W2) K6.out 2⟩
      · have hb := (set3_only W2.drew w.heap.size t.key).old (c := k6) K6.out HNE.out
        exact ⟨blk_cell hb 0, blk_cell hb 1, blk_cell hb 2⟩)
    refine wp_region_holdC [4] (oneC W2.drew (set3 W2.drew w.heap.size t.key)) (by kernel_rfl) (by kernel_rfl) (by kernel_rfl) (oneC_start _ _) ?_
    repeat
      first
      | (refine holdC_val (v := ?_) (by rfl) (by rfl) ?_ ?_
         rotate_left
         · (intro m w' hC
            obtain ⟨_, _, _⟩ := HL.out w' (oneC_any hC)
            go_simp
            try with_reducible rfl)
         simp only [Act.put, List.setIfInBounds_toArray, List.set_cons_zero, List.set_cons_succ])
      | (refine holdC_turn 0 [] (by rfl) (by rfl) (by decide) (by rfl) (by rfl) (fun m w' hm _ hC => ?_) ?_
         · (obtain rfl := oneC_off hm hC
            refine ⟨_, ?_, oneC_set hm⟩
            go_simp
            try rfl)
         simp only [Act.put, List.setIfInBounds_toArray, List.set_cons_zero, List.set_cons_succ])
    refine holdC_nil (fun w' hC => ?_)
    have hw := oneC_on rfl hC
    subst hw
    clear hC HL
    go_wp2_with fail
    exact bodyPost_ret (keyc_results3 rfl (set3_blk (w := W2.drew) (u := zero3) (v := t.key) KB.out) rfl rfl) rfl ⟨rfl, HQ.out⟩
set_option maxHeartbeats 2000000 in
theorem ntake_any (w : World) : Calls Try.prog 16 #[.pointer none] w fun e w' => e = .returned (topT []) ∧ Below w.heap.size w w' := by
  have hV := kv_below w zero3
  have hkb := kv_blk w zero3
  have TP := ntop_any (kv w zero3)
  have HX := Lib.hid (show topT [] = .tuple #[.int .i64 0, .agg #[.int .i64 0, .int .i64 0, .int .i64 0], .bool false] from rfl)
  rw [HX.out] at TP
  have TP := Lib.hid TP
  have HV := Lib.hid hV
  have HKB := Lib.hid hkb
  rw [HX.out]
  unfold kv zero3 at TP
  clear hV hkb
  go_enter Try.func16, Try.ntmps16
  go_wp2_with fail
  refine TP.out.mono ?_; rintro e w1 ⟨rfl, b1⟩
  have hz : w.heap.size + 1 ≤ w1.heap.size := by have := b1.size; simp at this; omega
  have KB := Lib.hid (show (w1.alloc (.cells #[.int .i64 0, .int .i64 0, .int .i64 0] 24)).heap[w.heap.size]? = some (.cells #[.int .i64 zero3.a, .int .i64 zero3.b, .int .i64 zero3.c] 24 (0, 0)) from
    blk_old _ ((b1.block w.heap.size (by simp)).trans HKB.out))
  have K6 := Lib.hid (show (w1.alloc (.cells #[.int .i64 0, .int .i64 0, .int .i64 0] 24)).heap[w1.heap.size]? = some (.cells #[.int .i64 zero3.a, .int .i64 zero3.b, .int .i64 zero3.c] 24 (0, 0)) from blk_new _ _)
  have HNE := Lib.hid (show w1.heap.size ≠ w.heap.size by omega)
  have hbel : Below w.heap.size w (w1.alloc (.cells #[.int .i64 0, .int .i64 0, .int .i64 0] 24)) := (HV.out.trans (b1.mono HV.out.size)).alloc (by omega) _
  have HQ := Lib.hid (show Below w.heap.size w (set3 (w1.alloc (.cells #[.int .i64 0, .int .i64 0, .int .i64 0] 24)).drew w.heap.size zero3) from
    (below_drew1 hbel).trans ((set3_only _ w.heap.size zero3).below (Nat.le_refl _) hbel.size))
  clear TP b1 hbel HV HKB
  go_wp2_with fail
  generalize w1.alloc (.cells #[.int .i64 0, .int .i64 0, .int .i64 0] 24) = W2 at *
  generalize hk6 : w1.heap.size = k6 at *
  clear hk6 hz
  obtain ⟨ka, kc, kd⟩ := (show _ ∧ _ ∧ _ from ⟨blk_cell KB.out 0, blk_cell KB.out 1, blk_cell KB.out 2⟩)
  obtain ⟨fa, fc, fd⟩ := (show _ ∧ _ ∧ _ from ⟨blk_free KB.out 0, blk_free KB.out 1, blk_free KB.out 2⟩)
  have HL := Lib.hid (show ∀ w', w' = W2.drew ∨ w' = set3 W2.drew w.heap.size zero3 → w'.cell? ⟨k6, 0, none⟩ = some (.int .i64 zero3.a) ∧ w'.cell? ⟨k6, 1, none⟩ = some (.int .i64 zero3.b) ∧ w'.cell? ⟨k6, 2, none⟩ = some (.int .i64 zero3.c) from by
    rintro w' (rfl | rfl)
    · exact ⟨blk_cell (w := W2) K6.out 0, blk_cell (w := W2) K6.out 1, blk_cell (w := W2) K6.out 2⟩
    · have hb := (set3_only W2.drew w.heap.size zero3).old (c := k6) K6.out HNE.out
      exact ⟨blk_cell hb 0, blk_cell hb 1, blk_cell hb 2⟩)
  refine wp_region_holdC [4] (oneC W2.drew (set3 W2.drew w.heap.size zero3)) (by kernel_rfl) (by kernel_rfl) (by kernel_rfl) (oneC_start _ _) ?_
  repeat
    first
    | (refine holdC_val (v := ?_) (by rfl) (by rfl) ?_ ?_
       rotate_left
       · (intro m w' hC
          obtain ⟨_, _, _⟩ := HL.out w' (oneC_any hC)
          go_simp
          try with_reducible rfl)
       simp only [Act.put, List.setIfInBounds_toArray, List.set_cons_zero, List.set_cons_succ])
    | (refine holdC_turn 0 [] (by rfl) (by rfl) (by decide) (by rfl) (by rfl) (fun m w' hm _ hC => ?_) ?_
       · (obtain rfl := oneC_off hm hC
          refine ⟨_, ?_, oneC_set hm⟩
          go_simp
          try rfl)
       simp only [Act.put, List.setIfInBounds_toArray, List.set_cons_zero, List.set_cons_succ])
  refine holdC_nil (fun w' hC => ?_)
  have hw := oneC_on rfl hC
  subst hw
  clear hC HL
  go_wp2_with fail
  exact bodyPost_ret (keyc_results3 rfl (set3_blk (w := W2.drew) (u := zero3) (v := zero3) KB.out) rfl rfl) rfl ⟨rfl, HQ.out⟩
end Go.Proofs.Ytfknmokidjgeiaa
