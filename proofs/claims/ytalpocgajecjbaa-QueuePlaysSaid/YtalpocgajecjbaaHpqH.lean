/- What Key and Top of a heap come to. Conditions: as stated. -/
import Derived.Test.YtalpocgajecjbaaHpqG
namespace Go.Proofs.Ytalpocgajecjbaa
open Go.ChangeShapes Go.WideShapes Go.ChangeAt Go.RowKit
set_option linter.unusedVariables false
set_option maxRecDepth 100000
set_option linter.unusedSimpArgs false
variable {X : List Value × TypeId}

/-- A key that was just laid for a result. -/
abbrev kz (w : World) : World := w.alloc (.cells #[.int .i64 0, .int .i64 0, .int .i64 0] 55)
/-- .. and written. -/
abbrev kv (w : World) (v : V3) : World := w.alloc (.cells #[.int .i64 v.a, .int .i64 v.b, .int .i64 v.c] 55)
theorem kv_below (w : World) (v : V3) : Below w.heap.size w (kv w v) := (Below.refl _ _).alloc (Nat.le_refl _) _
theorem kv_blk (w : World) (v : V3) : (kv w v).heap[w.heap.size]? = some (.cells #[.int .i64 v.a, .int .i64 v.b, .int .i64 v.c] 55 (0, 0)) := blk_new w _
set_option maxHeartbeats 2000000 in
theorem htop_any (F : Nat → Prop) (v : Value) (l : List Thg) (w : World) (hn : l.length ≤ 100000) (h : HPX X F v l w) :
    Calls Try.prog 23 #[v] w fun e w' => e = .returned (topT l) ∧ Below w.heap.size w w' := by
  obtain ⟨b, sv, mv, its, m, rfl, h2, h3, h4, h5⟩ := h
  have hb := (Below.refl w.heap.size w).alloc (Nat.le_refl _) (.cells #[.int .i64 0, .int .i64 0, .int .i64 0] 55)
  have hk := blk_new w (.cells #[.int .i64 0, .int .i64 0, .int .i64 0] 55)
  have hB := h2.below hb
  have LE := hlen_b (kz w) hB
  have k0 := blk_cell hk 0
  have k1 := blk_cell hk 1
  have k2 := blk_cell hk 2
  have f0 := blk_free hk 0
  have f1 := blk_free hk 1
  have f2 := blk_free hk 2
  have HK := Lib.hid hk
  have HBL := Lib.hid hb
  cases l with
  | nil =>
    obtain rfl : its = [] := h3.eq_nil
    have LE := Lib.hid LE
    clear hB hk hb h2 h3 h4 h5
    have HX := Lib.hid (show topT [] = .tuple #[.int .i64 0, .agg #[.int .i64 0, .int .i64 0, .int .i64 0], .bool false] from rfl)
    rw [HX.out]
    go_enter Try.func23, Try.ntmps23
    go_wp2_with fail
    refine LE.out.mono ?_; rintro e w1 ⟨rfl, rfl⟩
    go_wp2_with fail
    exact bodyPost_ret (keyc_results3 rfl (kv_blk w zero3) rfl rfl) rfl ⟨rfl, kv_below w zero3⟩
  | cons t r =>
    have hl := h3.length_eq
    have h0 : 0 < its.length := by rw [hl]; simp
    obtain ⟨bi, cap, bm, rfl, rfl, hS⟩ := hB.full h0
    have ht : nth its 0 = t := by
      have hmem := h3.mem_iff.1 (nth_mem its 0 h0)
      rcases List.mem_cons.1 hmem with e | e
      · exact e
      · obtain ⟨j, hj, ej⟩ := mem_nth (h3.mem_iff.2 (List.mem_cons_self (a := t) (l := r)))
        have h1 := hB.heap.top j hj
        rw [ej] at h1
        have := (List.pairwise_cons.1 h4.1).1 _ e
        rw [h1] at this
        cases this
    have HX := Lib.hid (show topT (t :: r) = .tuple #[.int .i64 t.id, .agg #[.int .i64 t.key.a, .int .i64 t.key.b, .int .i64 t.key.c], .bool true] from rfl)
    obtain ⟨r0, r1, r2, r3⟩ := row_cells hS.row 0 h0
    rw [ht] at r0 r1 r2 r3
    obtain ⟨c0, _⟩ := hS.cells
    have LE := Lib.hid LE
    have dl : ((its.length : Int) == 0) = false := beq_false_of_ne (by omega)
    have i1 : (0 : Int) < (its.length : Int) := by omega
    have HL := Lib.hid (show ∀ w', w' = (kz w).drew ∨ w' = (kv w t.key).drew → (w'.cell? ⟨b, 0, none⟩ = some (.slice (some ⟨bi, 0, none⟩) its.length cap)) ∧ w'.cell? ⟨bi, 0, none⟩ = some (.int .i64 t.id) ∧ w'.cell? ⟨bi, 1, none⟩ = some (.int .i64 t.key.a) ∧ w'.cell? ⟨bi, 2, none⟩ = some (.int .i64 t.key.b) ∧ w'.cell? ⟨bi, 3, none⟩ = some (.int .i64 t.key.c) from by
      have hc : ∀ {x o : Nat}, x < w.heap.size → (kv w t.key).drew.cell? ⟨x, o, none⟩ = (kz w).cell? ⟨x, o, none⟩ := fun {x o} e =>
        ((kv_below w t.key).cell (p := ⟨x, o, none⟩) e).trans ((kv_below w zero3).cell (p := ⟨x, o, none⟩) e).symm
      have hbi : bi < w.heap.size := h2.lt (k := bi) (.inr (.inl rfl))
      rintro w' (rfl | rfl)
      · exact ⟨c0, r0, r1, r2, r3⟩
      · exact ⟨(hc (h2.lt (k := b) (.inl rfl))).trans c0, (hc hbi).trans r0, (hc hbi).trans r1, (hc hbi).trans r2, (hc hbi).trans r3⟩)
    rw [HX.out]
    clear hB hk hb h2 h3 h4 h5 hS ht hl r0 r1 r2 r3 c0
    go_enter Try.func23, Try.ntmps23
    go_wp2_with fail
    refine LE.out.mono ?_; rintro e w1 ⟨rfl, rfl⟩
    go_wp2_with fail
    refine wp_region_holdC [15] (oneC (kz w).drew (kv w t.key).drew) (by kernel_rfl) (by kernel_rfl) (by kernel_rfl) (oneC_start _ _) ?_
    repeat
      first
      | (refine holdC_val (v := ?_) (by rfl) (by rfl) ?_ ?_
         rotate_left
         · (intro m w' hC
            obtain ⟨_, _, _, _, _⟩ := HL.out w' (oneC_any hC)
            go_simp
            try with_reducible rfl)
         simp only [Act.put, List.setIfInBounds_toArray, List.set_cons_zero, List.set_cons_succ])
      | (refine holdC_turn 0 [] (by rfl) (by rfl) (by decide) (by rfl) (by rfl) (fun m w' hm _ hC => ?_) ?_
         · (obtain rfl := oneC_off hm hC
            refine ⟨_, ?_, oneC_set hm⟩
            go_simp
            try rfl)
         simp only [Act.put, List.setIfInBounds_toArray, List.set_cons_zero, List.set_cons_succ])
    refine holdC_nil (fun w' hC => ?_)
    have hw := oneC_on rfl hC
    subst hw
    clear hC
    go_wp2_with fail
    exact bodyPost_ret (keyc_results3 rfl (kv_blk w t.key) rfl rfl) rfl ⟨rfl, below_drew1 (kv_below w t.key)⟩
set_option maxHeartbeats 1000000 in
theorem ntop_any (w : World) : Calls Try.prog 23 #[.pointer none] w fun e w' => e = .returned (topT []) ∧ Below w.heap.size w w' := by
  have hb := (Below.refl w.heap.size w).alloc (Nat.le_refl _) (.cells #[.int .i64 0, .int .i64 0, .int .i64 0] 55)
  have hk := blk_new w (.cells #[.int .i64 0, .int .i64 0, .int .i64 0] 55)
  have LE := Lib.hid (nlen_w (kz w))
  have k0 := blk_cell hk 0
  have k1 := blk_cell hk 1
  have k2 := blk_cell hk 2
  have f0 := blk_free hk 0
  have f1 := blk_free hk 1
  have f2 := blk_free hk 2
  have HK := Lib.hid hk
  have HBL := Lib.hid hb
  clear hb hk
  have HX := Lib.hid (show topT [] = .tuple #[.int .i64 0, .agg #[.int .i64 0, .int .i64 0, .int .i64 0], .bool false] from rfl)
  rw [HX.out]
  go_enter Try.func23, Try.ntmps23
  go_wp2_with fail
  refine LE.out.mono ?_; rintro e w1 ⟨rfl, rfl⟩
  go_wp2_with fail
  exact bodyPost_ret (keyc_results3 rfl (kv_blk w zero3) rfl rfl) rfl ⟨rfl, kv_below w zero3⟩
end Go.Proofs.Ytalpocgajecjbaa
