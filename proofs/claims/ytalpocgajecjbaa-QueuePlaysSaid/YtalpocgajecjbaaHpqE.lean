/- What below and less come to. Conditions: as stated. -/
import Derived.Test.YtalpocgajecjbaaHpqD
namespace Go.Proofs.Ytalpocgajecjbaa
open Go.ChangeShapes Go.WideShapes Go.ChangeAt Go.RowKit
set_option linter.unusedVariables false
set_option maxRecDepth 100000
set_option linter.unusedSimpArgs false
variable {X : List Value × TypeId}

/-- The lesser of the two below, if there are any. -/
def kidP (l : List Thg) (g : Nat) : Option Nat := if l.length ≤ 2 * g + 1 then none else if 2 * g + 2 < l.length ∧ aheadT (nth l (2 * g + 2)) (nth l (2 * g + 1)) = true then some (2 * g + 2) else some (2 * g + 1)
theorem kid_none {l : List Thg} {g : Nat} (h : kidP l g = none) : ∀ c, 0 < c → c < l.length → up c = g → False := by
  intro c h0 hc hu
  unfold kidP at h
  unfold up at hu
  split at h
  · omega
  · split at h <;> cases h
theorem kid_some {l : List Thg} {g c : Nat} (h : kidP l g = some c) : 0 < c ∧ c < l.length ∧ up c = g ∧ ∀ j, 0 < j → j < l.length → up j = g → leT (nth l c) (nth l j) := by
  unfold kidP at h
  split at h
  · cases h
  · rename_i h1
    split at h
    · rename_i h2
      cases h
      refine ⟨by omega, h2.1, by unfold up; omega, fun j h0 hj hu => ?_⟩
      unfold up at hu
      have : j = 2 * g + 1 ∨ j = 2 * g + 2 := by omega
      rcases this with rfl | rfl
      · exact leT_of h2.2
      · exact leT_refl _
    · rename_i h2
      cases h
      refine ⟨by omega, by omega, by unfold up; omega, fun j h0 hj hu => ?_⟩
      unfold up at hu
      have : j = 2 * g + 1 ∨ j = 2 * g + 2 := by omega
      rcases this with rfl | rfl
      · exact leT_refl _
      · unfold leT
        cases ha : aheadT (nth l (2 * g + 2)) (nth l (2 * g + 1))
        · rfl
        · exact absurd ⟨hj, ha⟩ h2
def kidR (o : Option Nat) : Value := match o with
  | none => .tuple #[.int .i64 0, .bool false]
  | some c => .tuple #[.int .i64 (c : Int), .bool true]
theorem row_below {w w' : World} {bi cap : Nat} {l : List Thg} (h : RowW w (.slice (some ⟨bi, 0, none⟩) l.length cap) l) (hb : Below w.heap.size w w') : RowW w' (.slice (some ⟨bi, 0, none⟩) l.length cap) l := row_keep h (hb.block bi (row_lt h))
set_option maxHeartbeats 2000000 in
theorem hbelow_any (b bi cap bm n : Nat) (l : List Thg) (m : PosM) (g : Nat) (w : World) (hg : g < l.length) (hl : l.length ≤ 1000000) (h : HS X b bi cap bm n l m w) :
    Calls Try.prog 34 #[.pointer (some ⟨b, 0, none⟩), .int .i64 (g : Int)] w fun e w' => e = .returned (kidR (kidP l g)) ∧ Below w.heap.size w w' := by
  have c0 := h.cells.1
  have i0 : (0 : Int) ≤ (g : Int) := by omega
  have i1 : (g : Int) ≤ 1000000 := by omega
  have i2 : (l.length : Int) ≤ 1000000 := by omega
  by_cases h1 : l.length ≤ 2 * g + 1
  · have d1 : decide ((l.length : Int) ≤ 2 * (g : Int) + 1) = true := decide_eq_true (by omega)
    have HX := Lib.hid (show kidR (kidP l g) = .tuple #[.int .i64 0, .bool false] by unfold kidP; rw [if_pos h1]; rfl)
    clear h h1
    go_enter Try.func34, Try.ntmps34
    go_wp2_with fail
    go_ret2
    exact ⟨by rw [HX.out]; rfl, Below.refl _ _⟩
  · have d1 : decide ((l.length : Int) ≤ 2 * (g : Int) + 1) = false := decide_eq_false (by omega)
    have j0 : (0 : Int) ≤ 2 * (g : Int) + 1 := by omega
    have j1 : 2 * (g : Int) + 1 < (l.length : Int) := by omega
    have t1 : (2 * (g : Int) + 1).toNat = 2 * g + 1 := by omega
    have t2 : (2 * (g : Int) + 1 + 1).toNat = 2 * g + 2 := by omega
    by_cases h2 : 2 * g + 2 < l.length
    · have d2 : decide (2 * (g : Int) + 1 + 1 < (l.length : Int)) = true := decide_eq_true (by omega)
      have k0 : (0 : Int) ≤ 2 * (g : Int) + 1 + 1 := by omega
      have k1 : 2 * (g : Int) + 1 + 1 < (l.length : Int) := by omega
      have HL := Lib.hid (show ∀ w', Below w.heap.size w w' → w'.cell? ⟨b, 0, none⟩ = some (.slice (some ⟨bi, 0, none⟩) l.length cap) ∧
          (w'.cell? ⟨bi, (2 * g + 2) * 4, none⟩ = some (.int .i64 (nth l (2 * g + 2)).id) ∧ w'.cell? ⟨bi, (2 * g + 2) * 4 + 1, none⟩ = some (.int .i64 (nth l (2 * g + 2)).key.a) ∧ w'.cell? ⟨bi, (2 * g + 2) * 4 + 2, none⟩ = some (.int .i64 (nth l (2 * g + 2)).key.b) ∧ w'.cell? ⟨bi, (2 * g + 2) * 4 + 3, none⟩ = some (.int .i64 (nth l (2 * g + 2)).key.c)) ∧
          (w'.cell? ⟨bi, (2 * g + 1) * 4, none⟩ = some (.int .i64 (nth l (2 * g + 1)).id) ∧ w'.cell? ⟨bi, (2 * g + 1) * 4 + 1, none⟩ = some (.int .i64 (nth l (2 * g + 1)).key.a) ∧ w'.cell? ⟨bi, (2 * g + 1) * 4 + 2, none⟩ = some (.int .i64 (nth l (2 * g + 1)).key.b) ∧ w'.cell? ⟨bi, (2 * g + 1) * 4 + 3, none⟩ = some (.int .i64 (nth l (2 * g + 1)).key.c)) from fun w' hb =>
        ⟨(h.below hb).cells.1, row_cells (h.below hb).row (2 * g + 2) h2, row_cells (h.below hb).row (2 * g + 1) (by omega)⟩)
      have CM := fun w => hcompare_any (nth l (2 * g + 2)) (nth l (2 * g + 1)) w
      unfold Thg.val at CM
      have CM := Lib.hid (fun w => (CM w).mono fun e w' hh => (⟨hh.1, hh.2.below⟩ : e = .returned (.int .i64 (cmpT (nth l (2 * g + 2)) (nth l (2 * g + 1)))) ∧ Below w.heap.size w w'))
      have ha := cmpT_ahead (nth l (2 * g + 2)) (nth l (2 * g + 1))
      have HX := Lib.hid (show ∀ q, aheadT (nth l (2 * g + 2)) (nth l (2 * g + 1)) = q → kidR (kidP l g) = .tuple #[.int .i64 (if q = true then 2 * (g : Int) + 1 + 1 else 2 * (g : Int) + 1), .bool true] from by
        intro q hq
        unfold kidP
        rw [if_neg h1]
        cases q
        · rw [if_neg (fun e => by rw [hq] at e; cases e.2)]; unfold kidR; simp
        · rw [if_pos ⟨h2, hq⟩]; unfold kidR; simp; omega)
      cases hq : aheadT (nth l (2 * g + 2)) (nth l (2 * g + 1))
      all_goals
        rw [hq] at ha
        have HX := Lib.hid (HX.out _ hq)
        clear h h1 h2 hq
        generalize cmpT (nth l (2 * g + 2)) (nth l (2 * g + 1)) = c at *
        go_enter Try.func34, Try.ntmps34
        go_wp2_with fail
        refine wp_region_hold (fun w' => Below w.heap.size w w') (by kernel_rfl) (by kernel_rfl) ⟨rfl, rfl, rfl, Nat.le_refl _, fun _ _ => rfl⟩ ?_
        repeat
          first
          | (refine hold_val (v := ?_) (by rfl) ?_ ?_
             rotate_left
             · (intro w' hS
                obtain ⟨_, ⟨_, _, _, _⟩, ⟨_, _, _, _⟩⟩ := HL.out w' hS
                go_simp
                try with_reducible rfl)
             simp only [Act.put, List.setIfInBounds_toArray, List.set_cons_zero, List.set_cons_succ])
          | (refine hold_skip (by rfl) ?_
             simp only [Act.put, List.setIfInBounds_toArray, List.set_cons_zero, List.set_cons_succ])
          | (refine hold_call (by rfl) ?_ (fun w' hS => made_call hS (Nat.le_refl _) (CM.out w')) ?_; focus (intro w' hS; go_simp; done)
             simp only [Act.put, List.setIfInBounds_toArray, List.set_cons_zero, List.set_cons_succ])
        refine hold_nil (fun w' hS => ?_)
        have HF := Lib.hid hS
        clear hS
        go_wp2_with fail
        go_ret2
        exact ⟨by rw [HX.out]; rfl, HF.out⟩
    · have d2 : decide (2 * (g : Int) + 1 + 1 < (l.length : Int)) = false := decide_eq_false (by omega)
      have HX := Lib.hid (show kidR (kidP l g) = .tuple #[.int .i64 (2 * (g : Int) + 1), .bool true] by unfold kidP; rw [if_neg h1, if_neg (fun e => h2 e.1)]; unfold kidR; simp)
      have HL := Lib.hid (show ∀ w', Below w.heap.size w w' → w'.cell? ⟨b, 0, none⟩ = some (.slice (some ⟨bi, 0, none⟩) l.length cap) ∧ (True ∧ True ∧ True ∧ True) ∧ (True ∧ True ∧ True ∧ True) from fun w' hb => ⟨(h.below hb).cells.1, ⟨trivial, trivial, trivial, trivial⟩, trivial, trivial, trivial, trivial⟩)
      have CM := Lib.hid (fun w => (hcompare_any (nth l 0) (nth l 0) w).mono fun e w' hh => (⟨hh.1, hh.2.below⟩ : e = .returned (.int .i64 (cmpT (nth l 0) (nth l 0))) ∧ Below w.heap.size w w'))
      clear h h1 h2
      go_enter Try.func34, Try.ntmps34
      go_wp2_with fail
      refine wp_region_hold (fun w' => Below w.heap.size w w') (by kernel_rfl) (by kernel_rfl) ⟨rfl, rfl, rfl, Nat.le_refl _, fun _ _ => rfl⟩ ?_
      repeat
        first
        | (refine hold_val (v := ?_) (by rfl) ?_ ?_
           rotate_left
           · (intro w' hS
              obtain ⟨_, ⟨_, _, _, _⟩, ⟨_, _, _, _⟩⟩ := HL.out w' hS
              go_simp
              try with_reducible rfl)
           simp only [Act.put, List.setIfInBounds_toArray, List.set_cons_zero, List.set_cons_succ])
        | (refine hold_skip (by rfl) ?_
           simp only [Act.put, List.setIfInBounds_toArray, List.set_cons_zero, List.set_cons_succ])
        | (refine hold_call (by rfl) ?_ (fun w' hS => made_call hS (Nat.le_refl _) (CM.out w')) ?_; focus (intro w' hS; go_simp; done)
           simp only [Act.put, List.setIfInBounds_toArray, List.set_cons_zero, List.set_cons_succ])
      refine hold_nil (fun w' hS => ?_)
      have HF := Lib.hid hS
      clear hS
      go_wp2_with fail
      go_ret2
      exact ⟨by rw [HX.out]; rfl, HF.out⟩
set_option maxHeartbeats 2000000 in
theorem hsless_any (b bi cap bm n b3 b5 : Nat) (l : List Thg) (m : PosM) (x : Thg) (g : Nat) (w : World) (hg : g < l.length) (hl : l.length ≤ 1000000) (h : HS X b bi cap bm n l m w)
    (hb3 : w.heap[b3]? = some (.cells #[.pointer (some ⟨b, 0, none⟩)] 62 (0, 0))) (hb5 : w.heap[b5]? = some (.cells #[.int .i64 x.id, .int .i64 x.key.a, .int .i64 x.key.b, .int .i64 x.key.c] 66 (0, 0))) :
    Calls Try.prog 31 #[.int .i64 (g : Int), .pointer (some ⟨b3, 0, none⟩), .pointer (some ⟨b5, 0, none⟩)] w fun e w' => e = .returned (.bool (aheadT (nth l g) x)) ∧ Below w.heap.size w w' := by
  have i0 : (0 : Int) ≤ (g : Int) := by omega
  have i1 : (g : Int) < (l.length : Int) := by omega
  have HL := Lib.hid (show ∀ w', Below w.heap.size w w' → (w'.cell? ⟨b, 0, none⟩ = some (.slice (some ⟨bi, 0, none⟩) l.length cap) ∧ w'.cell? ⟨b3, 0, none⟩ = some (.pointer (some ⟨b, 0, none⟩))) ∧
      (w'.cell? ⟨bi, g * 4, none⟩ = some (.int .i64 (nth l g).id) ∧ w'.cell? ⟨bi, g * 4 + 1, none⟩ = some (.int .i64 (nth l g).key.a) ∧ w'.cell? ⟨bi, g * 4 + 2, none⟩ = some (.int .i64 (nth l g).key.b) ∧ w'.cell? ⟨bi, g * 4 + 3, none⟩ = some (.int .i64 (nth l g).key.c)) ∧
      (w'.cell? ⟨b5, 0, none⟩ = some (.int .i64 x.id) ∧ w'.cell? ⟨b5, 1, none⟩ = some (.int .i64 x.key.a) ∧ w'.cell? ⟨b5, 2, none⟩ = some (.int .i64 x.key.b) ∧ w'.cell? ⟨b5, 3, none⟩ = some (.int .i64 x.key.c)) from fun w' hb => by
    have q3 := (hb.block b3 (lt_of_block hb3)).trans hb3
    have q5 := (hb.block b5 (lt_of_block hb5)).trans hb5
    exact ⟨⟨(h.below hb).cells.1, blk_cell q3 0⟩, row_cells (h.below hb).row g hg, blk_cell q5 0, blk_cell q5 1, blk_cell q5 2, blk_cell q5 3⟩)
  have CM := fun w => hcompare_any (nth l g) x w
  unfold Thg.val at CM
  have CM := Lib.hid (fun w => (CM w).mono fun e w' hh => (⟨hh.1, hh.2.below⟩ : e = .returned (.int .i64 (cmpT (nth l g) x)) ∧ Below w.heap.size w w'))
  have HX := Lib.hid (cmpT_ahead (nth l g) x)
  clear h hb3 hb5
  generalize cmpT (nth l g) x = c at *
  go_enter Try.func31, Try.ntmps31
  go_wp2_with fail
  refine wp_region_hold (fun w' => Below w.heap.size w w') (by kernel_rfl) (by kernel_rfl) ⟨rfl, rfl, rfl, Nat.le_refl _, fun _ _ => rfl⟩ ?_
  repeat
    first
    | (refine hold_val (v := ?_) (by rfl) ?_ ?_
       rotate_left
       · (intro w' hS
          obtain ⟨⟨_, _⟩, ⟨_, _, _, _⟩, ⟨_, _, _, _⟩⟩ := HL.out w' hS
          go_simp
          try with_reducible rfl)
       simp only [Act.put, List.setIfInBounds_toArray, List.set_cons_zero, List.set_cons_succ])
    | (refine hold_call (by rfl) ?_ (fun w' hS => made_call hS (Nat.le_refl _) (CM.out w')) ?_; focus (intro w' hS; go_simp; done)
       simp only [Act.put, List.setIfInBounds_toArray, List.set_cons_zero, List.set_cons_succ])
  refine hold_nil (fun w' hS => ?_)
  have HF := Lib.hid hS
  clear hS
  go_wp2_with fail
  go_ret
  exact ⟨by rw [← HX.out]; rfl, HF.out⟩
end Go.Proofs.Ytalpocgajecjbaa
