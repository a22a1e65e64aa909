/- What numbers, of package event, comes to. Written by tools/gen-eve.py. Conditions: as stated. -/
import Derived.Test.YtkahdmhgfojbiaaEvNum
namespace Go.Proofs.Ytkahdmhgfojbiaa
open Go.ChangeShapes Go.WideShapes Go.ChangeAt Go.RowKit
set_option linter.unusedVariables false
set_option maxRecDepth 100000
set_option linter.unusedSimpArgs false

theorem fill_first {w0 : World} {b fb rb g1 g2 g3 g4 : Nat} {F1 F2 F3 F4 : Value} {f : Nat} {ks : List Nat} {w : World} (h : Fill w0 b fb rb g1 g2 g3 g4 F1 F2 F3 F4 f ks w) (n : Int) (hn : (f : Int) = n) : w.cell? ⟨fb, 0, none⟩ = some (.int .i64 n) := by
  subst hn; exact cell_of_one h.room.1
theorem fill_cells {w0 : World} {b fb rb g1 g2 g3 g4 : Nat} {F1 F2 F3 F4 : Value} {f : Nat} {ks : List Nat} {w : World} (h : Fill w0 b fb rb g1 g2 g3 g4 F1 F2 F3 F4 f ks w) : w.cell? ⟨g1, 0, none⟩ = some (pt b 1) ∧ w.cell? ⟨g1, 1, none⟩ = some F1 ∧ w.cell? ⟨g2, 0, none⟩ = some (pt b 3) ∧ w.cell? ⟨g2, 1, none⟩ = some F2 ∧
    w.cell? ⟨g3, 0, none⟩ = some (pt b 2) ∧ w.cell? ⟨g3, 1, none⟩ = some F3 ∧ w.cell? ⟨g4, 0, none⟩ = some (pt b 4) ∧ w.cell? ⟨g4, 1, none⟩ = some F4 :=
  ⟨blk_cell h.n1.1 0, blk_cell h.n1.1 1, blk_cell h.n2.1 0, blk_cell h.n2.1 1, blk_cell h.n3.1 0, blk_cell h.n3.1 1, blk_cell h.n4.1 0, blk_cell h.n4.1 1⟩
theorem room_sliceZ (rb f : Nat) (z : Int) (hz : (f : Int) = z) (w : World) (hf : f < 5) : (Instr.sliceAt 59 (pt rb 0) (some (.int .i64 z)) none none).run Try.prog w = .ok (.slice (some ⟨rb, 2 * f, none⟩) (5 - f) (5 - f)) w := by
  subst hz; exact room_slice rb f w hf
theorem fill_start {w w1 w2 : World} {b g1 g2 g3 g4 : Nat} {F1 F2 F3 F4 : Value} (h1 : Below w.heap.size w w1) (h2 : Below w1.heap.size w1 w2)
    (l1 : w.heap.size ≤ g1) (l2 : w.heap.size ≤ g2) (b1 : w1.heap[g1]? = some (.cells #[pt b 1, F1] 44 (0, 0))) (b2 : w1.heap[g2]? = some (.cells #[pt b 3, F2] 44 (0, 0)))
    (f1 : FnOk (fun a => w.heap.size ≤ a ∧ a < w1.heap.size) b 1 F1 w1) (f2 : FnOk (fun a => w.heap.size ≤ a ∧ a < w1.heap.size) b 3 F2 w1)
    (b3 : w2.heap[g3]? = some (.cells #[pt b 2, F3] 44 (0, 0))) (b4 : w2.heap[g4]? = some (.cells #[pt b 4, F4] 44 (0, 0)))
    (f3 : FnOk (fun a => w1.heap.size ≤ a ∧ a < w2.heap.size) b 2 F3 w2) (f4 : FnOk (fun a => w1.heap.size ≤ a ∧ a < w2.heap.size) b 4 F4 w2) :
    Fill w b (w2.heap.size + 1) w2.heap.size g1 g2 g3 g4 F1 F2 F3 F4 5 [] ((w2.alloc (.cells #[.pointer none, .nilFunc, .pointer none, .nilFunc, .pointer none, .nilFunc, .pointer none, .nilFunc, .pointer none, .nilFunc] 59)).alloc (.cells #[.int .i64 5] 3)) := by
  have z1 := h1.size
  have z2 := h2.size
  have hb : Below w2.heap.size w2 ((w2.alloc (.cells #[.pointer none, .nilFunc, .pointer none, .nilFunc, .pointer none, .nilFunc, .pointer none, .nilFunc, .pointer none, .nilFunc] 59)).alloc (.cells #[.int .i64 5] 3)) := ((Below.refl _ _).alloc (Nat.le_refl _) _).alloc (by simp) _
  have y1 := blk_below h2 b1 (lt_of_block b1)
  have y2 := blk_below h2 b2 (lt_of_block b2)
  have x1 := lt_of_block y1
  have x2 := lt_of_block y2
  have x3 := lt_of_block b3
  have x4 := lt_of_block b4
  exact ⟨⟨blk_at _ _ _ (by simp), rfl, _, blk_old _ (blk_new w2 _), rfl, fun i j hij => by simp at hij⟩,
    ⟨blk_below hb y1 x1, ((f1.below h2).below hb).keep (fun a ha => ⟨ha.1, by omega, by omega⟩) fun _ _ _ h => h, by omega, by omega⟩,
    ⟨blk_below hb y2 x2, ((f2.below h2).below hb).keep (fun a ha => ⟨ha.1, by omega, by omega⟩) fun _ _ _ h => h, by omega, by omega⟩,
    ⟨blk_below hb b3 x3, (f3.below hb).keep (fun a ha => ⟨by omega, by omega, by omega⟩) fun _ _ _ h => h, by omega, by omega⟩,
    ⟨blk_below hb b4 x4, (f4.below hb).keep (fun a ha => ⟨by omega, by omega, by omega⟩) fun _ _ _ h => h, by omega, by omega⟩, by omega, by omega, by omega, (h1.trans (h2.mono h1.size)).trans (hb.mono (by omega))⟩
end Go.Proofs.Ytkahdmhgfojbiaa
/- What numbers, of package event, comes to at a kind. Written by tools/gen-eve.py. Conditions: as stated. -/
namespace Go.Proofs.Ytkahdmhgfojbiaa
open Go.ChangeShapes Go.WideShapes Go.ChangeAt Go.RowKit
set_option linter.unusedVariables false
set_option maxRecDepth 100000
set_option linter.unusedSimpArgs false

set_option maxHeartbeats 8000000 in
theorem numbers_1 (b : Nat) (w : World) (hx : w.cell? ⟨b, 0, none⟩ = some (.int .i64 1)) :
    Calls Try.prog 16 #[pt b 0] w fun e w' => ∃ u, e = .returned u ∧ NB (fun a => w.heap.size ≤ a) b (idxE 1) u w' ∧ Below w.heap.size w w' := by
  have hmf : ∀ (fn : Fn) (first cap : Array Value) (w : World), (Instr.makeFunc fn first cap).run Try.prog w = .ok (.func fn first cap) w := fun _ _ _ _ => rfl
  have hbs : b < w.heap.size := by
    unfold World.cell? at hx
    rcases Nat.lt_or_ge b w.heap.size with h | h
    · exact h
    · simp [h] at hx
  go_enter Try.func16, Try.ntmps16
  go_wp2_with fail
  refine two_numbers1 _ b w _ rfl rfl ?_
  intro s w1 g1 g2 F1 F2 q1 q2 n12 l1 l2 b1 b2 f1 f2 hb1
  simp only [putFrom, Act.put, List.setIfInBounds_toArray, List.set_cons_zero, List.set_cons_succ, Nat.zero_add, Nat.reduceAdd]
  rw [q1, q2]
  go_wp2_with fail
  refine two_numbers2 _ b w1 _ rfl rfl ?_
  intro s2 w2 g3 g4 F3 F4 q3 q4 n34 l3 l4 b3 b4 f3 f4 hb2
  simp only [putFrom, Act.put, List.setIfInBounds_toArray, List.set_cons_zero, List.set_cons_succ, Nat.zero_add, Nat.reduceAdd]
  rw [q3, q4]
  have HF0 := Lib.hid (fill_start hb1 hb2 l1 l2 b1 b2 f1 f2 b3 b4 f3 f4)
  have hx3 : ((w2.alloc (.cells #[.pointer none, .nilFunc, .pointer none, .nilFunc, .pointer none, .nilFunc, .pointer none, .nilFunc, .pointer none, .nilFunc] 59)).alloc (.cells #[.int .i64 5] 3)).cell? ⟨b, 0, none⟩ = some (.int .i64 1) := by
    rw [((HF0.out.bl)).cell (p := ⟨b, 0, none⟩) hbs]; exact hx
  obtain ⟨w3, hW⟩ : ∃ w3, ((w2.alloc (.cells #[.pointer none, .nilFunc, .pointer none, .nilFunc, .pointer none, .nilFunc, .pointer none, .nilFunc, .pointer none, .nilFunc] 59)).alloc (.cells #[.int .i64 5] 3)) = w3 := ⟨_, rfl⟩
  rw [hW] at HF0 hx3
  clear q1 q2 q3 q4 n12 n34 l1 l2 l3 l4 b1 b2 b3 b4 f1 f2 f3 f4 hb1 hb2 hx
  generalize s 0 = a0, s 1 = a1, s 2 = a2, s 3 = a3, s 4 = a4, s 5 = a5, s 6 = a6, s 7 = a7, s2 0 = c0, s2 1 = c1, s2 2 = c2, s2 3 = c3, s2 4 = c4, s2 5 = c5, s2 6 = c6, s2 7 = c7
  go_wp2_with fail
  refine (fill_vector HF0.out).mono ?_
  rintro e w4 ⟨lb1, rfl, hF1, hS1, nf1, nr1⟩
  have HF1 := Lib.hid hF1
  have HS := Lib.hid hS1
  clear hF1 hS1
  go_wp2_with fail
  refine (fill_ahead HF1.out lb1 3 3 [5, 6, 7] rfl (by omega) (by omega) HS.out nf1 nr1).mono ?_
  rintro e w5 ⟨rfl, hF2⟩
  have HF2 := Lib.hid hF2
  clear hF2 HS
  have HY := Lib.hid ((HF2.out).below (((Below.refl _ _).alloc (Nat.le_refl _) (.cells #[pt b 1, F1, pt b 3, F2] 44))))
  have HS := Lib.hid (src_two (blk_new _ _) HY.out.n1.2.1 HY.out.n2.2.1)
  have hlt := HF2.out.lt
  obtain ⟨x0, x1, x2, x3, x4, x5, x6, x7⟩ := fill_cells HF2.out
  go_wp2_with fail
  refine (fill_ahead HY.out w5.heap.size 2 2 [1, 3] rfl (by omega) (by omega) HS.out (by omega) (by omega)).mono ?_
  rintro e w6 ⟨rfl, hF3⟩
  have HF3 := Lib.hid hF3
  clear hF3 HS HY hlt x0 x1 x2 x3 x4 x5 x6 x7
  have y := fill_first HF3.out 0 rfl
  have hsl := fun W => room_sliceZ w2.heap.size 0 0 rfl W (by omega)
  go_wp2_with fail
  go_ret
  exact ⟨_, rfl, fill_out HF3.out (by omega), HF3.out.bl⟩
end Go.Proofs.Ytkahdmhgfojbiaa
/- What numbers, of package event, comes to at a kind. Written by tools/gen-eve.py. Conditions: as stated. -/
namespace Go.Proofs.Ytkahdmhgfojbiaa
open Go.ChangeShapes Go.WideShapes Go.ChangeAt Go.RowKit
set_option linter.unusedVariables false
set_option maxRecDepth 100000
set_option linter.unusedSimpArgs false

set_option maxHeartbeats 8000000 in
theorem numbers_2 (b : Nat) (w : World) (hx : w.cell? ⟨b, 0, none⟩ = some (.int .i64 2)) :
    Calls Try.prog 16 #[pt b 0] w fun e w' => ∃ u, e = .returned u ∧ NB (fun a => w.heap.size ≤ a) b (idxE 2) u w' ∧ Below w.heap.size w w' := by
  have hmf : ∀ (fn : Fn) (first cap : Array Value) (w : World), (Instr.makeFunc fn first cap).run Try.prog w = .ok (.func fn first cap) w := fun _ _ _ _ => rfl
  have hbs : b < w.heap.size := by
    unfold World.cell? at hx
    rcases Nat.lt_or_ge b w.heap.size with h | h
    · exact h
    · simp [h] at hx
  go_enter Try.func16, Try.ntmps16
  go_wp2_with fail
  refine two_numbers1 _ b w _ rfl rfl ?_
  intro s w1 g1 g2 F1 F2 q1 q2 n12 l1 l2 b1 b2 f1 f2 hb1
  simp only [putFrom, Act.put, List.setIfInBounds_toArray, List.set_cons_zero, List.set_cons_succ, Nat.zero_add, Nat.reduceAdd]
  rw [q1, q2]
  go_wp2_with fail
  refine two_numbers2 _ b w1 _ rfl rfl ?_
  intro s2 w2 g3 g4 F3 F4 q3 q4 n34 l3 l4 b3 b4 f3 f4 hb2
  simp only [putFrom, Act.put, List.setIfInBounds_toArray, List.set_cons_zero, List.set_cons_succ, Nat.zero_add, Nat.reduceAdd]
  rw [q3, q4]
  have HF0 := Lib.hid (fill_start hb1 hb2 l1 l2 b1 b2 f1 f2 b3 b4 f3 f4)
  have hx3 : ((w2.alloc (.cells #[.pointer none, .nilFunc, .pointer none, .nilFunc, .pointer none, .nilFunc, .pointer none, .nilFunc, .pointer none, .nilFunc] 59)).alloc (.cells #[.int .i64 5] 3)).cell? ⟨b, 0, none⟩ = some (.int .i64 2) := by
    rw [((HF0.out.bl)).cell (p := ⟨b, 0, none⟩) hbs]; exact hx
  obtain ⟨w3, hW⟩ : ∃ w3, ((w2.alloc (.cells #[.pointer none, .nilFunc, .pointer none, .nilFunc, .pointer none, .nilFunc, .pointer none, .nilFunc, .pointer none, .nilFunc] 59)).alloc (.cells #[.int .i64 5] 3)) = w3 := ⟨_, rfl⟩
  rw [hW] at HF0 hx3
  clear q1 q2 q3 q4 n12 n34 l1 l2 l3 l4 b1 b2 b3 b4 f1 f2 f3 f4 hb1 hb2 hx
  generalize s 0 = a0, s 1 = a1, s 2 = a2, s 3 = a3, s 4 = a4, s 5 = a5, s 6 = a6, s 7 = a7, s2 0 = c0, s2 1 = c1, s2 2 = c2, s2 3 = c3, s2 4 = c4, s2 5 = c5, s2 6 = c6, s2 7 = c7
  go_wp2_with fail
  refine (fill_vector HF0.out).mono ?_
  rintro e w4 ⟨lb1, rfl, hF1, hS1, nf1, nr1⟩
  have HF1 := Lib.hid hF1
  have HS := Lib.hid hS1
  clear hF1 hS1
  go_wp2_with fail
  refine (fill_ahead HF1.out lb1 3 3 [5, 6, 7] rfl (by omega) (by omega) HS.out nf1 nr1).mono ?_
  rintro e w5 ⟨rfl, hF2⟩
  have HF2 := Lib.hid hF2
  clear hF2 HS
  have HY := Lib.hid ((HF2.out).below (((Below.refl _ _).alloc (Nat.le_refl _) (.cells #[pt b 1, F1, pt b 3, F2] 44))))
  have HS := Lib.hid (src_two (blk_new _ _) HY.out.n1.2.1 HY.out.n2.2.1)
  have hlt := HF2.out.lt
  obtain ⟨x0, x1, x2, x3, x4, x5, x6, x7⟩ := fill_cells HF2.out
  go_wp2_with fail
  refine (fill_ahead HY.out w5.heap.size 2 2 [1, 3] rfl (by omega) (by omega) HS.out (by omega) (by omega)).mono ?_
  rintro e w6 ⟨rfl, hF3⟩
  have HF3 := Lib.hid hF3
  clear hF3 HS HY hlt x0 x1 x2 x3 x4 x5 x6 x7
  have y := fill_first HF3.out 0 rfl
  have hsl := fun W => room_sliceZ w2.heap.size 0 0 rfl W (by omega)
  go_wp2_with fail
  go_ret
  exact ⟨_, rfl, fill_out HF3.out (by omega), HF3.out.bl⟩
end Go.Proofs.Ytkahdmhgfojbiaa
/- What numbers, of package event, comes to at a kind. Written by tools/gen-eve.py. Conditions: as stated. -/
namespace Go.Proofs.Ytkahdmhgfojbiaa
open Go.ChangeShapes Go.WideShapes Go.ChangeAt Go.RowKit
set_option linter.unusedVariables false
set_option maxRecDepth 100000
set_option linter.unusedSimpArgs false

set_option maxHeartbeats 8000000 in
theorem numbers_3 (b : Nat) (w : World) (hx : w.cell? ⟨b, 0, none⟩ = some (.int .i64 3)) :
    Calls Try.prog 16 #[pt b 0] w fun e w' => ∃ u, e = .returned u ∧ NB (fun a => w.heap.size ≤ a) b (idxE 3) u w' ∧ Below w.heap.size w w' := by
  have hmf : ∀ (fn : Fn) (first cap : Array Value) (w : World), (Instr.makeFunc fn first cap).run Try.prog w = .ok (.func fn first cap) w := fun _ _ _ _ => rfl
  have hbs : b < w.heap.size := by
    unfold World.cell? at hx
    rcases Nat.lt_or_ge b w.heap.size with h | h
    · exact h
    · simp [h] at hx
  go_enter Try.func16, Try.ntmps16
  go_wp2_with fail
  refine two_numbers1 _ b w _ rfl rfl ?_
  intro s w1 g1 g2 F1 F2 q1 q2 n12 l1 l2 b1 b2 f1 f2 hb1
  simp only [putFrom, Act.put, List.setIfInBounds_toArray, List.set_cons_zero, List.set_cons_succ, Nat.zero_add, Nat.reduceAdd]
  rw [q1, q2]
  go_wp2_with fail
  refine two_numbers2 _ b w1 _ rfl rfl ?_
  intro s2 w2 g3 g4 F3 F4 q3 q4 n34 l3 l4 b3 b4 f3 f4 hb2
  simp only [putFrom, Act.put, List.setIfInBounds_toArray, List.set_cons_zero, List.set_cons_succ, Nat.zero_add, Nat.reduceAdd]
  rw [q3, q4]
  have HF0 := Lib.hid (fill_start hb1 hb2 l1 l2 b1 b2 f1 f2 b3 b4 f3 f4)
  have hx3 : ((w2.alloc (.cells #[.pointer none, .nilFunc, .pointer none, .nilFunc, .pointer none, .nilFunc, .pointer none, .nilFunc, .pointer none, .nilFunc] 59)).alloc (.cells #[.int .i64 5] 3)).cell? ⟨b, 0, none⟩ = some (.int .i64 3) := by
    rw [((HF0.out.bl)).cell (p := ⟨b, 0, none⟩) hbs]; exact hx
  obtain ⟨w3, hW⟩ : ∃ w3, ((w2.alloc (.cells #[.pointer none, .nilFunc, .pointer none, .nilFunc, .pointer none, .nilFunc, .pointer none, .nilFunc, .pointer none, .nilFunc] 59)).alloc (.cells #[.int .i64 5] 3)) = w3 := ⟨_, rfl⟩
  rw [hW] at HF0 hx3
  clear q1 q2 q3 q4 n12 n34 l1 l2 l3 l4 b1 b2 b3 b4 f1 f2 f3 f4 hb1 hb2 hx
  generalize s 0 = a0, s 1 = a1, s 2 = a2, s 3 = a3, s 4 = a4, s 5 = a5, s 6 = a6, s 7 = a7, s2 0 = c0, s2 1 = c1, s2 2 = c2, s2 3 = c3, s2 4 = c4, s2 5 = c5, s2 6 = c6, s2 7 = c7
  have HY := Lib.hid ((HF0.out).below (((Below.refl _ _).alloc (Nat.le_refl _) (.cells #[pt b 1, F1, pt b 3, F2] 44))))
  have HS := Lib.hid (src_two (blk_new _ _) HY.out.n1.2.1 HY.out.n2.2.1)
  have hlt := HF0.out.lt
  obtain ⟨x0, x1, x2, x3, x4, x5, x6, x7⟩ := fill_cells HF0.out
  go_wp2_with fail
  refine (fill_ahead HY.out w3.heap.size 2 2 [1, 3] rfl (by omega) (by omega) HS.out (by omega) (by omega)).mono ?_
  rintro e w4 ⟨rfl, hF1⟩
  have HF1 := Lib.hid hF1
  clear hF1 HS HY hlt x0 x1 x2 x3 x4 x5 x6 x7
  have y := fill_first HF1.out 3 rfl
  have hsl := fun W => room_sliceZ w2.heap.size 3 3 rfl W (by omega)
  go_wp2_with fail
  go_ret
  exact ⟨_, rfl, fill_out HF1.out (by omega), HF1.out.bl⟩
set_option maxHeartbeats 8000000 in
theorem numbers_4 (b : Nat) (w : World) (hx : w.cell? ⟨b, 0, none⟩ = some (.int .i64 4)) :
    Calls Try.prog 16 #[pt b 0] w fun e w' => ∃ u, e = .returned u ∧ NB (fun a => w.heap.size ≤ a) b (idxE 4) u w' ∧ Below w.heap.size w w' := by
  have hmf : ∀ (fn : Fn) (first cap : Array Value) (w : World), (Instr.makeFunc fn first cap).run Try.prog w = .ok (.func fn first cap) w := fun _ _ _ _ => rfl
  have hbs : b < w.heap.size := by
    unfold World.cell? at hx
    rcases Nat.lt_or_ge b w.heap.size with h | h
    · exact h
    · simp [h] at hx
  go_enter Try.func16, Try.ntmps16
  go_wp2_with fail
  refine two_numbers1 _ b w _ rfl rfl ?_
  intro s w1 g1 g2 F1 F2 q1 q2 n12 l1 l2 b1 b2 f1 f2 hb1
  simp only [putFrom, Act.put, List.setIfInBounds_toArray, List.set_cons_zero, List.set_cons_succ, Nat.zero_add, Nat.reduceAdd]
  rw [q1, q2]
  go_wp2_with fail
  refine two_numbers2 _ b w1 _ rfl rfl ?_
  intro s2 w2 g3 g4 F3 F4 q3 q4 n34 l3 l4 b3 b4 f3 f4 hb2
  simp only [putFrom, Act.put, List.setIfInBounds_toArray, List.set_cons_zero, List.set_cons_succ, Nat.zero_add, Nat.reduceAdd]
  rw [q3, q4]
  have HF0 := Lib.hid (fill_start hb1 hb2 l1 l2 b1 b2 f1 f2 b3 b4 f3 f4)
  have hx3 : ((w2.alloc (.cells #[.pointer none, .nilFunc, .pointer none, .nilFunc, .pointer none, .nilFunc, .pointer none, .nilFunc, .pointer none, .nilFunc] 59)).alloc (.cells #[.int .i64 5] 3)).cell? ⟨b, 0, none⟩ = some (.int .i64 4) := by
    rw [((HF0.out.bl)).cell (p := ⟨b, 0, none⟩) hbs]; exact hx
  obtain ⟨w3, hW⟩ : ∃ w3, ((w2.alloc (.cells #[.pointer none, .nilFunc, .pointer none, .nilFunc, .pointer none, .nilFunc, .pointer none, .nilFunc, .pointer none, .nilFunc] 59)).alloc (.cells #[.int .i64 5] 3)) = w3 := ⟨_, rfl⟩
  rw [hW] at HF0 hx3
  clear q1 q2 q3 q4 n12 n34 l1 l2 l3 l4 b1 b2 b3 b4 f1 f2 f3 f4 hb1 hb2 hx
  generalize s 0 = a0, s 1 = a1, s 2 = a2, s 3 = a3, s 4 = a4, s 5 = a5, s 6 = a6, s 7 = a7, s2 0 = c0, s2 1 = c1, s2 2 = c2, s2 3 = c3, s2 4 = c4, s2 5 = c5, s2 6 = c6, s2 7 = c7
  go_wp2_with fail
  refine (fill_vector HF0.out).mono ?_
  rintro e w4 ⟨lb1, rfl, hF1, hS1, nf1, nr1⟩
  have HF1 := Lib.hid hF1
  have HS := Lib.hid hS1
  clear hF1 hS1
  go_wp2_with fail
  refine (fill_ahead HF1.out lb1 3 3 [5, 6, 7] rfl (by omega) (by omega) HS.out nf1 nr1).mono ?_
  rintro e w5 ⟨rfl, hF2⟩
  have HF2 := Lib.hid hF2
  clear hF2 HS
  have HY := Lib.hid ((HF2.out).below (((Below.refl _ _).alloc (Nat.le_refl _) (.cells #[pt b 4, F4] 44))))
  have HS := Lib.hid (src_one (blk_new _ _) HY.out.n4.2.1)
  have hlt := HF2.out.lt
  obtain ⟨x0, x1, x2, x3, x4, x5, x6, x7⟩ := fill_cells HF2.out
  go_wp2_with fail
  refine (fill_ahead HY.out w5.heap.size 1 1 [4] rfl (by omega) (by omega) HS.out (by omega) (by omega)).mono ?_
  rintro e w6 ⟨rfl, hF3⟩
  have HF3 := Lib.hid hF3
  clear hF3 HS HY hlt x0 x1 x2 x3 x4 x5 x6 x7
  have HY := Lib.hid ((HF3.out).below (((Below.refl _ _).alloc (Nat.le_refl _) (.cells #[pt b 2, F3] 44))))
  have HS := Lib.hid (src_one (blk_new _ _) HY.out.n3.2.1)
  have hlt := HF3.out.lt
  obtain ⟨x0, x1, x2, x3, x4, x5, x6, x7⟩ := fill_cells HF3.out
  go_wp2_with fail
  refine (fill_ahead HY.out w6.heap.size 1 1 [2] rfl (by omega) (by omega) HS.out (by omega) (by omega)).mono ?_
  rintro e w7 ⟨rfl, hF4⟩
  have HF4 := Lib.hid hF4
  clear hF4 HS HY hlt x0 x1 x2 x3 x4 x5 x6 x7
  have y := fill_first HF4.out 0 rfl
  have hsl := fun W => room_sliceZ w2.heap.size 0 0 rfl W (by omega)
  go_wp2_with fail
  go_ret
  exact ⟨_, rfl, fill_out HF4.out (by omega), HF4.out.bl⟩
end Go.Proofs.Ytkahdmhgfojbiaa
/- What numbers, of package event, comes to at a kind. Written by tools/gen-eve.py. Conditions: as stated. -/
namespace Go.Proofs.Ytkahdmhgfojbiaa
open Go.ChangeShapes Go.WideShapes Go.ChangeAt Go.RowKit
set_option linter.unusedVariables false
set_option maxRecDepth 100000
set_option linter.unusedSimpArgs false

set_option maxHeartbeats 8000000 in
theorem numbers_5 (b : Nat) (w : World) (hx : w.cell? ⟨b, 0, none⟩ = some (.int .i64 5)) :
    Calls Try.prog 16 #[pt b 0] w fun e w' => ∃ u, e = .returned u ∧ NB (fun a => w.heap.size ≤ a) b (idxE 5) u w' ∧ Below w.heap.size w w' := by
  have hmf : ∀ (fn : Fn) (first cap : Array Value) (w : World), (Instr.makeFunc fn first cap).run Try.prog w = .ok (.func fn first cap) w := fun _ _ _ _ => rfl
  have hbs : b < w.heap.size := by
    unfold World.cell? at hx
    rcases Nat.lt_or_ge b w.heap.size with h | h
    · exact h
    · simp [h] at hx
  go_enter Try.func16, Try.ntmps16
  go_wp2_with fail
  refine two_numbers1 _ b w _ rfl rfl ?_
  intro s w1 g1 g2 F1 F2 q1 q2 n12 l1 l2 b1 b2 f1 f2 hb1
  simp only [putFrom, Act.put, List.setIfInBounds_toArray, List.set_cons_zero, List.set_cons_succ, Nat.zero_add, Nat.reduceAdd]
  rw [q1, q2]
  go_wp2_with fail
  refine two_numbers2 _ b w1 _ rfl rfl ?_
  intro s2 w2 g3 g4 F3 F4 q3 q4 n34 l3 l4 b3 b4 f3 f4 hb2
  simp only [putFrom, Act.put, List.setIfInBounds_toArray, List.set_cons_zero, List.set_cons_succ, Nat.zero_add, Nat.reduceAdd]
  rw [q3, q4]
  have HF0 := Lib.hid (fill_start hb1 hb2 l1 l2 b1 b2 f1 f2 b3 b4 f3 f4)
  have hx3 : ((w2.alloc (.cells #[.pointer none, .nilFunc, .pointer none, .nilFunc, .pointer none, .nilFunc, .pointer none, .nilFunc, .pointer none, .nilFunc] 59)).alloc (.cells #[.int .i64 5] 3)).cell? ⟨b, 0, none⟩ = some (.int .i64 5) := by
    rw [((HF0.out.bl)).cell (p := ⟨b, 0, none⟩) hbs]; exact hx
  obtain ⟨w3, hW⟩ : ∃ w3, ((w2.alloc (.cells #[.pointer none, .nilFunc, .pointer none, .nilFunc, .pointer none, .nilFunc, .pointer none, .nilFunc, .pointer none, .nilFunc] 59)).alloc (.cells #[.int .i64 5] 3)) = w3 := ⟨_, rfl⟩
  rw [hW] at HF0 hx3
  clear q1 q2 q3 q4 n12 n34 l1 l2 l3 l4 b1 b2 b3 b4 f1 f2 f3 f4 hb1 hb2 hx
  generalize s 0 = a0, s 1 = a1, s 2 = a2, s 3 = a3, s 4 = a4, s 5 = a5, s 6 = a6, s 7 = a7, s2 0 = c0, s2 1 = c1, s2 2 = c2, s2 3 = c3, s2 4 = c4, s2 5 = c5, s2 6 = c6, s2 7 = c7
  have HY := Lib.hid ((HF0.out).below (((Below.refl _ _).alloc (Nat.le_refl _) (.cells #[pt b 2, F3] 44))))
  have HS := Lib.hid (src_one (blk_new _ _) HY.out.n3.2.1)
  have hlt := HF0.out.lt
  obtain ⟨x0, x1, x2, x3, x4, x5, x6, x7⟩ := fill_cells HF0.out
  go_wp2_with fail
  refine (fill_ahead HY.out w3.heap.size 1 1 [2] rfl (by omega) (by omega) HS.out (by omega) (by omega)).mono ?_
  rintro e w4 ⟨rfl, hF1⟩
  have HF1 := Lib.hid hF1
  clear hF1 HS HY hlt x0 x1 x2 x3 x4 x5 x6 x7
  have y := fill_first HF1.out 4 rfl
  have hsl := fun W => room_sliceZ w2.heap.size 4 4 rfl W (by omega)
  go_wp2_with fail
  go_ret
  exact ⟨_, rfl, fill_out HF1.out (by omega), HF1.out.bl⟩
set_option maxHeartbeats 8000000 in
theorem numbers_6 (b : Nat) (w : World) (hx : w.cell? ⟨b, 0, none⟩ = some (.int .i64 6)) :
    Calls Try.prog 16 #[pt b 0] w fun e w' => ∃ u, e = .returned u ∧ NB (fun a => w.heap.size ≤ a) b (idxE 6) u w' ∧ Below w.heap.size w w' := by
  have hmf : ∀ (fn : Fn) (first cap : Array Value) (w : World), (Instr.makeFunc fn first cap).run Try.prog w = .ok (.func fn first cap) w := fun _ _ _ _ => rfl
  have hbs : b < w.heap.size := by
    unfold World.cell? at hx
    rcases Nat.lt_or_ge b w.heap.size with h | h
    · exact h
    · simp [h] at hx
  go_enter Try.func16, Try.ntmps16
  go_wp2_with fail
  refine two_numbers1 _ b w _ rfl rfl ?_
  intro s w1 g1 g2 F1 F2 q1 q2 n12 l1 l2 b1 b2 f1 f2 hb1
  simp only [putFrom, Act.put, List.setIfInBounds_toArray, List.set_cons_zero, List.set_cons_succ, Nat.zero_add, Nat.reduceAdd]
  rw [q1, q2]
  go_wp2_with fail
  refine two_numbers2 _ b w1 _ rfl rfl ?_
  intro s2 w2 g3 g4 F3 F4 q3 q4 n34 l3 l4 b3 b4 f3 f4 hb2
  simp only [putFrom, Act.put, List.setIfInBounds_toArray, List.set_cons_zero, List.set_cons_succ, Nat.zero_add, Nat.reduceAdd]
  rw [q3, q4]
  have HF0 := Lib.hid (fill_start hb1 hb2 l1 l2 b1 b2 f1 f2 b3 b4 f3 f4)
  have hx3 : ((w2.alloc (.cells #[.pointer none, .nilFunc, .pointer none, .nilFunc, .pointer none, .nilFunc, .pointer none, .nilFunc, .pointer none, .nilFunc] 59)).alloc (.cells #[.int .i64 5] 3)).cell? ⟨b, 0, none⟩ = some (.int .i64 6) := by
    rw [((HF0.out.bl)).cell (p := ⟨b, 0, none⟩) hbs]; exact hx
  obtain ⟨w3, hW⟩ : ∃ w3, ((w2.alloc (.cells #[.pointer none, .nilFunc, .pointer none, .nilFunc, .pointer none, .nilFunc, .pointer none, .nilFunc, .pointer none, .nilFunc] 59)).alloc (.cells #[.int .i64 5] 3)) = w3 := ⟨_, rfl⟩
  rw [hW] at HF0 hx3
  clear q1 q2 q3 q4 n12 n34 l1 l2 l3 l4 b1 b2 b3 b4 f1 f2 f3 f4 hb1 hb2 hx
  generalize s 0 = a0, s 1 = a1, s 2 = a2, s 3 = a3, s 4 = a4, s 5 = a5, s 6 = a6, s 7 = a7, s2 0 = c0, s2 1 = c1, s2 2 = c2, s2 3 = c3, s2 4 = c4, s2 5 = c5, s2 6 = c6, s2 7 = c7
  have HY := Lib.hid ((HF0.out).below (((Below.refl _ _).alloc (Nat.le_refl _) (.cells #[pt b 2, F3, pt b 1, F1, pt b 3, F2] 44))))
  have HS := Lib.hid (src_three (blk_new _ _) HY.out.n3.2.1 HY.out.n1.2.1 HY.out.n2.2.1)
  have hlt := HF0.out.lt
  obtain ⟨x0, x1, x2, x3, x4, x5, x6, x7⟩ := fill_cells HF0.out
  go_wp2_with fail
  refine (fill_ahead HY.out w3.heap.size 3 3 [2, 1, 3] rfl (by omega) (by omega) HS.out (by omega) (by omega)).mono ?_
  rintro e w4 ⟨rfl, hF1⟩
  have HF1 := Lib.hid hF1
  clear hF1 HS HY hlt x0 x1 x2 x3 x4 x5 x6 x7
  have y := fill_first HF1.out 2 rfl
  have hsl := fun W => room_sliceZ w2.heap.size 2 2 rfl W (by omega)
  go_wp2_with fail
  go_ret
  exact ⟨_, rfl, fill_out HF1.out (by omega), HF1.out.bl⟩
end Go.Proofs.Ytkahdmhgfojbiaa
/- What numbers, of package event, comes to at a kind. Written by tools/gen-eve.py. Conditions: as stated. -/
namespace Go.Proofs.Ytkahdmhgfojbiaa
open Go.ChangeShapes Go.WideShapes Go.ChangeAt Go.RowKit
set_option linter.unusedVariables false
set_option maxRecDepth 100000
set_option linter.unusedSimpArgs false

set_option maxHeartbeats 8000000 in
theorem numbers_7 (b : Nat) (w : World) (hx : w.cell? ⟨b, 0, none⟩ = some (.int .i64 7)) :
    Calls Try.prog 16 #[pt b 0] w fun e w' => ∃ u, e = .returned u ∧ NB (fun a => w.heap.size ≤ a) b (idxE 7) u w' ∧ Below w.heap.size w w' := by
  have hmf : ∀ (fn : Fn) (first cap : Array Value) (w : World), (Instr.makeFunc fn first cap).run Try.prog w = .ok (.func fn first cap) w := fun _ _ _ _ => rfl
  have hbs : b < w.heap.size := by
    unfold World.cell? at hx
    rcases Nat.lt_or_ge b w.heap.size with h | h
    · exact h
    · simp [h] at hx
  go_enter Try.func16, Try.ntmps16
  go_wp2_with fail
  refine two_numbers1 _ b w _ rfl rfl ?_
  intro s w1 g1 g2 F1 F2 q1 q2 n12 l1 l2 b1 b2 f1 f2 hb1
  simp only [putFrom, Act.put, List.setIfInBounds_toArray, List.set_cons_zero, List.set_cons_succ, Nat.zero_add, Nat.reduceAdd]
  rw [q1, q2]
  go_wp2_with fail
  refine two_numbers2 _ b w1 _ rfl rfl ?_
  intro s2 w2 g3 g4 F3 F4 q3 q4 n34 l3 l4 b3 b4 f3 f4 hb2
  simp only [putFrom, Act.put, List.setIfInBounds_toArray, List.set_cons_zero, List.set_cons_succ, Nat.zero_add, Nat.reduceAdd]
  rw [q3, q4]
  have HF0 := Lib.hid (fill_start hb1 hb2 l1 l2 b1 b2 f1 f2 b3 b4 f3 f4)
  have hx3 : ((w2.alloc (.cells #[.pointer none, .nilFunc, .pointer none, .nilFunc, .pointer none, .nilFunc, .pointer none, .nilFunc, .pointer none, .nilFunc] 59)).alloc (.cells #[.int .i64 5] 3)).cell? ⟨b, 0, none⟩ = some (.int .i64 7) := by
    rw [((HF0.out.bl)).cell (p := ⟨b, 0, none⟩) hbs]; exact hx
  obtain ⟨w3, hW⟩ : ∃ w3, ((w2.alloc (.cells #[.pointer none, .nilFunc, .pointer none, .nilFunc, .pointer none, .nilFunc, .pointer none, .nilFunc, .pointer none, .nilFunc] 59)).alloc (.cells #[.int .i64 5] 3)) = w3 := ⟨_, rfl⟩
  rw [hW] at HF0 hx3
  clear q1 q2 q3 q4 n12 n34 l1 l2 l3 l4 b1 b2 b3 b4 f1 f2 f3 f4 hb1 hb2 hx
  generalize s 0 = a0, s 1 = a1, s 2 = a2, s 3 = a3, s 4 = a4, s 5 = a5, s 6 = a6, s 7 = a7, s2 0 = c0, s2 1 = c1, s2 2 = c2, s2 3 = c3, s2 4 = c4, s2 5 = c5, s2 6 = c6, s2 7 = c7
  have HY := Lib.hid ((HF0.out).below (((Below.refl _ _).alloc (Nat.le_refl _) (.cells #[pt b 2, F3, pt b 1, F1, pt b 3, F2] 44))))
  have HS := Lib.hid (src_three (blk_new _ _) HY.out.n3.2.1 HY.out.n1.2.1 HY.out.n2.2.1)
  have hlt := HF0.out.lt
  obtain ⟨x0, x1, x2, x3, x4, x5, x6, x7⟩ := fill_cells HF0.out
  go_wp2_with fail
  refine (fill_ahead HY.out w3.heap.size 3 3 [2, 1, 3] rfl (by omega) (by omega) HS.out (by omega) (by omega)).mono ?_
  rintro e w4 ⟨rfl, hF1⟩
  have HF1 := Lib.hid hF1
  clear hF1 HS HY hlt x0 x1 x2 x3 x4 x5 x6 x7
  have y := fill_first HF1.out 2 rfl
  have hsl := fun W => room_sliceZ w2.heap.size 2 2 rfl W (by omega)
  go_wp2_with fail
  go_ret
  exact ⟨_, rfl, fill_out HF1.out (by omega), HF1.out.bl⟩
set_option maxHeartbeats 8000000 in
theorem numbers_none (b : Nat) (k : Int) (w : World) (hk : k ≠ 1 ∧ k ≠ 2 ∧ k ≠ 3 ∧ k ≠ 4 ∧ k ≠ 5 ∧ k ≠ 6 ∧ k ≠ 7) (hx : w.cell? ⟨b, 0, none⟩ = some (.int .i64 k)) :
    Calls Try.prog 16 #[pt b 0] w fun e w' => ∃ u, e = .returned u ∧ NB (fun a => w.heap.size ≤ a) b (idxE k) u w' ∧ Below w.heap.size w w' := by
  have hmf : ∀ (fn : Fn) (first cap : Array Value) (w : World), (Instr.makeFunc fn first cap).run Try.prog w = .ok (.func fn first cap) w := fun _ _ _ _ => rfl
  have hbs : b < w.heap.size := by
    unfold World.cell? at hx
    rcases Nat.lt_or_ge b w.heap.size with h | h
    · exact h
    · simp [h] at hx
  go_enter Try.func16, Try.ntmps16
  go_wp2_with fail
  refine two_numbers1 _ b w _ rfl rfl ?_
  intro s w1 g1 g2 F1 F2 q1 q2 n12 l1 l2 b1 b2 f1 f2 hb1
  simp only [putFrom, Act.put, List.setIfInBounds_toArray, List.set_cons_zero, List.set_cons_succ, Nat.zero_add, Nat.reduceAdd]
  rw [q1, q2]
  go_wp2_with fail
  refine two_numbers2 _ b w1 _ rfl rfl ?_
  intro s2 w2 g3 g4 F3 F4 q3 q4 n34 l3 l4 b3 b4 f3 f4 hb2
  simp only [putFrom, Act.put, List.setIfInBounds_toArray, List.set_cons_zero, List.set_cons_succ, Nat.zero_add, Nat.reduceAdd]
  rw [q3, q4]
  have HF0 := Lib.hid (fill_start hb1 hb2 l1 l2 b1 b2 f1 f2 b3 b4 f3 f4)
  have hx3 : ((w2.alloc (.cells #[.pointer none, .nilFunc, .pointer none, .nilFunc, .pointer none, .nilFunc, .pointer none, .nilFunc, .pointer none, .nilFunc] 59)).alloc (.cells #[.int .i64 5] 3)).cell? ⟨b, 0, none⟩ = some (.int .i64 k) := by
    rw [((HF0.out.bl)).cell (p := ⟨b, 0, none⟩) hbs]; exact hx
  obtain ⟨w3, hW⟩ : ∃ w3, ((w2.alloc (.cells #[.pointer none, .nilFunc, .pointer none, .nilFunc, .pointer none, .nilFunc, .pointer none, .nilFunc, .pointer none, .nilFunc] 59)).alloc (.cells #[.int .i64 5] 3)) = w3 := ⟨_, rfl⟩
  rw [hW] at HF0 hx3
  clear q1 q2 q3 q4 n12 n34 l1 l2 l3 l4 b1 b2 b3 b4 f1 f2 f3 f4 hb1 hb2 hx
  generalize s 0 = a0, s 1 = a1, s 2 = a2, s 3 = a3, s 4 = a4, s 5 = a5, s 6 = a6, s 7 = a7, s2 0 = c0, s2 1 = c1, s2 2 = c2, s2 3 = c3, s2 4 = c4, s2 5 = c5, s2 6 = c6, s2 7 = c7
  obtain ⟨k1, k2, k3, k4, k5, k6, k7⟩ := hk
  have y := fill_first HF0.out 5 rfl
  have hsl := fun W => room_slice5 w2.heap.size W
  have e0 : idxE k = [] := by unfold idxE; rw [if_neg (by omega), if_neg k3, if_neg k4, if_neg k5, if_neg (by omega)]
  have HE0 := Lib.hid e0
  clear e0
  have HF1 := HF0
  clear HF0
  have z1 : decide (k = 1) = false := decide_eq_false k1
  have z2 : decide (k = 2) = false := decide_eq_false k2
  have z3 : decide (k = 3) = false := decide_eq_false k3
  have z4 : decide (k = 4) = false := decide_eq_false k4
  have z5 : decide (k = 5) = false := decide_eq_false k5
  have z6 : decide (k = 6) = false := decide_eq_false k6
  have z7 : decide (k = 7) = false := decide_eq_false k7
  go_wp2_with fail
  go_ret
  exact ⟨_, rfl, by rw [HE0.out]; exact fill_none HF1.out, HF1.out.bl⟩
end Go.Proofs.Ytkahdmhgfojbiaa
/- What numbers, of package event, comes to. Conditions: as stated. -/
namespace Go.Proofs.Ytkahdmhgfojbiaa
open Go.ChangeShapes Go.WideShapes Go.ChangeAt Go.RowKit
set_option linter.unusedVariables false

theorem numbers_any (b : Nat) (k : Int) (w : World) (hx : w.cell? ⟨b, 0, none⟩ = some (.int .i64 k)) :
    Calls Try.prog 16 #[pt b 0] w fun e w' => ∃ u, e = .returned u ∧ NB (fun a => w.heap.size ≤ a) b (idxE k) u w' ∧ Below w.heap.size w w' := by
  rcases (by omega : k = 1 ∨ k = 2 ∨ k = 3 ∨ k = 4 ∨ k = 5 ∨ k = 6 ∨ k = 7 ∨ (k ≠ 1 ∧ k ≠ 2 ∧ k ≠ 3 ∧ k ≠ 4 ∧ k ≠ 5 ∧ k ≠ 6 ∧ k ≠ 7)) with rfl | rfl | rfl | rfl | rfl | rfl | rfl | hk
  · exact numbers_1 b w hx
  · exact numbers_2 b w hx
  · exact numbers_3 b w hx
  · exact numbers_4 b w hx
  · exact numbers_5 b w hx
  · exact numbers_6 b w hx
  · exact numbers_7 b w hx
  · exact numbers_none b k w hk hx
end Go.Proofs.Ytkahdmhgfojbiaa
