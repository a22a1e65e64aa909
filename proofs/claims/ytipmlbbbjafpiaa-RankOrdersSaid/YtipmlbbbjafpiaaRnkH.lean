/- RankOrders, the frame a variable: the regions that compare (6, 8, 10), the loop's test and step (2, 3). Written by tools/gen-rnkh.py. Conditions: as stated. -/
import Derived.Test.YtipmlbbbjafpiaaRnkG
import Derived.Deep.DeepCutAuto
namespace Go.Proofs.Ytipmlbbbjafpiaa
open Go.ChangeShapes Go.WideShapes Go.ChangeAt Go.RowKit
set_option linter.unusedVariables false
set_option maxRecDepth 100000
set_option linter.unusedSimpArgs false
set_option maxHeartbeats 4000000

theorem keyN_ok {x : Nd} (h : x.ok) : (keyN x).ok := by
  obtain ⟨h1, h2, h3, _⟩ := h
  exact ⟨h3, h1, by unfold keyN inI; dsimp only; omega⟩
theorem keyJ_ok {x : Jb} (h : x.ok) : (keyJ x).ok := by
  obtain ⟨h1, h2, h3, _⟩ := h
  refine ⟨?_, h3, h1⟩
  unfold keyJ inI at *
  dsimp only
  omega
theorem ro6_11 (A : Act) (w : World) (Q : Exit → Act → World → Prop) (b6 b7 b9 b10 : Nat) (x y : Jb) (p q : Nd) (e1 : x.id = y.id) (e2 : p.id = q.id) (bs : A.tmps.size = 143) (bd : A.defers = [])
    (f6 : sl A.tmps 6 = .pointer (some ⟨b6, 0, none⟩)) (h6 : BJob b6 x w)
    (f7 : sl A.tmps 7 = .pointer (some ⟨b7, 0, none⟩)) (h7 : BJob b7 y w)
    (f9 : sl A.tmps 9 = .pointer (some ⟨b9, 0, none⟩)) (h9 : BNod b9 p w)
    (f10 : sl A.tmps 10 = .pointer (some ⟨b10, 0, none⟩)) (h10 : BNod b10 q w)
    (hQ : ∀ A' w', NearR 12 A A' → sl A'.tmps 81 = .bool false → Below w.heap.size w w' → Q .normal A' w') :
    Code.wp Try.prog (roR 6) Q A w := by
  have HL := Lib.hid (show ∀ w', Below w.heap.size w w' → w'.cell? ⟨b6, 0, none⟩ = some (.int .i64 x.id) ∧ w'.cell? ⟨b7, 0, none⟩ = some (.int .i64 y.id) ∧ w'.cell? ⟨b9, 0, none⟩ = some (.int .i64 p.id) ∧ w'.cell? ⟨b10, 0, none⟩ = some (.int .i64 q.id) from fun w' hb => ⟨blk_cell (h6.below hb h6.lt) 0, blk_cell (h7.below hb h7.lt) 0, blk_cell (h9.below hb h9.lt) 0, blk_cell (h10.below hb h10.lt) 0⟩)
  have HB6 := Lib.hid (show ∀ w', Below w.heap.size w w' → BJob b6 x w' from fun w' hb => h6.below hb h6.lt)
  have HB7 := Lib.hid (show ∀ w', Below w.heap.size w w' → BJob b7 y w' from fun w' hb => h7.below hb h7.lt)
  have HB9 := Lib.hid (show ∀ w', Below w.heap.size w w' → BNod b9 p w' from fun w' hb => h9.below hb h9.lt)
  have HB10 := Lib.hid (show ∀ w', Below w.heap.size w w' → BNod b10 q w' from fun w' hb => h10.below hb h10.lt)
  replace f6 := sl_get f6
  replace f7 := sl_get f7
  replace f9 := sl_get f9
  replace f10 := sl_get f10
  have HQ := Lib.hid hQ
  have J0 := fun w => grw_call (rjob_any x x w)
  have N0 := fun w => grw_call (rnode_any p p w)
  rw [jobB_self x] at J0
  rw [nodeB_self p] at N0
  have d1 : (x.id != y.id) = false := by rw [e1]; simp
  have d2 : (p.id != q.id) = false := by rw [e2]; simp
  unfold Jb.val at J0
  unfold Nd.val at N0
  replace J0 := Lib.hid J0
  replace N0 := Lib.hid N0
  clear e1 e2
  clear hQ h6 h7 h9 h10
  conv => arg 2; whnf
  refine wp_region_hold (fun w' => Below w.heap.size w w') (by kernel_rfl) (by kernel_rfl) ⟨rfl, rfl, rfl, Nat.le_refl _, fun _ _ => rfl⟩ ?_
  repeat
    first
    | (refine hold_val (v := ?_) ?_ ?_ ?_
       rotate_left
       · first
         | (simp [Region.wanted]; done)
         | (simp [Region.wanted, yielded, Act.put, bs, undef]; done)
       · first
         | (with_reducible refine loadJ (.tmp 6) HB6.out ?_
            go_simp
            done)
         | (with_reducible refine loadJ (.tmp 7) HB7.out ?_
            go_simp
            done)
         | (with_reducible refine loadN (.tmp 9) HB9.out ?_
            go_simp
            done)
         | (with_reducible refine loadN (.tmp 10) HB10.out ?_
            go_simp
            done)
         | (intro w' hS
            obtain ⟨_, _, _, _⟩ := HL.out w' hS
            go_simp
            try with_reducible rfl))
    | (refine hold_skip ?_ ?_
       · (simp [Region.wanted, yielded, Act.put, bs, undef]; done))
    | (first
       | (refine hold_call ?_ ?_ (fun w' hS => made_call hS (Nat.le_refl _) (J0.out w')) ?_
          · (simp [Region.wanted, yielded, Act.put, bs, undef]; done)
          · (intro w' hS; go_simp; done))
       | (refine hold_call ?_ ?_ (fun w' hS => made_call hS (Nat.le_refl _) (N0.out w')) ?_
          · (simp [Region.wanted, yielded, Act.put, bs, undef]; done)
          · (intro w' hS; go_simp; done)))
  refine hold_nil ?_
  intro w6 hS
  refine HQ.out _ _ ⟨?_, ?_, fun i hi => ?_⟩ ?_ hS
  · simp only [put_tmps, Array.size_setIfInBounds, bs]
  · simp only [put_defers, bd]
  · simp only [put_tmps]
    repeat rw [sl_ne _ (by omega)]
  · simp only [put_tmps]
    repeat first | rw [sl_ne _ (by decide)] | rw [sl_eq _ (by simp only [Array.size_setIfInBounds, bs]; decide)]
theorem ro6_10 (A : Act) (w : World) (Q : Exit → Act → World → Prop) (b6 b7 b9 b10 : Nat) (x y : Jb) (p q : Nd) (e1 : x.id = y.id) (e2 : ¬ p.id = q.id) (bs : A.tmps.size = 143) (bd : A.defers = [])
    (f6 : sl A.tmps 6 = .pointer (some ⟨b6, 0, none⟩)) (h6 : BJob b6 x w)
    (f7 : sl A.tmps 7 = .pointer (some ⟨b7, 0, none⟩)) (h7 : BJob b7 y w)
    (f9 : sl A.tmps 9 = .pointer (some ⟨b9, 0, none⟩)) (h9 : BNod b9 p w)
    (f10 : sl A.tmps 10 = .pointer (some ⟨b10, 0, none⟩)) (h10 : BNod b10 q w)
    (hQ : ∀ A' w', NearR 12 A A' → sl A'.tmps 81 = .bool false → Below w.heap.size w w' → Q .normal A' w') :
    Code.wp Try.prog (roR 6) Q A w := by
  have HL := Lib.hid (show ∀ w', Below w.heap.size w w' → w'.cell? ⟨b6, 0, none⟩ = some (.int .i64 x.id) ∧ w'.cell? ⟨b7, 0, none⟩ = some (.int .i64 y.id) ∧ w'.cell? ⟨b9, 0, none⟩ = some (.int .i64 p.id) ∧ w'.cell? ⟨b10, 0, none⟩ = some (.int .i64 q.id) from fun w' hb => ⟨blk_cell (h6.below hb h6.lt) 0, blk_cell (h7.below hb h7.lt) 0, blk_cell (h9.below hb h9.lt) 0, blk_cell (h10.below hb h10.lt) 0⟩)
  have HB6 := Lib.hid (show ∀ w', Below w.heap.size w w' → BJob b6 x w' from fun w' hb => h6.below hb h6.lt)
  have HB7 := Lib.hid (show ∀ w', Below w.heap.size w w' → BJob b7 y w' from fun w' hb => h7.below hb h7.lt)
  have HB9 := Lib.hid (show ∀ w', Below w.heap.size w w' → BNod b9 p w' from fun w' hb => h9.below hb h9.lt)
  have HB10 := Lib.hid (show ∀ w', Below w.heap.size w w' → BNod b10 q w' from fun w' hb => h10.below hb h10.lt)
  replace f6 := sl_get f6
  replace f7 := sl_get f7
  replace f9 := sl_get f9
  replace f10 := sl_get f10
  have HQ := Lib.hid hQ
  have J0 := fun w => grw_call (rjob_any x x w)
  have N0 := fun w => grw_call (rnode_any p p w)
  rw [jobB_self x] at J0
  rw [nodeB_self p] at N0
  have d1 : (x.id != y.id) = false := by rw [e1]; simp
  have d2 : (p.id != q.id) = true := by simpa using e2
  have N1 := fun w => grw_call (rnode_any p q w)
  have N2 := fun w => grw_call (rnode_any q p w)
  have c2 : (nodeB p q == nodeB q p) = false := by rw [nodeB_other p q e2]; cases nodeB q p <;> rfl
  generalize nodeB p q = u3 at *
  generalize nodeB q p = u4 at *
  unfold Jb.val at J0
  unfold Nd.val at N0 N1 N2
  replace J0 := Lib.hid J0
  replace N0 := Lib.hid N0
  replace N1 := Lib.hid N1
  replace N2 := Lib.hid N2
  clear e1 e2
  clear hQ h6 h7 h9 h10
  conv => arg 2; whnf
  refine wp_region_hold (fun w' => Below w.heap.size w w') (by kernel_rfl) (by kernel_rfl) ⟨rfl, rfl, rfl, Nat.le_refl _, fun _ _ => rfl⟩ ?_
  repeat
    first
    | (refine hold_val (v := ?_) ?_ ?_ ?_
       rotate_left
       · first
         | (simp [Region.wanted]; done)
         | (simp [Region.wanted, yielded, Act.put, bs, undef]; done)
       · first
         | (with_reducible refine loadJ (.tmp 6) HB6.out ?_
            go_simp
            done)
         | (with_reducible refine loadJ (.tmp 7) HB7.out ?_
            go_simp
            done)
         | (with_reducible refine loadN (.tmp 9) HB9.out ?_
            go_simp
            done)
         | (with_reducible refine loadN (.tmp 10) HB10.out ?_
            go_simp
            done)
         | (intro w' hS
            obtain ⟨_, _, _, _⟩ := HL.out w' hS
            go_simp
            try with_reducible rfl))
    | (refine hold_skip ?_ ?_
       · (simp [Region.wanted, yielded, Act.put, bs, undef]; done))
    | (first
       | (refine hold_call ?_ ?_ (fun w' hS => made_call hS (Nat.le_refl _) (J0.out w')) ?_
          · (simp [Region.wanted, yielded, Act.put, bs, undef]; done)
          · (intro w' hS; go_simp; done))
       | (refine hold_call ?_ ?_ (fun w' hS => made_call hS (Nat.le_refl _) (N0.out w')) ?_
          · (simp [Region.wanted, yielded, Act.put, bs, undef]; done)
          · (intro w' hS; go_simp; done))
       | (refine hold_call ?_ ?_ (fun w' hS => made_call hS (Nat.le_refl _) (N1.out w')) ?_
          · (simp [Region.wanted, yielded, Act.put, bs, undef]; done)
          · (intro w' hS; go_simp; done))
       | (refine hold_call ?_ ?_ (fun w' hS => made_call hS (Nat.le_refl _) (N2.out w')) ?_
          · (simp [Region.wanted, yielded, Act.put, bs, undef]; done)
          · (intro w' hS; go_simp; done)))
  refine hold_nil ?_
  intro w6 hS
  refine HQ.out _ _ ⟨?_, ?_, fun i hi => ?_⟩ ?_ hS
  · simp only [put_tmps, Array.size_setIfInBounds, bs]
  · simp only [put_defers, bd]
  · simp only [put_tmps]
    repeat rw [sl_ne _ (by omega)]
  · simp only [put_tmps]
    repeat first | rw [sl_ne _ (by decide)] | rw [sl_eq _ (by simp only [Array.size_setIfInBounds, bs]; decide)]
theorem ro6_01 (A : Act) (w : World) (Q : Exit → Act → World → Prop) (b6 b7 b9 b10 : Nat) (x y : Jb) (p q : Nd) (e1 : ¬ x.id = y.id) (e2 : p.id = q.id) (bs : A.tmps.size = 143) (bd : A.defers = [])
    (f6 : sl A.tmps 6 = .pointer (some ⟨b6, 0, none⟩)) (h6 : BJob b6 x w)
    (f7 : sl A.tmps 7 = .pointer (some ⟨b7, 0, none⟩)) (h7 : BJob b7 y w)
    (f9 : sl A.tmps 9 = .pointer (some ⟨b9, 0, none⟩)) (h9 : BNod b9 p w)
    (f10 : sl A.tmps 10 = .pointer (some ⟨b10, 0, none⟩)) (h10 : BNod b10 q w)
    (hQ : ∀ A' w', NearR 12 A A' → sl A'.tmps 81 = .bool false → Below w.heap.size w w' → Q .normal A' w') :
    Code.wp Try.prog (roR 6) Q A w := by
  have HL := Lib.hid (show ∀ w', Below w.heap.size w w' → w'.cell? ⟨b6, 0, none⟩ = some (.int .i64 x.id) ∧ w'.cell? ⟨b7, 0, none⟩ = some (.int .i64 y.id) ∧ w'.cell? ⟨b9, 0, none⟩ = some (.int .i64 p.id) ∧ w'.cell? ⟨b10, 0, none⟩ = some (.int .i64 q.id) from fun w' hb => ⟨blk_cell (h6.below hb h6.lt) 0, blk_cell (h7.below hb h7.lt) 0, blk_cell (h9.below hb h9.lt) 0, blk_cell (h10.below hb h10.lt) 0⟩)
  have HB6 := Lib.hid (show ∀ w', Below w.heap.size w w' → BJob b6 x w' from fun w' hb => h6.below hb h6.lt)
  have HB7 := Lib.hid (show ∀ w', Below w.heap.size w w' → BJob b7 y w' from fun w' hb => h7.below hb h7.lt)
  have HB9 := Lib.hid (show ∀ w', Below w.heap.size w w' → BNod b9 p w' from fun w' hb => h9.below hb h9.lt)
  have HB10 := Lib.hid (show ∀ w', Below w.heap.size w w' → BNod b10 q w' from fun w' hb => h10.below hb h10.lt)
  replace f6 := sl_get f6
  replace f7 := sl_get f7
  replace f9 := sl_get f9
  replace f10 := sl_get f10
  have HQ := Lib.hid hQ
  have J0 := fun w => grw_call (rjob_any x x w)
  have N0 := fun w => grw_call (rnode_any p p w)
  rw [jobB_self x] at J0
  rw [nodeB_self p] at N0
  have d1 : (x.id != y.id) = true := by simpa using e1
  have J1 := fun w => grw_call (rjob_any x y w)
  have J2 := fun w => grw_call (rjob_any y x w)
  have c1 : (jobB x y == jobB y x) = false := by rw [jobB_other x y e1]; cases jobB y x <;> rfl
  generalize jobB x y = u1 at *
  generalize jobB y x = u2 at *
  have d2 : (p.id != q.id) = false := by rw [e2]; simp
  unfold Jb.val at J0 J1 J2
  unfold Nd.val at N0
  replace J0 := Lib.hid J0
  replace N0 := Lib.hid N0
  replace J1 := Lib.hid J1
  replace J2 := Lib.hid J2
  clear e1 e2
  clear hQ h6 h7 h9 h10
  conv => arg 2; whnf
  refine wp_region_hold (fun w' => Below w.heap.size w w') (by kernel_rfl) (by kernel_rfl) ⟨rfl, rfl, rfl, Nat.le_refl _, fun _ _ => rfl⟩ ?_
  repeat
    first
    | (refine hold_val (v := ?_) ?_ ?_ ?_
       rotate_left
       · first
         | (simp [Region.wanted]; done)
         | (simp [Region.wanted, yielded, Act.put, bs, undef]; done)
       · first
         | (with_reducible refine loadJ (.tmp 6) HB6.out ?_
            go_simp
            done)
         | (with_reducible refine loadJ (.tmp 7) HB7.out ?_
            go_simp
            done)
         | (with_reducible refine loadN (.tmp 9) HB9.out ?_
            go_simp
            done)
         | (with_reducible refine loadN (.tmp 10) HB10.out ?_
            go_simp
            done)
         | (intro w' hS
            obtain ⟨_, _, _, _⟩ := HL.out w' hS
            go_simp
            try with_reducible rfl))
    | (refine hold_skip ?_ ?_
       · (simp [Region.wanted, yielded, Act.put, bs, undef]; done))
    | (first
       | (refine hold_call ?_ ?_ (fun w' hS => made_call hS (Nat.le_refl _) (J0.out w')) ?_
          · (simp [Region.wanted, yielded, Act.put, bs, undef]; done)
          · (intro w' hS; go_simp; done))
       | (refine hold_call ?_ ?_ (fun w' hS => made_call hS (Nat.le_refl _) (N0.out w')) ?_
          · (simp [Region.wanted, yielded, Act.put, bs, undef]; done)
          · (intro w' hS; go_simp; done))
       | (refine hold_call ?_ ?_ (fun w' hS => made_call hS (Nat.le_refl _) (J1.out w')) ?_
          · (simp [Region.wanted, yielded, Act.put, bs, undef]; done)
          · (intro w' hS; go_simp; done))
       | (refine hold_call ?_ ?_ (fun w' hS => made_call hS (Nat.le_refl _) (J2.out w')) ?_
          · (simp [Region.wanted, yielded, Act.put, bs, undef]; done)
          · (intro w' hS; go_simp; done)))
  refine hold_nil ?_
  intro w6 hS
  refine HQ.out _ _ ⟨?_, ?_, fun i hi => ?_⟩ ?_ hS
  · simp only [put_tmps, Array.size_setIfInBounds, bs]
  · simp only [put_defers, bd]
  · simp only [put_tmps]
    repeat rw [sl_ne _ (by omega)]
  · simp only [put_tmps]
    repeat first | rw [sl_ne _ (by decide)] | rw [sl_eq _ (by simp only [Array.size_setIfInBounds, bs]; decide)]
theorem ro6_00 (A : Act) (w : World) (Q : Exit → Act → World → Prop) (b6 b7 b9 b10 : Nat) (x y : Jb) (p q : Nd) (e1 : ¬ x.id = y.id) (e2 : ¬ p.id = q.id) (bs : A.tmps.size = 143) (bd : A.defers = [])
    (f6 : sl A.tmps 6 = .pointer (some ⟨b6, 0, none⟩)) (h6 : BJob b6 x w)
    (f7 : sl A.tmps 7 = .pointer (some ⟨b7, 0, none⟩)) (h7 : BJob b7 y w)
    (f9 : sl A.tmps 9 = .pointer (some ⟨b9, 0, none⟩)) (h9 : BNod b9 p w)
    (f10 : sl A.tmps 10 = .pointer (some ⟨b10, 0, none⟩)) (h10 : BNod b10 q w)
    (hQ : ∀ A' w', NearR 12 A A' → sl A'.tmps 81 = .bool false → Below w.heap.size w w' → Q .normal A' w') :
    Code.wp Try.prog (roR 6) Q A w := by
  have HL := Lib.hid (show ∀ w', Below w.heap.size w w' → w'.cell? ⟨b6, 0, none⟩ = some (.int .i64 x.id) ∧ w'.cell? ⟨b7, 0, none⟩ = some (.int .i64 y.id) ∧ w'.cell? ⟨b9, 0, none⟩ = some (.int .i64 p.id) ∧ w'.cell? ⟨b10, 0, none⟩ = some (.int .i64 q.id) from fun w' hb => ⟨blk_cell (h6.below hb h6.lt) 0, blk_cell (h7.below hb h7.lt) 0, blk_cell (h9.below hb h9.lt) 0, blk_cell (h10.below hb h10.lt) 0⟩)
  have HB6 := Lib.hid (show ∀ w', Below w.heap.size w w' → BJob b6 x w' from fun w' hb => h6.below hb h6.lt)
  have HB7 := Lib.hid (show ∀ w', Below w.heap.size w w' → BJob b7 y w' from fun w' hb => h7.below hb h7.lt)
  have HB9 := Lib.hid (show ∀ w', Below w.heap.size w w' → BNod b9 p w' from fun w' hb => h9.below hb h9.lt)
  have HB10 := Lib.hid (show ∀ w', Below w.heap.size w w' → BNod b10 q w' from fun w' hb => h10.below hb h10.lt)
  replace f6 := sl_get f6
  replace f7 := sl_get f7
  replace f9 := sl_get f9
  replace f10 := sl_get f10
  have HQ := Lib.hid hQ
  have J0 := fun w => grw_call (rjob_any x x w)
  have N0 := fun w => grw_call (rnode_any p p w)
  rw [jobB_self x] at J0
  rw [nodeB_self p] at N0
  have d1 : (x.id != y.id) = true := by simpa using e1
  have J1 := fun w => grw_call (rjob_any x y w)
  have J2 := fun w => grw_call (rjob_any y x w)
  have c1 : (jobB x y == jobB y x) = false := by rw [jobB_other x y e1]; cases jobB y x <;> rfl
  generalize jobB x y = u1 at *
  generalize jobB y x = u2 at *
  have d2 : (p.id != q.id) = true := by simpa using e2
  have N1 := fun w => grw_call (rnode_any p q w)
  have N2 := fun w => grw_call (rnode_any q p w)
  have c2 : (nodeB p q == nodeB q p) = false := by rw [nodeB_other p q e2]; cases nodeB q p <;> rfl
  generalize nodeB p q = u3 at *
  generalize nodeB q p = u4 at *
  unfold Jb.val at J0 J1 J2
  unfold Nd.val at N0 N1 N2
  replace J0 := Lib.hid J0
  replace N0 := Lib.hid N0
  replace J1 := Lib.hid J1
  replace J2 := Lib.hid J2
  replace N1 := Lib.hid N1
  replace N2 := Lib.hid N2
  clear e1 e2
  clear hQ h6 h7 h9 h10
  conv => arg 2; whnf
  refine wp_region_hold (fun w' => Below w.heap.size w w') (by kernel_rfl) (by kernel_rfl) ⟨rfl, rfl, rfl, Nat.le_refl _, fun _ _ => rfl⟩ ?_
  repeat
    first
    | (refine hold_val (v := ?_) ?_ ?_ ?_
       rotate_left
       · first
         | (simp [Region.wanted]; done)
         | (simp [Region.wanted, yielded, Act.put, bs, undef]; done)
       · first
         | (with_reducible refine loadJ (.tmp 6) HB6.out ?_
            go_simp
            done)
         | (with_reducible refine loadJ (.tmp 7) HB7.out ?_
            go_simp
            done)
         | (with_reducible refine loadN (.tmp 9) HB9.out ?_
            go_simp
            done)
         | (with_reducible refine loadN (.tmp 10) HB10.out ?_
            go_simp
            done)
         | (intro w' hS
            obtain ⟨_, _, _, _⟩ := HL.out w' hS
            go_simp
            try with_reducible rfl))
    | (refine hold_skip ?_ ?_
       · (simp [Region.wanted, yielded, Act.put, bs, undef]; done))
    | (first
       | (refine hold_call ?_ ?_ (fun w' hS => made_call hS (Nat.le_refl _) (J0.out w')) ?_
          · (simp [Region.wanted, yielded, Act.put, bs, undef]; done)
          · (intro w' hS; go_simp; done))
       | (refine hold_call ?_ ?_ (fun w' hS => made_call hS (Nat.le_refl _) (N0.out w')) ?_
          · (simp [Region.wanted, yielded, Act.put, bs, undef]; done)
          · (intro w' hS; go_simp; done))
       | (refine hold_call ?_ ?_ (fun w' hS => made_call hS (Nat.le_refl _) (J1.out w')) ?_
          · (simp [Region.wanted, yielded, Act.put, bs, undef]; done)
          · (intro w' hS; go_simp; done))
       | (refine hold_call ?_ ?_ (fun w' hS => made_call hS (Nat.le_refl _) (J2.out w')) ?_
          · (simp [Region.wanted, yielded, Act.put, bs, undef]; done)
          · (intro w' hS; go_simp; done))
       | (refine hold_call ?_ ?_ (fun w' hS => made_call hS (Nat.le_refl _) (N1.out w')) ?_
          · (simp [Region.wanted, yielded, Act.put, bs, undef]; done)
          · (intro w' hS; go_simp; done))
       | (refine hold_call ?_ ?_ (fun w' hS => made_call hS (Nat.le_refl _) (N2.out w')) ?_
          · (simp [Region.wanted, yielded, Act.put, bs, undef]; done)
          · (intro w' hS; go_simp; done)))
  refine hold_nil ?_
  intro w6 hS
  refine HQ.out _ _ ⟨?_, ?_, fun i hi => ?_⟩ ?_ hS
  · simp only [put_tmps, Array.size_setIfInBounds, bs]
  · simp only [put_defers, bd]
  · simp only [put_tmps]
    repeat rw [sl_ne _ (by omega)]
  · simp only [put_tmps]
    repeat first | rw [sl_ne _ (by decide)] | rw [sl_eq _ (by simp only [Array.size_setIfInBounds, bs]; decide)]
theorem ro8_f_f (A : Act) (w : World) (Q : Exit → Act → World → Prop) (b6 b7 b8 b9 b10 b11 : Nat) (x y z : Jb) (p q r : Nd)  (j1 : jobB x y = false) (n1 : nodeB p q = false) (bs : A.tmps.size = 143) (bd : A.defers = [])
    (f6 : sl A.tmps 6 = .pointer (some ⟨b6, 0, none⟩)) (h6 : BJob b6 x w)
    (f7 : sl A.tmps 7 = .pointer (some ⟨b7, 0, none⟩)) (h7 : BJob b7 y w)
    (f8 : sl A.tmps 8 = .pointer (some ⟨b8, 0, none⟩)) (h8 : BJob b8 z w)
    (f9 : sl A.tmps 9 = .pointer (some ⟨b9, 0, none⟩)) (h9 : BNod b9 p w)
    (f10 : sl A.tmps 10 = .pointer (some ⟨b10, 0, none⟩)) (h10 : BNod b10 q w)
    (f11 : sl A.tmps 11 = .pointer (some ⟨b11, 0, none⟩)) (h11 : BNod b11 r w)
    (hQ : ∀ A' w', NearR 12 A A' → sl A'.tmps 111 = .bool false → Below w.heap.size w w' → Q .normal A' w') :
    Code.wp Try.prog (roR 8) Q A w := by
  have HL := Lib.hid (show ∀ w', Below w.heap.size w w' → w'.cell? ⟨b6, 0, none⟩ = some (.int .i64 x.id) ∧ w'.cell? ⟨b7, 0, none⟩ = some (.int .i64 y.id) from fun w' hb => ⟨blk_cell (h6.below hb h6.lt) 0, blk_cell (h7.below hb h7.lt) 0⟩)
  have HB6 := Lib.hid (show ∀ w', Below w.heap.size w w' → BJob b6 x w' from fun w' hb => h6.below hb h6.lt)
  have HB7 := Lib.hid (show ∀ w', Below w.heap.size w w' → BJob b7 y w' from fun w' hb => h7.below hb h7.lt)
  have HB8 := Lib.hid (show ∀ w', Below w.heap.size w w' → BJob b8 z w' from fun w' hb => h8.below hb h8.lt)
  have HB9 := Lib.hid (show ∀ w', Below w.heap.size w w' → BNod b9 p w' from fun w' hb => h9.below hb h9.lt)
  have HB10 := Lib.hid (show ∀ w', Below w.heap.size w w' → BNod b10 q w' from fun w' hb => h10.below hb h10.lt)
  have HB11 := Lib.hid (show ∀ w', Below w.heap.size w w' → BNod b11 r w' from fun w' hb => h11.below hb h11.lt)
  replace f6 := sl_get f6
  replace f7 := sl_get f7
  replace f8 := sl_get f8
  replace f9 := sl_get f9
  replace f10 := sl_get f10
  replace f11 := sl_get f11
  have HQ := Lib.hid hQ
  have J1 := fun w => grw_call (rjob_any x y w)
  rw [j1] at J1
  have N1 := fun w => grw_call (rnode_any p q w)
  rw [n1] at N1
  unfold Jb.val at J1
  unfold Nd.val at N1
  replace J1 := Lib.hid J1
  replace N1 := Lib.hid N1
  clear j1 n1
  clear hQ h6 h7 h8 h9 h10 h11
  conv => arg 2; whnf
  refine wp_region_holdN (fun w' => Below w.heap.size w w') (Below.refl _ _) ?_
  repeat
    first
    | (refine holdN_val (v := ?_) ?_ ?_ ?_
       rotate_left
       · first
         | (simp [Region.wanted]; done)
         | (simp [Region.wanted, yielded, Act.put, bs, undef]; done)
       · first
         | (with_reducible refine loadJ (.tmp 6) HB6.out ?_
            go_simp
            done)
         | (with_reducible refine loadJ (.tmp 7) HB7.out ?_
            go_simp
            done)
         | (with_reducible refine loadJ (.tmp 8) HB8.out ?_
            go_simp
            done)
         | (with_reducible refine loadN (.tmp 9) HB9.out ?_
            go_simp
            done)
         | (with_reducible refine loadN (.tmp 10) HB10.out ?_
            go_simp
            done)
         | (with_reducible refine loadN (.tmp 11) HB11.out ?_
            go_simp
            done)
         | (intro w' hS
            obtain ⟨_, _⟩ := HL.out w' hS
            go_simp
            try with_reducible rfl))
    | (refine holdN_skip ?_ ?_
       · (simp [Region.wanted, yielded, Act.put, bs, undef]; done))
    | (first
       | (refine holdN_call ?_ ?_ (fun w' hS => made_call hS (Nat.le_refl _) (J1.out w')) ?_
          · (simp [Region.wanted, yielded, Act.put, bs, undef]; done)
          · (intro w' hS; go_simp; done))
       | (refine holdN_call ?_ ?_ (fun w' hS => made_call hS (Nat.le_refl _) (N1.out w')) ?_
          · (simp [Region.wanted, yielded, Act.put, bs, undef]; done)
          · (intro w' hS; go_simp; done)))
  refine holdN_nil ?_
  intro w6 hS
  refine HQ.out _ _ ⟨?_, ?_, fun i hi => ?_⟩ ?_ hS
  · simp only [put_tmps, Array.size_setIfInBounds, bs]
  · simp only [put_defers, bd]
  · simp only [put_tmps]
    repeat rw [sl_ne _ (by omega)]
  · simp only [put_tmps]
    repeat first | rw [sl_ne _ (by decide)] | rw [sl_eq _ (by simp only [Array.size_setIfInBounds, bs]; decide)]
theorem ro8_f_tf (A : Act) (w : World) (Q : Exit → Act → World → Prop) (b6 b7 b8 b9 b10 b11 : Nat) (x y z : Jb) (p q r : Nd)  (j1 : jobB x y = false) (n1 : nodeB p q = true) (n2 : nodeB q r = false) (bs : A.tmps.size = 143) (bd : A.defers = [])
    (f6 : sl A.tmps 6 = .pointer (some ⟨b6, 0, none⟩)) (h6 : BJob b6 x w)
    (f7 : sl A.tmps 7 = .pointer (some ⟨b7, 0, none⟩)) (h7 : BJob b7 y w)
    (f8 : sl A.tmps 8 = .pointer (some ⟨b8, 0, none⟩)) (h8 : BJob b8 z w)
    (f9 : sl A.tmps 9 = .pointer (some ⟨b9, 0, none⟩)) (h9 : BNod b9 p w)
    (f10 : sl A.tmps 10 = .pointer (some ⟨b10, 0, none⟩)) (h10 : BNod b10 q w)
    (f11 : sl A.tmps 11 = .pointer (some ⟨b11, 0, none⟩)) (h11 : BNod b11 r w)
    (hQ : ∀ A' w', NearR 12 A A' → sl A'.tmps 111 = .bool false → Below w.heap.size w w' → Q .normal A' w') :
    Code.wp Try.prog (roR 8) Q A w := by
  have HL := Lib.hid (show ∀ w', Below w.heap.size w w' → w'.cell? ⟨b6, 0, none⟩ = some (.int .i64 x.id) ∧ w'.cell? ⟨b7, 0, none⟩ = some (.int .i64 y.id) from fun w' hb => ⟨blk_cell (h6.below hb h6.lt) 0, blk_cell (h7.below hb h7.lt) 0⟩)
  have HB6 := Lib.hid (show ∀ w', Below w.heap.size w w' → BJob b6 x w' from fun w' hb => h6.below hb h6.lt)
  have HB7 := Lib.hid (show ∀ w', Below w.heap.size w w' → BJob b7 y w' from fun w' hb => h7.below hb h7.lt)
  have HB8 := Lib.hid (show ∀ w', Below w.heap.size w w' → BJob b8 z w' from fun w' hb => h8.below hb h8.lt)
  have HB9 := Lib.hid (show ∀ w', Below w.heap.size w w' → BNod b9 p w' from fun w' hb => h9.below hb h9.lt)
  have HB10 := Lib.hid (show ∀ w', Below w.heap.size w w' → BNod b10 q w' from fun w' hb => h10.below hb h10.lt)
  have HB11 := Lib.hid (show ∀ w', Below w.heap.size w w' → BNod b11 r w' from fun w' hb => h11.below hb h11.lt)
  replace f6 := sl_get f6
  replace f7 := sl_get f7
  replace f8 := sl_get f8
  replace f9 := sl_get f9
  replace f10 := sl_get f10
  replace f11 := sl_get f11
  have HQ := Lib.hid hQ
  have J1 := fun w => grw_call (rjob_any x y w)
  rw [j1] at J1
  have N1 := fun w => grw_call (rnode_any p q w)
  rw [n1] at N1
  have N2 := fun w => grw_call (rnode_any q r w)
  rw [n2] at N2
  unfold Jb.val at J1
  unfold Nd.val at N1 N2
  replace J1 := Lib.hid J1
  replace N1 := Lib.hid N1
  replace N2 := Lib.hid N2
  clear j1 n1 n2
  clear hQ h6 h7 h8 h9 h10 h11
  conv => arg 2; whnf
  refine wp_region_holdN (fun w' => Below w.heap.size w w') (Below.refl _ _) ?_
  repeat
    first
    | (refine holdN_val (v := ?_) ?_ ?_ ?_
       rotate_left
       · first
         | (simp [Region.wanted]; done)
         | (simp [Region.wanted, yielded, Act.put, bs, undef]; done)
       · first
         | (with_reducible refine loadJ (.tmp 6) HB6.out ?_
            go_simp
            done)
         | (with_reducible refine loadJ (.tmp 7) HB7.out ?_
            go_simp
            done)
         | (with_reducible refine loadJ (.tmp 8) HB8.out ?_
            go_simp
            done)
         | (with_reducible refine loadN (.tmp 9) HB9.out ?_
            go_simp
            done)
         | (with_reducible refine loadN (.tmp 10) HB10.out ?_
            go_simp
            done)
         | (with_reducible refine loadN (.tmp 11) HB11.out ?_
            go_simp
            done)
         | (intro w' hS
            obtain ⟨_, _⟩ := HL.out w' hS
            go_simp
            try with_reducible rfl))
    | (refine holdN_skip ?_ ?_
       · (simp [Region.wanted, yielded, Act.put, bs, undef]; done))
    | (first
       | (refine holdN_call ?_ ?_ (fun w' hS => made_call hS (Nat.le_refl _) (J1.out w')) ?_
          · (simp [Region.wanted, yielded, Act.put, bs, undef]; done)
          · (intro w' hS; go_simp; done))
       | (refine holdN_call ?_ ?_ (fun w' hS => made_call hS (Nat.le_refl _) (N1.out w')) ?_
          · (simp [Region.wanted, yielded, Act.put, bs, undef]; done)
          · (intro w' hS; go_simp; done))
       | (refine holdN_call ?_ ?_ (fun w' hS => made_call hS (Nat.le_refl _) (N2.out w')) ?_
          · (simp [Region.wanted, yielded, Act.put, bs, undef]; done)
          · (intro w' hS; go_simp; done)))
  refine holdN_nil ?_
  intro w6 hS
  refine HQ.out _ _ ⟨?_, ?_, fun i hi => ?_⟩ ?_ hS
  · simp only [put_tmps, Array.size_setIfInBounds, bs]
  · simp only [put_defers, bd]
  · simp only [put_tmps]
    repeat rw [sl_ne _ (by omega)]
  · simp only [put_tmps]
    repeat first | rw [sl_ne _ (by decide)] | rw [sl_eq _ (by simp only [Array.size_setIfInBounds, bs]; decide)]
theorem ro8_f_tt (A : Act) (w : World) (Q : Exit → Act → World → Prop) (b6 b7 b8 b9 b10 b11 : Nat) (x y z : Jb) (p q r : Nd)  (j1 : jobB x y = false) (n1 : nodeB p q = true) (n2 : nodeB q r = true) (bs : A.tmps.size = 143) (bd : A.defers = [])
    (f6 : sl A.tmps 6 = .pointer (some ⟨b6, 0, none⟩)) (h6 : BJob b6 x w)
    (f7 : sl A.tmps 7 = .pointer (some ⟨b7, 0, none⟩)) (h7 : BJob b7 y w)
    (f8 : sl A.tmps 8 = .pointer (some ⟨b8, 0, none⟩)) (h8 : BJob b8 z w)
    (f9 : sl A.tmps 9 = .pointer (some ⟨b9, 0, none⟩)) (h9 : BNod b9 p w)
    (f10 : sl A.tmps 10 = .pointer (some ⟨b10, 0, none⟩)) (h10 : BNod b10 q w)
    (f11 : sl A.tmps 11 = .pointer (some ⟨b11, 0, none⟩)) (h11 : BNod b11 r w)
    (hQ : ∀ A' w', NearR 12 A A' → sl A'.tmps 111 = .bool false → Below w.heap.size w w' → Q .normal A' w') :
    Code.wp Try.prog (roR 8) Q A w := by
  have HL := Lib.hid (show ∀ w', Below w.heap.size w w' → w'.cell? ⟨b6, 0, none⟩ = some (.int .i64 x.id) ∧ w'.cell? ⟨b7, 0, none⟩ = some (.int .i64 y.id) from fun w' hb => ⟨blk_cell (h6.below hb h6.lt) 0, blk_cell (h7.below hb h7.lt) 0⟩)
  have HB6 := Lib.hid (show ∀ w', Below w.heap.size w w' → BJob b6 x w' from fun w' hb => h6.below hb h6.lt)
  have HB7 := Lib.hid (show ∀ w', Below w.heap.size w w' → BJob b7 y w' from fun w' hb => h7.below hb h7.lt)
  have HB8 := Lib.hid (show ∀ w', Below w.heap.size w w' → BJob b8 z w' from fun w' hb => h8.below hb h8.lt)
  have HB9 := Lib.hid (show ∀ w', Below w.heap.size w w' → BNod b9 p w' from fun w' hb => h9.below hb h9.lt)
  have HB10 := Lib.hid (show ∀ w', Below w.heap.size w w' → BNod b10 q w' from fun w' hb => h10.below hb h10.lt)
  have HB11 := Lib.hid (show ∀ w', Below w.heap.size w w' → BNod b11 r w' from fun w' hb => h11.below hb h11.lt)
  replace f6 := sl_get f6
  replace f7 := sl_get f7
  replace f8 := sl_get f8
  replace f9 := sl_get f9
  replace f10 := sl_get f10
  replace f11 := sl_get f11
  have HQ := Lib.hid hQ
  have J1 := fun w => grw_call (rjob_any x y w)
  rw [j1] at J1
  have N1 := fun w => grw_call (rnode_any p q w)
  rw [n1] at N1
  have N2 := fun w => grw_call (rnode_any q r w)
  rw [n2] at N2
  have N3 := fun w => grw_call (rnode_any p r w)
  rw [nodeB_trans n1 n2] at N3
  unfold Jb.val at J1
  unfold Nd.val at N1 N2 N3
  replace J1 := Lib.hid J1
  replace N1 := Lib.hid N1
  replace N2 := Lib.hid N2
  replace N3 := Lib.hid N3
  clear j1 n1 n2
  clear hQ h6 h7 h8 h9 h10 h11
  conv => arg 2; whnf
  refine wp_region_holdN (fun w' => Below w.heap.size w w') (Below.refl _ _) ?_
  repeat
    first
    | (refine holdN_val (v := ?_) ?_ ?_ ?_
       rotate_left
       · first
         | (simp [Region.wanted]; done)
         | (simp [Region.wanted, yielded, Act.put, bs, undef]; done)
       · first
         | (with_reducible refine loadJ (.tmp 6) HB6.out ?_
            go_simp
            done)
         | (with_reducible refine loadJ (.tmp 7) HB7.out ?_
            go_simp
            done)
         | (with_reducible refine loadJ (.tmp 8) HB8.out ?_
            go_simp
            done)
         | (with_reducible refine loadN (.tmp 9) HB9.out ?_
            go_simp
            done)
         | (with_reducible refine loadN (.tmp 10) HB10.out ?_
            go_simp
            done)
         | (with_reducible refine loadN (.tmp 11) HB11.out ?_
            go_simp
            done)
         | (intro w' hS
            obtain ⟨_, _⟩ := HL.out w' hS
            go_simp
            try with_reducible rfl))
    | (refine holdN_skip ?_ ?_
       · (simp [Region.wanted, yielded, Act.put, bs, undef]; done))
    | (first
       | (refine holdN_call ?_ ?_ (fun w' hS => made_call hS (Nat.le_refl _) (J1.out w')) ?_
          · (simp [Region.wanted, yielded, Act.put, bs, undef]; done)
          · (intro w' hS; go_simp; done))
       | (refine holdN_call ?_ ?_ (fun w' hS => made_call hS (Nat.le_refl _) (N1.out w')) ?_
          · (simp [Region.wanted, yielded, Act.put, bs, undef]; done)
          · (intro w' hS; go_simp; done))
       | (refine holdN_call ?_ ?_ (fun w' hS => made_call hS (Nat.le_refl _) (N2.out w')) ?_
          · (simp [Region.wanted, yielded, Act.put, bs, undef]; done)
          · (intro w' hS; go_simp; done))
       | (refine holdN_call ?_ ?_ (fun w' hS => made_call hS (Nat.le_refl _) (N3.out w')) ?_
          · (simp [Region.wanted, yielded, Act.put, bs, undef]; done)
          · (intro w' hS; go_simp; done)))
  refine holdN_nil ?_
  intro w6 hS
  refine HQ.out _ _ ⟨?_, ?_, fun i hi => ?_⟩ ?_ hS
  · simp only [put_tmps, Array.size_setIfInBounds, bs]
  · simp only [put_defers, bd]
  · simp only [put_tmps]
    repeat rw [sl_ne _ (by omega)]
  · simp only [put_tmps]
    repeat first | rw [sl_ne _ (by decide)] | rw [sl_eq _ (by simp only [Array.size_setIfInBounds, bs]; decide)]
theorem ro8_tf_f (A : Act) (w : World) (Q : Exit → Act → World → Prop) (b6 b7 b8 b9 b10 b11 : Nat) (x y z : Jb) (p q r : Nd)  (j1 : jobB x y = true) (j2 : jobB y z = false) (n1 : nodeB p q = false) (bs : A.tmps.size = 143) (bd : A.defers = [])
    (f6 : sl A.tmps 6 = .pointer (some ⟨b6, 0, none⟩)) (h6 : BJob b6 x w)
    (f7 : sl A.tmps 7 = .pointer (some ⟨b7, 0, none⟩)) (h7 : BJob b7 y w)
    (f8 : sl A.tmps 8 = .pointer (some ⟨b8, 0, none⟩)) (h8 : BJob b8 z w)
    (f9 : sl A.tmps 9 = .pointer (some ⟨b9, 0, none⟩)) (h9 : BNod b9 p w)
    (f10 : sl A.tmps 10 = .pointer (some ⟨b10, 0, none⟩)) (h10 : BNod b10 q w)
    (f11 : sl A.tmps 11 = .pointer (some ⟨b11, 0, none⟩)) (h11 : BNod b11 r w)
    (hQ : ∀ A' w', NearR 12 A A' → sl A'.tmps 111 = .bool false → Below w.heap.size w w' → Q .normal A' w') :
    Code.wp Try.prog (roR 8) Q A w := by
  have HL := Lib.hid (show ∀ w', Below w.heap.size w w' → w'.cell? ⟨b6, 0, none⟩ = some (.int .i64 x.id) ∧ w'.cell? ⟨b7, 0, none⟩ = some (.int .i64 y.id) from fun w' hb => ⟨blk_cell (h6.below hb h6.lt) 0, blk_cell (h7.below hb h7.lt) 0⟩)
  have HB6 := Lib.hid (show ∀ w', Below w.heap.size w w' → BJob b6 x w' from fun w' hb => h6.below hb h6.lt)
  have HB7 := Lib.hid (show ∀ w', Below w.heap.size w w' → BJob b7 y w' from fun w' hb => h7.below hb h7.lt)
  have HB8 := Lib.hid (show ∀ w', Below w.heap.size w w' → BJob b8 z w' from fun w' hb => h8.below hb h8.lt)
  have HB9 := Lib.hid (show ∀ w', Below w.heap.size w w' → BNod b9 p w' from fun w' hb => h9.below hb h9.lt)
  have HB10 := Lib.hid (show ∀ w', Below w.heap.size w w' → BNod b10 q w' from fun w' hb => h10.below hb h10.lt)
  have HB11 := Lib.hid (show ∀ w', Below w.heap.size w w' → BNod b11 r w' from fun w' hb => h11.below hb h11.lt)
  replace f6 := sl_get f6
  replace f7 := sl_get f7
  replace f8 := sl_get f8
  replace f9 := sl_get f9
  replace f10 := sl_get f10
  replace f11 := sl_get f11
  have HQ := Lib.hid hQ
  have J1 := fun w => grw_call (rjob_any x y w)
  rw [j1] at J1
  have J2 := fun w => grw_call (rjob_any y z w)
  rw [j2] at J2
  have N1 := fun w => grw_call (rnode_any p q w)
  rw [n1] at N1
  unfold Jb.val at J1 J2
  unfold Nd.val at N1
  replace J1 := Lib.hid J1
  replace J2 := Lib.hid J2
  replace N1 := Lib.hid N1
  clear j1 n1 j2
  clear hQ h6 h7 h8 h9 h10 h11
  conv => arg 2; whnf
  refine wp_region_holdN (fun w' => Below w.heap.size w w') (Below.refl _ _) ?_
  repeat
    first
    | (refine holdN_val (v := ?_) ?_ ?_ ?_
       rotate_left
       · first
         | (simp [Region.wanted]; done)
         | (simp [Region.wanted, yielded, Act.put, bs, undef]; done)
       · first
         | (with_reducible refine loadJ (.tmp 6) HB6.out ?_
            go_simp
            done)
         | (with_reducible refine loadJ (.tmp 7) HB7.out ?_
            go_simp
            done)
         | (with_reducible refine loadJ (.tmp 8) HB8.out ?_
            go_simp
            done)
         | (with_reducible refine loadN (.tmp 9) HB9.out ?_
            go_simp
            done)
         | (with_reducible refine loadN (.tmp 10) HB10.out ?_
            go_simp
            done)
         | (with_reducible refine loadN (.tmp 11) HB11.out ?_
            go_simp
            done)
         | (intro w' hS
            obtain ⟨_, _⟩ := HL.out w' hS
            go_simp
            try with_reducible rfl))
    | (refine holdN_skip ?_ ?_
       · (simp [Region.wanted, yielded, Act.put, bs, undef]; done))
    | (first
       | (refine holdN_call ?_ ?_ (fun w' hS => made_call hS (Nat.le_refl _) (J1.out w')) ?_
          · (simp [Region.wanted, yielded, Act.put, bs, undef]; done)
          · (intro w' hS; go_simp; done))
       | (refine holdN_call ?_ ?_ (fun w' hS => made_call hS (Nat.le_refl _) (J2.out w')) ?_
          · (simp [Region.wanted, yielded, Act.put, bs, undef]; done)
          · (intro w' hS; go_simp; done))
       | (refine holdN_call ?_ ?_ (fun w' hS => made_call hS (Nat.le_refl _) (N1.out w')) ?_
          · (simp [Region.wanted, yielded, Act.put, bs, undef]; done)
          · (intro w' hS; go_simp; done)))
  refine holdN_nil ?_
  intro w6 hS
  refine HQ.out _ _ ⟨?_, ?_, fun i hi => ?_⟩ ?_ hS
  · simp only [put_tmps, Array.size_setIfInBounds, bs]
  · simp only [put_defers, bd]
  · simp only [put_tmps]
    repeat rw [sl_ne _ (by omega)]
  · simp only [put_tmps]
    repeat first | rw [sl_ne _ (by decide)] | rw [sl_eq _ (by simp only [Array.size_setIfInBounds, bs]; decide)]
theorem ro8_tf_tf (A : Act) (w : World) (Q : Exit → Act → World → Prop) (b6 b7 b8 b9 b10 b11 : Nat) (x y z : Jb) (p q r : Nd)  (j1 : jobB x y = true) (j2 : jobB y z = false) (n1 : nodeB p q = true) (n2 : nodeB q r = false) (bs : A.tmps.size = 143) (bd : A.defers = [])
    (f6 : sl A.tmps 6 = .pointer (some ⟨b6, 0, none⟩)) (h6 : BJob b6 x w)
    (f7 : sl A.tmps 7 = .pointer (some ⟨b7, 0, none⟩)) (h7 : BJob b7 y w)
    (f8 : sl A.tmps 8 = .pointer (some ⟨b8, 0, none⟩)) (h8 : BJob b8 z w)
    (f9 : sl A.tmps 9 = .pointer (some ⟨b9, 0, none⟩)) (h9 : BNod b9 p w)
    (f10 : sl A.tmps 10 = .pointer (some ⟨b10, 0, none⟩)) (h10 : BNod b10 q w)
    (f11 : sl A.tmps 11 = .pointer (some ⟨b11, 0, none⟩)) (h11 : BNod b11 r w)
    (hQ : ∀ A' w', NearR 12 A A' → sl A'.tmps 111 = .bool false → Below w.heap.size w w' → Q .normal A' w') :
    Code.wp Try.prog (roR 8) Q A w := by
  have HL := Lib.hid (show ∀ w', Below w.heap.size w w' → w'.cell? ⟨b6, 0, none⟩ = some (.int .i64 x.id) ∧ w'.cell? ⟨b7, 0, none⟩ = some (.int .i64 y.id) from fun w' hb => ⟨blk_cell (h6.below hb h6.lt) 0, blk_cell (h7.below hb h7.lt) 0⟩)
  have HB6 := Lib.hid (show ∀ w', Below w.heap.size w w' → BJob b6 x w' from fun w' hb => h6.below hb h6.lt)
  have HB7 := Lib.hid (show ∀ w', Below w.heap.size w w' → BJob b7 y w' from fun w' hb => h7.below hb h7.lt)
  have HB8 := Lib.hid (show ∀ w', Below w.heap.size w w' → BJob b8 z w' from fun w' hb => h8.below hb h8.lt)
  have HB9 := Lib.hid (show ∀ w', Below w.heap.size w w' → BNod b9 p w' from fun w' hb => h9.below hb h9.lt)
  have HB10 := Lib.hid (show ∀ w', Below w.heap.size w w' → BNod b10 q w' from fun w' hb => h10.below hb h10.lt)
  have HB11 := Lib.hid (show ∀ w', Below w.heap.size w w' → BNod b11 r w' from fun w' hb => h11.below hb h11.lt)
  replace f6 := sl_get f6
  replace f7 := sl_get f7
  replace f8 := sl_get f8
  replace f9 := sl_get f9
  replace f10 := sl_get f10
  replace f11 := sl_get f11
  have HQ := Lib.hid hQ
  have J1 := fun w => grw_call (rjob_any x y w)
  rw [j1] at J1
  have J2 := fun w => grw_call (rjob_any y z w)
  rw [j2] at J2
  have N1 := fun w => grw_call (rnode_any p q w)
  rw [n1] at N1
  have N2 := fun w => grw_call (rnode_any q r w)
  rw [n2] at N2
  unfold Jb.val at J1 J2
  unfold Nd.val at N1 N2
  replace J1 := Lib.hid J1
  replace J2 := Lib.hid J2
  replace N1 := Lib.hid N1
  replace N2 := Lib.hid N2
  clear j1 n1 j2 n2
  clear hQ h6 h7 h8 h9 h10 h11
  conv => arg 2; whnf
  refine wp_region_holdN (fun w' => Below w.heap.size w w') (Below.refl _ _) ?_
  repeat
    first
    | (refine holdN_val (v := ?_) ?_ ?_ ?_
       rotate_left
       · first
         | (simp [Region.wanted]; done)
         | (simp [Region.wanted, yielded, Act.put, bs, undef]; done)
       · first
         | (with_reducible refine loadJ (.tmp 6) HB6.out ?_
            go_simp
            done)
         | (with_reducible refine loadJ (.tmp 7) HB7.out ?_
            go_simp
            done)
         | (with_reducible refine loadJ (.tmp 8) HB8.out ?_
            go_simp
            done)
         | (with_reducible refine loadN (.tmp 9) HB9.out ?_
            go_simp
            done)
         | (with_reducible refine loadN (.tmp 10) HB10.out ?_
            go_simp
            done)
         | (with_reducible refine loadN (.tmp 11) HB11.out ?_
            go_simp
            done)
         | (intro w' hS
            obtain ⟨_, _⟩ := HL.out w' hS
            go_simp
            try with_reducible rfl))
    | (refine holdN_skip ?_ ?_
       · (simp [Region.wanted, yielded, Act.put, bs, undef]; done))
    | (first
       | (refine holdN_call ?_ ?_ (fun w' hS => made_call hS (Nat.le_refl _) (J1.out w')) ?_
          · (simp [Region.wanted, yielded, Act.put, bs, undef]; done)
          · (intro w' hS; go_simp; done))
       | (refine holdN_call ?_ ?_ (fun w' hS => made_call hS (Nat.le_refl _) (J2.out w')) ?_
          · (simp [Region.wanted, yielded, Act.put, bs, undef]; done)
          · (intro w' hS; go_simp; done))
       | (refine holdN_call ?_ ?_ (fun w' hS => made_call hS (Nat.le_refl _) (N1.out w')) ?_
          · (simp [Region.wanted, yielded, Act.put, bs, undef]; done)
          · (intro w' hS; go_simp; done))
       | (refine holdN_call ?_ ?_ (fun w' hS => made_call hS (Nat.le_refl _) (N2.out w')) ?_
          · (simp [Region.wanted, yielded, Act.put, bs, undef]; done)
          · (intro w' hS; go_simp; done)))
  refine holdN_nil ?_
  intro w6 hS
  refine HQ.out _ _ ⟨?_, ?_, fun i hi => ?_⟩ ?_ hS
  · simp only [put_tmps, Array.size_setIfInBounds, bs]
  · simp only [put_defers, bd]
  · simp only [put_tmps]
    repeat rw [sl_ne _ (by omega)]
  · simp only [put_tmps]
    repeat first | rw [sl_ne _ (by decide)] | rw [sl_eq _ (by simp only [Array.size_setIfInBounds, bs]; decide)]
theorem ro8_tf_tt (A : Act) (w : World) (Q : Exit → Act → World → Prop) (b6 b7 b8 b9 b10 b11 : Nat) (x y z : Jb) (p q r : Nd)  (j1 : jobB x y = true) (j2 : jobB y z = false) (n1 : nodeB p q = true) (n2 : nodeB q r = true) (bs : A.tmps.size = 143) (bd : A.defers = [])
    (f6 : sl A.tmps 6 = .pointer (some ⟨b6, 0, none⟩)) (h6 : BJob b6 x w)
    (f7 : sl A.tmps 7 = .pointer (some ⟨b7, 0, none⟩)) (h7 : BJob b7 y w)
    (f8 : sl A.tmps 8 = .pointer (some ⟨b8, 0, none⟩)) (h8 : BJob b8 z w)
    (f9 : sl A.tmps 9 = .pointer (some ⟨b9, 0, none⟩)) (h9 : BNod b9 p w)
    (f10 : sl A.tmps 10 = .pointer (some ⟨b10, 0, none⟩)) (h10 : BNod b10 q w)
    (f11 : sl A.tmps 11 = .pointer (some ⟨b11, 0, none⟩)) (h11 : BNod b11 r w)
    (hQ : ∀ A' w', NearR 12 A A' → sl A'.tmps 111 = .bool false → Below w.heap.size w w' → Q .normal A' w') :
    Code.wp Try.prog (roR 8) Q A w := by
  have HL := Lib.hid (show ∀ w', Below w.heap.size w w' → w'.cell? ⟨b6, 0, none⟩ = some (.int .i64 x.id) ∧ w'.cell? ⟨b7, 0, none⟩ = some (.int .i64 y.id) from fun w' hb => ⟨blk_cell (h6.below hb h6.lt) 0, blk_cell (h7.below hb h7.lt) 0⟩)
  have HB6 := Lib.hid (show ∀ w', Below w.heap.size w w' → BJob b6 x w' from fun w' hb => h6.below hb h6.lt)
  have HB7 := Lib.hid (show ∀ w', Below w.heap.size w w' → BJob b7 y w' from fun w' hb => h7.below hb h7.lt)
  have HB8 := Lib.hid (show ∀ w', Below w.heap.size w w' → BJob b8 z w' from fun w' hb => h8.below hb h8.lt)
  have HB9 := Lib.hid (show ∀ w', Below w.heap.size w w' → BNod b9 p w' from fun w' hb => h9.below hb h9.lt)
  have HB10 := Lib.hid (show ∀ w', Below w.heap.size w w' → BNod b10 q w' from fun w' hb => h10.below hb h10.lt)
  have HB11 := Lib.hid (show ∀ w', Below w.heap.size w w' → BNod b11 r w' from fun w' hb => h11.below hb h11.lt)
  replace f6 := sl_get f6
  replace f7 := sl_get f7
  replace f8 := sl_get f8
  replace f9 := sl_get f9
  replace f10 := sl_get f10
  replace f11 := sl_get f11
  have HQ := Lib.hid hQ
  have J1 := fun w => grw_call (rjob_any x y w)
  rw [j1] at J1
  have J2 := fun w => grw_call (rjob_any y z w)
  rw [j2] at J2
  have N1 := fun w => grw_call (rnode_any p q w)
  rw [n1] at N1
  have N2 := fun w => grw_call (rnode_any q r w)
  rw [n2] at N2
  have N3 := fun w => grw_call (rnode_any p r w)
  rw [nodeB_trans n1 n2] at N3
  unfold Jb.val at J1 J2
  unfold Nd.val at N1 N2 N3
  replace J1 := Lib.hid J1
  replace J2 := Lib.hid J2
  replace N1 := Lib.hid N1
  replace N2 := Lib.hid N2
  replace N3 := Lib.hid N3
  clear j1 n1 j2 n2
  clear hQ h6 h7 h8 h9 h10 h11
  conv => arg 2; whnf
  refine wp_region_holdN (fun w' => Below w.heap.size w w') (Below.refl _ _) ?_
  repeat
    first
    | (refine holdN_val (v := ?_) ?_ ?_ ?_
       rotate_left
       · first
         | (simp [Region.wanted]; done)
         | (simp [Region.wanted, yielded, Act.put, bs, undef]; done)
       · first
         | (with_reducible refine loadJ (.tmp 6) HB6.out ?_
            go_simp
            done)
         | (with_reducible refine loadJ (.tmp 7) HB7.out ?_
            go_simp
            done)
         | (with_reducible refine loadJ (.tmp 8) HB8.out ?_
            go_simp
            done)
         | (with_reducible refine loadN (.tmp 9) HB9.out ?_
            go_simp
            done)
         | (with_reducible refine loadN (.tmp 10) HB10.out ?_
            go_simp
            done)
         | (with_reducible refine loadN (.tmp 11) HB11.out ?_
            go_simp
            done)
         | (intro w' hS
            obtain ⟨_, _⟩ := HL.out w' hS
            go_simp
            try with_reducible rfl))
    | (refine holdN_skip ?_ ?_
       · (simp [Region.wanted, yielded, Act.put, bs, undef]; done))
    | (first
       | (refine holdN_call ?_ ?_ (fun w' hS => made_call hS (Nat.le_refl _) (J1.out w')) ?_
          · (simp [Region.wanted, yielded, Act.put, bs, undef]; done)
          · (intro w' hS; go_simp; done))
       | (refine holdN_call ?_ ?_ (fun w' hS => made_call hS (Nat.le_refl _) (J2.out w')) ?_
          · (simp [Region.wanted, yielded, Act.put, bs, undef]; done)
          · (intro w' hS; go_simp; done))
       | (refine holdN_call ?_ ?_ (fun w' hS => made_call hS (Nat.le_refl _) (N1.out w')) ?_
          · (simp [Region.wanted, yielded, Act.put, bs, undef]; done)
          · (intro w' hS; go_simp; done))
       | (refine holdN_call ?_ ?_ (fun w' hS => made_call hS (Nat.le_refl _) (N2.out w')) ?_
          · (simp [Region.wanted, yielded, Act.put, bs, undef]; done)
          · (intro w' hS; go_simp; done))
       | (refine holdN_call ?_ ?_ (fun w' hS => made_call hS (Nat.le_refl _) (N3.out w')) ?_
          · (simp [Region.wanted, yielded, Act.put, bs, undef]; done)
          · (intro w' hS; go_simp; done)))
  refine holdN_nil ?_
  intro w6 hS
  refine HQ.out _ _ ⟨?_, ?_, fun i hi => ?_⟩ ?_ hS
  · simp only [put_tmps, Array.size_setIfInBounds, bs]
  · simp only [put_defers, bd]
  · simp only [put_tmps]
    repeat rw [sl_ne _ (by omega)]
  · simp only [put_tmps]
    repeat first | rw [sl_ne _ (by decide)] | rw [sl_eq _ (by simp only [Array.size_setIfInBounds, bs]; decide)]
theorem ro8_tt_f (A : Act) (w : World) (Q : Exit → Act → World → Prop) (b6 b7 b8 b9 b10 b11 : Nat) (x y z : Jb) (p q r : Nd)  (j1 : jobB x y = true) (j2 : jobB y z = true) (n1 : nodeB p q = false) (bs : A.tmps.size = 143) (bd : A.defers = [])
    (f6 : sl A.tmps 6 = .pointer (some ⟨b6, 0, none⟩)) (h6 : BJob b6 x w)
    (f7 : sl A.tmps 7 = .pointer (some ⟨b7, 0, none⟩)) (h7 : BJob b7 y w)
    (f8 : sl A.tmps 8 = .pointer (some ⟨b8, 0, none⟩)) (h8 : BJob b8 z w)
    (f9 : sl A.tmps 9 = .pointer (some ⟨b9, 0, none⟩)) (h9 : BNod b9 p w)
    (f10 : sl A.tmps 10 = .pointer (some ⟨b10, 0, none⟩)) (h10 : BNod b10 q w)
    (f11 : sl A.tmps 11 = .pointer (some ⟨b11, 0, none⟩)) (h11 : BNod b11 r w)
    (hQ : ∀ A' w', NearR 12 A A' → sl A'.tmps 111 = .bool false → Below w.heap.size w w' → Q .normal A' w') :
    Code.wp Try.prog (roR 8) Q A w := by
  have HL := Lib.hid (show ∀ w', Below w.heap.size w w' → w'.cell? ⟨b6, 0, none⟩ = some (.int .i64 x.id) ∧ w'.cell? ⟨b7, 0, none⟩ = some (.int .i64 y.id) from fun w' hb => ⟨blk_cell (h6.below hb h6.lt) 0, blk_cell (h7.below hb h7.lt) 0⟩)
  have HB6 := Lib.hid (show ∀ w', Below w.heap.size w w' → BJob b6 x w' from fun w' hb => h6.below hb h6.lt)
  have HB7 := Lib.hid (show ∀ w', Below w.heap.size w w' → BJob b7 y w' from fun w' hb => h7.below hb h7.lt)
  have HB8 := Lib.hid (show ∀ w', Below w.heap.size w w' → BJob b8 z w' from fun w' hb => h8.below hb h8.lt)
  have HB9 := Lib.hid (show ∀ w', Below w.heap.size w w' → BNod b9 p w' from fun w' hb => h9.below hb h9.lt)
  have HB10 := Lib.hid (show ∀ w', Below w.heap.size w w' → BNod b10 q w' from fun w' hb => h10.below hb h10.lt)
  have HB11 := Lib.hid (show ∀ w', Below w.heap.size w w' → BNod b11 r w' from fun w' hb => h11.below hb h11.lt)
  replace f6 := sl_get f6
  replace f7 := sl_get f7
  replace f8 := sl_get f8
  replace f9 := sl_get f9
  replace f10 := sl_get f10
  replace f11 := sl_get f11
  have HQ := Lib.hid hQ
  have J1 := fun w => grw_call (rjob_any x y w)
  rw [j1] at J1
  have J2 := fun w => grw_call (rjob_any y z w)
  rw [j2] at J2
  have J3 := fun w => grw_call (rjob_any x z w)
  rw [jobB_trans j1 j2] at J3
  have N1 := fun w => grw_call (rnode_any p q w)
  rw [n1] at N1
  unfold Jb.val at J1 J2 J3
  unfold Nd.val at N1
  replace J1 := Lib.hid J1
  replace J2 := Lib.hid J2
  replace J3 := Lib.hid J3
  replace N1 := Lib.hid N1
  clear j1 n1 j2
  clear hQ h6 h7 h8 h9 h10 h11
  conv => arg 2; whnf
  refine wp_region_holdN (fun w' => Below w.heap.size w w') (Below.refl _ _) ?_
  repeat
    first
    | (refine holdN_val (v := ?_) ?_ ?_ ?_
       rotate_left
       · first
         | (simp [Region.wanted]; done)
         | (simp [Region.wanted, yielded, Act.put, bs, undef]; done)
       · first
         | (with_reducible refine loadJ (.tmp 6) HB6.out ?_
            go_simp
            done)
         | (with_reducible refine loadJ (.tmp 7) HB7.out ?_
            go_simp
            done)
         | (with_reducible refine loadJ (.tmp 8) HB8.out ?_
            go_simp
            done)
         | (with_reducible refine loadN (.tmp 9) HB9.out ?_
            go_simp
            done)
         | (with_reducible refine loadN (.tmp 10) HB10.out ?_
            go_simp
            done)
         | (with_reducible refine loadN (.tmp 11) HB11.out ?_
            go_simp
            done)
         | (intro w' hS
            obtain ⟨_, _⟩ := HL.out w' hS
            go_simp
            try with_reducible rfl))
    | (refine holdN_skip ?_ ?_
       · (simp [Region.wanted, yielded, Act.put, bs, undef]; done))
    | (first
       | (refine holdN_call ?_ ?_ (fun w' hS => made_call hS (Nat.le_refl _) (J1.out w')) ?_
          · (simp [Region.wanted, yielded, Act.put, bs, undef]; done)
          · (intro w' hS; go_simp; done))
       | (refine holdN_call ?_ ?_ (fun w' hS => made_call hS (Nat.le_refl _) (J2.out w')) ?_
          · (simp [Region.wanted, yielded, Act.put, bs, undef]; done)
          · (intro w' hS; go_simp; done))
       | (refine holdN_call ?_ ?_ (fun w' hS => made_call hS (Nat.le_refl _) (J3.out w')) ?_
          · (simp [Region.wanted, yielded, Act.put, bs, undef]; done)
          · (intro w' hS; go_simp; done))
       | (refine holdN_call ?_ ?_ (fun w' hS => made_call hS (Nat.le_refl _) (N1.out w')) ?_
          · (simp [Region.wanted, yielded, Act.put, bs, undef]; done)
          · (intro w' hS; go_simp; done)))
  refine holdN_nil ?_
  intro w6 hS
  refine HQ.out _ _ ⟨?_, ?_, fun i hi => ?_⟩ ?_ hS
  · simp only [put_tmps, Array.size_setIfInBounds, bs]
  · simp only [put_defers, bd]
  · simp only [put_tmps]
    repeat rw [sl_ne _ (by omega)]
  · simp only [put_tmps]
    repeat first | rw [sl_ne _ (by decide)] | rw [sl_eq _ (by simp only [Array.size_setIfInBounds, bs]; decide)]
theorem ro8_tt_tf (A : Act) (w : World) (Q : Exit → Act → World → Prop) (b6 b7 b8 b9 b10 b11 : Nat) (x y z : Jb) (p q r : Nd)  (j1 : jobB x y = true) (j2 : jobB y z = true) (n1 : nodeB p q = true) (n2 : nodeB q r = false) (bs : A.tmps.size = 143) (bd : A.defers = [])
    (f6 : sl A.tmps 6 = .pointer (some ⟨b6, 0, none⟩)) (h6 : BJob b6 x w)
    (f7 : sl A.tmps 7 = .pointer (some ⟨b7, 0, none⟩)) (h7 : BJob b7 y w)
    (f8 : sl A.tmps 8 = .pointer (some ⟨b8, 0, none⟩)) (h8 : BJob b8 z w)
    (f9 : sl A.tmps 9 = .pointer (some ⟨b9, 0, none⟩)) (h9 : BNod b9 p w)
    (f10 : sl A.tmps 10 = .pointer (some ⟨b10, 0, none⟩)) (h10 : BNod b10 q w)
    (f11 : sl A.tmps 11 = .pointer (some ⟨b11, 0, none⟩)) (h11 : BNod b11 r w)
    (hQ : ∀ A' w', NearR 12 A A' → sl A'.tmps 111 = .bool false → Below w.heap.size w w' → Q .normal A' w') :
    Code.wp Try.prog (roR 8) Q A w := by
  have HL := Lib.hid (show ∀ w', Below w.heap.size w w' → w'.cell? ⟨b6, 0, none⟩ = some (.int .i64 x.id) ∧ w'.cell? ⟨b7, 0, none⟩ = some (.int .i64 y.id) from fun w' hb => ⟨blk_cell (h6.below hb h6.lt) 0, blk_cell (h7.below hb h7.lt) 0⟩)
  have HB6 := Lib.hid (show ∀ w', Below w.heap.size w w' → BJob b6 x w' from fun w' hb => h6.below hb h6.lt)
  have HB7 := Lib.hid (show ∀ w', Below w.heap.size w w' → BJob b7 y w' from fun w' hb => h7.below hb h7.lt)
  have HB8 := Lib.hid (show ∀ w', Below w.heap.size w w' → BJob b8 z w' from fun w' hb => h8.below hb h8.lt)
  have HB9 := Lib.hid (show ∀ w', Below w.heap.size w w' → BNod b9 p w' from fun w' hb => h9.below hb h9.lt)
  have HB10 := Lib.hid (show ∀ w', Below w.heap.size w w' → BNod b10 q w' from fun w' hb => h10.below hb h10.lt)
  have HB11 := Lib.hid (show ∀ w', Below w.heap.size w w' → BNod b11 r w' from fun w' hb => h11.below hb h11.lt)
  replace f6 := sl_get f6
  replace f7 := sl_get f7
  replace f8 := sl_get f8
  replace f9 := sl_get f9
  replace f10 := sl_get f10
  replace f11 := sl_get f11
  have HQ := Lib.hid hQ
  have J1 := fun w => grw_call (rjob_any x y w)
  rw [j1] at J1
  have J2 := fun w => grw_call (rjob_any y z w)
  rw [j2] at J2
  have J3 := fun w => grw_call (rjob_any x z w)
  rw [jobB_trans j1 j2] at J3
  have N1 := fun w => grw_call (rnode_any p q w)
  rw [n1] at N1
  have N2 := fun w => grw_call (rnode_any q r w)
  rw [n2] at N2
  unfold Jb.val at J1 J2 J3
  unfold Nd.val at N1 N2
  replace J1 := Lib.hid J1
  replace J2 := Lib.hid J2
  replace J3 := Lib.hid J3
  replace N1 := Lib.hid N1
  replace N2 := Lib.hid N2
  clear j1 n1 j2 n2
  clear hQ h6 h7 h8 h9 h10 h11
  conv => arg 2; whnf
  refine wp_region_holdN (fun w' => Below w.heap.size w w') (Below.refl _ _) ?_
  repeat
    first
    | (refine holdN_val (v := ?_) ?_ ?_ ?_
       rotate_left
       · first
         | (simp [Region.wanted]; done)
         | (simp [Region.wanted, yielded, Act.put, bs, undef]; done)
       · first
         | (with_reducible refine loadJ (.tmp 6) HB6.out ?_
            go_simp
            done)
         | (with_reducible refine loadJ (.tmp 7) HB7.out ?_
            go_simp
            done)
         | (with_reducible refine loadJ (.tmp 8) HB8.out ?_
            go_simp
            done)
         | (with_reducible refine loadN (.tmp 9) HB9.out ?_
            go_simp
            done)
         | (with_reducible refine loadN (.tmp 10) HB10.out ?_
            go_simp
            done)
         | (with_reducible refine loadN (.tmp 11) HB11.out ?_
            go_simp
            done)
         | (intro w' hS
            obtain ⟨_, _⟩ := HL.out w' hS
            go_simp
            try with_reducible rfl))
    | (refine holdN_skip ?_ ?_
       · (simp [Region.wanted, yielded, Act.put, bs, undef]; done))
    | (first
       | (refine holdN_call ?_ ?_ (fun w' hS => made_call hS (Nat.le_refl _) (J1.out w')) ?_
          · (simp [Region.wanted, yielded, Act.put, bs, undef]; done)
          · (intro w' hS; go_simp; done))
       | (refine holdN_call ?_ ?_ (fun w' hS => made_call hS (Nat.le_refl _) (J2.out w')) ?_
          · (simp [Region.wanted, yielded, Act.put, bs, undef]; done)
          · (intro w' hS; go_simp; done))
       | (refine holdN_call ?_ ?_ (fun w' hS => made_call hS (Nat.le_refl _) (J3.out w')) ?_
          · (simp [Region.wanted, yielded, Act.put, bs, undef]; done)
          · (intro w' hS; go_simp; done))
       | (refine holdN_call ?_ ?_ (fun w' hS => made_call hS (Nat.le_refl _) (N1.out w')) ?_
          · (simp [Region.wanted, yielded, Act.put, bs, undef]; done)
          · (intro w' hS; go_simp; done))
       | (refine holdN_call ?_ ?_ (fun w' hS => made_call hS (Nat.le_refl _) (N2.out w')) ?_
          · (simp [Region.wanted, yielded, Act.put, bs, undef]; done)
          · (intro w' hS; go_simp; done)))
  refine holdN_nil ?_
  intro w6 hS
  refine HQ.out _ _ ⟨?_, ?_, fun i hi => ?_⟩ ?_ hS
  · simp only [put_tmps, Array.size_setIfInBounds, bs]
  · simp only [put_defers, bd]
  · simp only [put_tmps]
    repeat rw [sl_ne _ (by omega)]
  · simp only [put_tmps]
    repeat first | rw [sl_ne _ (by decide)] | rw [sl_eq _ (by simp only [Array.size_setIfInBounds, bs]; decide)]
theorem ro8_tt_tt (A : Act) (w : World) (Q : Exit → Act → World → Prop) (b6 b7 b8 b9 b10 b11 : Nat) (x y z : Jb) (p q r : Nd)  (j1 : jobB x y = true) (j2 : jobB y z = true) (n1 : nodeB p q = true) (n2 : nodeB q r = true) (bs : A.tmps.size = 143) (bd : A.defers = [])
    (f6 : sl A.tmps 6 = .pointer (some ⟨b6, 0, none⟩)) (h6 : BJob b6 x w)
    (f7 : sl A.tmps 7 = .pointer (some ⟨b7, 0, none⟩)) (h7 : BJob b7 y w)
    (f8 : sl A.tmps 8 = .pointer (some ⟨b8, 0, none⟩)) (h8 : BJob b8 z w)
    (f9 : sl A.tmps 9 = .pointer (some ⟨b9, 0, none⟩)) (h9 : BNod b9 p w)
    (f10 : sl A.tmps 10 = .pointer (some ⟨b10, 0, none⟩)) (h10 : BNod b10 q w)
    (f11 : sl A.tmps 11 = .pointer (some ⟨b11, 0, none⟩)) (h11 : BNod b11 r w)
    (hQ : ∀ A' w', NearR 12 A A' → sl A'.tmps 111 = .bool false → Below w.heap.size w w' → Q .normal A' w') :
    Code.wp Try.prog (roR 8) Q A w := by
  have HL := Lib.hid (show ∀ w', Below w.heap.size w w' → w'.cell? ⟨b6, 0, none⟩ = some (.int .i64 x.id) ∧ w'.cell? ⟨b7, 0, none⟩ = some (.int .i64 y.id) from fun w' hb => ⟨blk_cell (h6.below hb h6.lt) 0, blk_cell (h7.below hb h7.lt) 0⟩)
  have HB6 := Lib.hid (show ∀ w', Below w.heap.size w w' → BJob b6 x w' from fun w' hb => h6.below hb h6.lt)
  have HB7 := Lib.hid (show ∀ w', Below w.heap.size w w' → BJob b7 y w' from fun w' hb => h7.below hb h7.lt)
  have HB8 := Lib.hid (show ∀ w', Below w.heap.size w w' → BJob b8 z w' from fun w' hb => h8.below hb h8.lt)
  have HB9 := Lib.hid (show ∀ w', Below w.heap.size w w' → BNod b9 p w' from fun w' hb => h9.below hb h9.lt)
  have HB10 := Lib.hid (show ∀ w', Below w.heap.size w w' → BNod b10 q w' from fun w' hb => h10.below hb h10.lt)
  have HB11 := Lib.hid (show ∀ w', Below w.heap.size w w' → BNod b11 r w' from fun w' hb => h11.below hb h11.lt)
  replace f6 := sl_get f6
  replace f7 := sl_get f7
  replace f8 := sl_get f8
  replace f9 := sl_get f9
  replace f10 := sl_get f10
  replace f11 := sl_get f11
  have HQ := Lib.hid hQ
  have J1 := fun w => grw_call (rjob_any x y w)
  rw [j1] at J1
  have J2 := fun w => grw_call (rjob_any y z w)
  rw [j2] at J2
  have J3 := fun w => grw_call (rjob_any x z w)
  rw [jobB_trans j1 j2] at J3
  have N1 := fun w => grw_call (rnode_any p q w)
  rw [n1] at N1
  have N2 := fun w => grw_call (rnode_any q r w)
  rw [n2] at N2
  have N3 := fun w => grw_call (rnode_any p r w)
  rw [nodeB_trans n1 n2] at N3
  unfold Jb.val at J1 J2 J3
  unfold Nd.val at N1 N2 N3
  replace J1 := Lib.hid J1
  replace J2 := Lib.hid J2
  replace J3 := Lib.hid J3
  replace N1 := Lib.hid N1
  replace N2 := Lib.hid N2
  replace N3 := Lib.hid N3
  clear j1 n1 j2 n2
  clear hQ h6 h7 h8 h9 h10 h11
  conv => arg 2; whnf
  refine wp_region_holdN (fun w' => Below w.heap.size w w') (Below.refl _ _) ?_
  repeat
    first
    | (refine holdN_val (v := ?_) ?_ ?_ ?_
       rotate_left
       · first
         | (simp [Region.wanted]; done)
         | (simp [Region.wanted, yielded, Act.put, bs, undef]; done)
       · first
         | (with_reducible refine loadJ (.tmp 6) HB6.out ?_
            go_simp
            done)
         | (with_reducible refine loadJ (.tmp 7) HB7.out ?_
            go_simp
            done)
         | (with_reducible refine loadJ (.tmp 8) HB8.out ?_
            go_simp
            done)
         | (with_reducible refine loadN (.tmp 9) HB9.out ?_
            go_simp
            done)
         | (with_reducible refine loadN (.tmp 10) HB10.out ?_
            go_simp
            done)
         | (with_reducible refine loadN (.tmp 11) HB11.out ?_
            go_simp
            done)
         | (intro w' hS
            obtain ⟨_, _⟩ := HL.out w' hS
            go_simp
            try with_reducible rfl))
    | (refine holdN_skip ?_ ?_
       · (simp [Region.wanted, yielded, Act.put, bs, undef]; done))
    | (first
       | (refine holdN_call ?_ ?_ (fun w' hS => made_call hS (Nat.le_refl _) (J1.out w')) ?_
          · (simp [Region.wanted, yielded, Act.put, bs, undef]; done)
          · (intro w' hS; go_simp; done))
       | (refine holdN_call ?_ ?_ (fun w' hS => made_call hS (Nat.le_refl _) (J2.out w')) ?_
          · (simp [Region.wanted, yielded, Act.put, bs, undef]; done)
          · (intro w' hS; go_simp; done))
       | (refine holdN_call ?_ ?_ (fun w' hS => made_call hS (Nat.le_refl _) (J3.out w')) ?_
          · (simp [Region.wanted, yielded, Act.put, bs, undef]; done)
          · (intro w' hS; go_simp; done))
       | (refine holdN_call ?_ ?_ (fun w' hS => made_call hS (Nat.le_refl _) (N1.out w')) ?_
          · (simp [Region.wanted, yielded, Act.put, bs, undef]; done)
          · (intro w' hS; go_simp; done))
       | (refine holdN_call ?_ ?_ (fun w' hS => made_call hS (Nat.le_refl _) (N2.out w')) ?_
          · (simp [Region.wanted, yielded, Act.put, bs, undef]; done)
          · (intro w' hS; go_simp; done))
       | (refine holdN_call ?_ ?_ (fun w' hS => made_call hS (Nat.le_refl _) (N3.out w')) ?_
          · (simp [Region.wanted, yielded, Act.put, bs, undef]; done)
          · (intro w' hS; go_simp; done)))
  refine holdN_nil ?_
  intro w6 hS
  refine HQ.out _ _ ⟨?_, ?_, fun i hi => ?_⟩ ?_ hS
  · simp only [put_tmps, Array.size_setIfInBounds, bs]
  · simp only [put_defers, bd]
  · simp only [put_tmps]
    repeat rw [sl_ne _ (by omega)]
  · simp only [put_tmps]
    repeat first | rw [sl_ne _ (by decide)] | rw [sl_eq _ (by simp only [Array.size_setIfInBounds, bs]; decide)]
theorem ro10_f (A : Act) (w : World) (Q : Exit → Act → World → Prop) (b6 b7 b9 b10 : Nat) (x y : Jb) (p q : Nd) (hx : x.ok) (hy : y.ok) (hp : p.ok) (hq : q.ok) (e1 : ¬ 0 ≤ x.prio) (bs : A.tmps.size = 143) (bd : A.defers = [])
    (f6 : sl A.tmps 6 = .pointer (some ⟨b6, 0, none⟩)) (h6 : BJob b6 x w)
    (f7 : sl A.tmps 7 = .pointer (some ⟨b7, 0, none⟩)) (h7 : BJob b7 y w)
    (f9 : sl A.tmps 9 = .pointer (some ⟨b9, 0, none⟩)) (h9 : BNod b9 p w)
    (f10 : sl A.tmps 10 = .pointer (some ⟨b10, 0, none⟩)) (h10 : BNod b10 q w)
    (hQ : ∀ A' w', NearR 12 A A' → sl A'.tmps 141 = .bool false → Below w.heap.size w w' → Q .normal A' w') :
    Code.wp Try.prog (roR 10) Q A w := by
  have HL := Lib.hid (show ∀ w', Below w.heap.size w w' → w'.cell? ⟨b6, 1, none⟩ = some (.int .i64 x.prio) ∧ w'.cell? ⟨b7, 1, none⟩ = some (.int .i64 y.prio) from fun w' hb => ⟨blk_cell (h6.below hb h6.lt) 1, blk_cell (h7.below hb h7.lt) 1⟩)
  have HB6 := Lib.hid (show ∀ w', Below w.heap.size w w' → BJob b6 x w' from fun w' hb => h6.below hb h6.lt)
  have HB7 := Lib.hid (show ∀ w', Below w.heap.size w w' → BJob b7 y w' from fun w' hb => h7.below hb h7.lt)
  have HB9 := Lib.hid (show ∀ w', Below w.heap.size w w' → BNod b9 p w' from fun w' hb => h9.below hb h9.lt)
  have HB10 := Lib.hid (show ∀ w', Below w.heap.size w w' → BNod b10 q w' from fun w' hb => h10.below hb h10.lt)
  replace f6 := sl_get f6
  replace f7 := sl_get f7
  replace f9 := sl_get f9
  replace f10 := sl_get f10
  have HQ := Lib.hid hQ
  have kp := fun w => grw_call (rnkey_any p w)
  have kq := fun w => grw_call (rnkey_any q w)
  have NL := fun w => hless_any (keyN p) (keyN q) w (keyN_ok hp) (keyN_ok hq)
  have N1 := fun w => grw_call (rnode_any p q w)
  rw [keyN_less] at NL
  generalize nodeB p q = u3 at *
  generalize keyN p = k3 at *
  generalize keyN q = k4 at *
  have d1 : decide (x.prio ≥ 0) = false := decide_eq_false (by omega)
  have d3 : decide (0 ≤ x.prio) = false := decide_eq_false (by omega)
  clear e1
  unfold V3.val at kp kq NL
  unfold Nd.val at kp kq N1
  replace kp := Lib.hid kp
  replace kq := Lib.hid kq
  replace NL := Lib.hid NL
  replace N1 := Lib.hid N1
  clear hx hy hp hq
  clear hQ h6 h7 h9 h10
  conv => arg 2; whnf
  refine wp_region_hold (fun w' => Below w.heap.size w w') (by kernel_rfl) (by kernel_rfl) ⟨rfl, rfl, rfl, Nat.le_refl _, fun _ _ => rfl⟩ ?_
  repeat
    first
    | (refine hold_val (v := ?_) ?_ ?_ ?_
       rotate_left
       · first
         | (simp [Region.wanted]; done)
         | (simp [Region.wanted, yielded, Act.put, bs, undef]; done)
       · first
         | (with_reducible refine loadJ (.tmp 6) HB6.out ?_
            go_simp
            done)
         | (with_reducible refine loadJ (.tmp 7) HB7.out ?_
            go_simp
            done)
         | (with_reducible refine loadN (.tmp 9) HB9.out ?_
            go_simp
            done)
         | (with_reducible refine loadN (.tmp 10) HB10.out ?_
            go_simp
            done)
         | (intro w' hS
            obtain ⟨_, _⟩ := HL.out w' hS
            go_simp
            try with_reducible rfl))
    | (refine hold_skip ?_ ?_
       · (simp [Region.wanted, yielded, Act.put, bs, undef]; done))
    | (first
       | (refine hold_call ?_ ?_ (fun w' hS => made_call hS (Nat.le_refl _) (kp.out w')) ?_
          · (simp [Region.wanted, yielded, Act.put, bs, undef]; done)
          · (intro w' hS; go_simp; done))
       | (refine hold_call ?_ ?_ (fun w' hS => made_call hS (Nat.le_refl _) (kq.out w')) ?_
          · (simp [Region.wanted, yielded, Act.put, bs, undef]; done)
          · (intro w' hS; go_simp; done))
       | (refine hold_call ?_ ?_ (fun w' hS => made_call hS (Nat.le_refl _) (NL.out w')) ?_
          · (simp [Region.wanted, yielded, Act.put, bs, undef]; done)
          · (intro w' hS; go_simp; done))
       | (refine hold_call ?_ ?_ (fun w' hS => made_call hS (Nat.le_refl _) (N1.out w')) ?_
          · (simp [Region.wanted, yielded, Act.put, bs, undef]; done)
          · (intro w' hS; go_simp; done)))
  refine hold_nil ?_
  intro w6 hS
  refine HQ.out _ _ ⟨?_, ?_, fun i hi => ?_⟩ ?_ hS
  · simp only [put_tmps, Array.size_setIfInBounds, bs]
  · simp only [put_defers, bd]
  · simp only [put_tmps]
    repeat rw [sl_ne _ (by omega)]
  · simp only [put_tmps]
    repeat first | rw [sl_ne _ (by decide)] | rw [sl_eq _ (by simp only [Array.size_setIfInBounds, bs]; decide)]
theorem ro10_tf (A : Act) (w : World) (Q : Exit → Act → World → Prop) (b6 b7 b9 b10 : Nat) (x y : Jb) (p q : Nd) (hx : x.ok) (hy : y.ok) (hp : p.ok) (hq : q.ok) (e1 : 0 ≤ x.prio) (e2 : ¬ 0 ≤ y.prio) (bs : A.tmps.size = 143) (bd : A.defers = [])
    (f6 : sl A.tmps 6 = .pointer (some ⟨b6, 0, none⟩)) (h6 : BJob b6 x w)
    (f7 : sl A.tmps 7 = .pointer (some ⟨b7, 0, none⟩)) (h7 : BJob b7 y w)
    (f9 : sl A.tmps 9 = .pointer (some ⟨b9, 0, none⟩)) (h9 : BNod b9 p w)
    (f10 : sl A.tmps 10 = .pointer (some ⟨b10, 0, none⟩)) (h10 : BNod b10 q w)
    (hQ : ∀ A' w', NearR 12 A A' → sl A'.tmps 141 = .bool false → Below w.heap.size w w' → Q .normal A' w') :
    Code.wp Try.prog (roR 10) Q A w := by
  have HL := Lib.hid (show ∀ w', Below w.heap.size w w' → w'.cell? ⟨b6, 1, none⟩ = some (.int .i64 x.prio) ∧ w'.cell? ⟨b7, 1, none⟩ = some (.int .i64 y.prio) from fun w' hb => ⟨blk_cell (h6.below hb h6.lt) 1, blk_cell (h7.below hb h7.lt) 1⟩)
  have HB6 := Lib.hid (show ∀ w', Below w.heap.size w w' → BJob b6 x w' from fun w' hb => h6.below hb h6.lt)
  have HB7 := Lib.hid (show ∀ w', Below w.heap.size w w' → BJob b7 y w' from fun w' hb => h7.below hb h7.lt)
  have HB9 := Lib.hid (show ∀ w', Below w.heap.size w w' → BNod b9 p w' from fun w' hb => h9.below hb h9.lt)
  have HB10 := Lib.hid (show ∀ w', Below w.heap.size w w' → BNod b10 q w' from fun w' hb => h10.below hb h10.lt)
  replace f6 := sl_get f6
  replace f7 := sl_get f7
  replace f9 := sl_get f9
  replace f10 := sl_get f10
  have HQ := Lib.hid hQ
  have kp := fun w => grw_call (rnkey_any p w)
  have kq := fun w => grw_call (rnkey_any q w)
  have NL := fun w => hless_any (keyN p) (keyN q) w (keyN_ok hp) (keyN_ok hq)
  have N1 := fun w => grw_call (rnode_any p q w)
  rw [keyN_less] at NL
  generalize nodeB p q = u3 at *
  generalize keyN p = k3 at *
  generalize keyN q = k4 at *
  have d1 : decide (x.prio ≥ 0) = true := decide_eq_true (by omega)
  have d3 : decide (0 ≤ x.prio) = true := decide_eq_true (by omega)
  have d2 : decide (y.prio ≥ 0) = false := decide_eq_false (by omega)
  have d4 : decide (0 ≤ y.prio) = false := decide_eq_false (by omega)
  clear e1 e2
  unfold V3.val at kp kq NL
  unfold Nd.val at kp kq N1
  replace kp := Lib.hid kp
  replace kq := Lib.hid kq
  replace NL := Lib.hid NL
  replace N1 := Lib.hid N1
  clear hx hy hp hq
  clear hQ h6 h7 h9 h10
  conv => arg 2; whnf
  refine wp_region_hold (fun w' => Below w.heap.size w w') (by kernel_rfl) (by kernel_rfl) ⟨rfl, rfl, rfl, Nat.le_refl _, fun _ _ => rfl⟩ ?_
  repeat
    first
    | (refine hold_val (v := ?_) ?_ ?_ ?_
       rotate_left
       · first
         | (simp [Region.wanted]; done)
         | (simp [Region.wanted, yielded, Act.put, bs, undef]; done)
       · first
         | (with_reducible refine loadJ (.tmp 6) HB6.out ?_
            go_simp
            done)
         | (with_reducible refine loadJ (.tmp 7) HB7.out ?_
            go_simp
            done)
         | (with_reducible refine loadN (.tmp 9) HB9.out ?_
            go_simp
            done)
         | (with_reducible refine loadN (.tmp 10) HB10.out ?_
            go_simp
            done)
         | (intro w' hS
            obtain ⟨_, _⟩ := HL.out w' hS
            go_simp
            try with_reducible rfl))
    | (refine hold_skip ?_ ?_
       · (simp [Region.wanted, yielded, Act.put, bs, undef]; done))
    | (first
       | (refine hold_call ?_ ?_ (fun w' hS => made_call hS (Nat.le_refl _) (kp.out w')) ?_
          · (simp [Region.wanted, yielded, Act.put, bs, undef]; done)
          · (intro w' hS; go_simp; done))
       | (refine hold_call ?_ ?_ (fun w' hS => made_call hS (Nat.le_refl _) (kq.out w')) ?_
          · (simp [Region.wanted, yielded, Act.put, bs, undef]; done)
          · (intro w' hS; go_simp; done))
       | (refine hold_call ?_ ?_ (fun w' hS => made_call hS (Nat.le_refl _) (NL.out w')) ?_
          · (simp [Region.wanted, yielded, Act.put, bs, undef]; done)
          · (intro w' hS; go_simp; done))
       | (refine hold_call ?_ ?_ (fun w' hS => made_call hS (Nat.le_refl _) (N1.out w')) ?_
          · (simp [Region.wanted, yielded, Act.put, bs, undef]; done)
          · (intro w' hS; go_simp; done)))
  refine hold_nil ?_
  intro w6 hS
  refine HQ.out _ _ ⟨?_, ?_, fun i hi => ?_⟩ ?_ hS
  · simp only [put_tmps, Array.size_setIfInBounds, bs]
  · simp only [put_defers, bd]
  · simp only [put_tmps]
    repeat rw [sl_ne _ (by omega)]
  · simp only [put_tmps]
    repeat first | rw [sl_ne _ (by decide)] | rw [sl_eq _ (by simp only [Array.size_setIfInBounds, bs]; decide)]
theorem ro10_tt (A : Act) (w : World) (Q : Exit → Act → World → Prop) (b6 b7 b9 b10 : Nat) (x y : Jb) (p q : Nd) (hx : x.ok) (hy : y.ok) (hp : p.ok) (hq : q.ok) (e1 : 0 ≤ x.prio) (e2 : 0 ≤ y.prio) (bs : A.tmps.size = 143) (bd : A.defers = [])
    (f6 : sl A.tmps 6 = .pointer (some ⟨b6, 0, none⟩)) (h6 : BJob b6 x w)
    (f7 : sl A.tmps 7 = .pointer (some ⟨b7, 0, none⟩)) (h7 : BJob b7 y w)
    (f9 : sl A.tmps 9 = .pointer (some ⟨b9, 0, none⟩)) (h9 : BNod b9 p w)
    (f10 : sl A.tmps 10 = .pointer (some ⟨b10, 0, none⟩)) (h10 : BNod b10 q w)
    (hQ : ∀ A' w', NearR 12 A A' → sl A'.tmps 141 = .bool false → Below w.heap.size w w' → Q .normal A' w') :
    Code.wp Try.prog (roR 10) Q A w := by
  have HL := Lib.hid (show ∀ w', Below w.heap.size w w' → w'.cell? ⟨b6, 1, none⟩ = some (.int .i64 x.prio) ∧ w'.cell? ⟨b7, 1, none⟩ = some (.int .i64 y.prio) from fun w' hb => ⟨blk_cell (h6.below hb h6.lt) 1, blk_cell (h7.below hb h7.lt) 1⟩)
  have HB6 := Lib.hid (show ∀ w', Below w.heap.size w w' → BJob b6 x w' from fun w' hb => h6.below hb h6.lt)
  have HB7 := Lib.hid (show ∀ w', Below w.heap.size w w' → BJob b7 y w' from fun w' hb => h7.below hb h7.lt)
  have HB9 := Lib.hid (show ∀ w', Below w.heap.size w w' → BNod b9 p w' from fun w' hb => h9.below hb h9.lt)
  have HB10 := Lib.hid (show ∀ w', Below w.heap.size w w' → BNod b10 q w' from fun w' hb => h10.below hb h10.lt)
  replace f6 := sl_get f6
  replace f7 := sl_get f7
  replace f9 := sl_get f9
  replace f10 := sl_get f10
  have HQ := Lib.hid hQ
  have kp := fun w => grw_call (rnkey_any p w)
  have kq := fun w => grw_call (rnkey_any q w)
  have NL := fun w => hless_any (keyN p) (keyN q) w (keyN_ok hp) (keyN_ok hq)
  have N1 := fun w => grw_call (rnode_any p q w)
  rw [keyN_less] at NL
  generalize nodeB p q = u3 at *
  generalize keyN p = k3 at *
  generalize keyN q = k4 at *
  have d1 : decide (x.prio ≥ 0) = true := decide_eq_true (by omega)
  have d3 : decide (0 ≤ x.prio) = true := decide_eq_true (by omega)
  have d2 : decide (y.prio ≥ 0) = true := decide_eq_true (by omega)
  have d4 : decide (0 ≤ y.prio) = true := decide_eq_true (by omega)
  have kx := fun w => grw_call (rjkey_any x w hx)
  have ky := fun w => grw_call (rjkey_any y w hy)
  have JL := fun w => hless_any (keyJ x) (keyJ y) w (keyJ_ok hx) (keyJ_ok hy)
  have J1 := fun w => grw_call (rjob_any x y w)
  rw [keyJ_less x y e1 e2] at JL
  generalize jobB x y = u1 at *
  generalize keyJ x = k1 at *
  generalize keyJ y = k2 at *
  clear e1 e2
  unfold V3.val at kp kq NL kx ky JL
  unfold Jb.val at kx ky J1
  unfold Nd.val at kp kq N1
  replace kx := Lib.hid kx
  replace ky := Lib.hid ky
  replace JL := Lib.hid JL
  replace J1 := Lib.hid J1
  replace kp := Lib.hid kp
  replace kq := Lib.hid kq
  replace NL := Lib.hid NL
  replace N1 := Lib.hid N1
  clear hx hy hp hq
  clear hQ h6 h7 h9 h10
  conv => arg 2; whnf
  refine wp_region_hold (fun w' => Below w.heap.size w w') (by kernel_rfl) (by kernel_rfl) ⟨rfl, rfl, rfl, Nat.le_refl _, fun _ _ => rfl⟩ ?_
  repeat
    first
    | (refine hold_val (v := ?_) ?_ ?_ ?_
       rotate_left
       · first
         | (simp [Region.wanted]; done)
         | (simp [Region.wanted, yielded, Act.put, bs, undef]; done)
       · first
         | (with_reducible refine loadJ (.tmp 6) HB6.out ?_
            go_simp
            done)
         | (with_reducible refine loadJ (.tmp 7) HB7.out ?_
            go_simp
            done)
         | (with_reducible refine loadN (.tmp 9) HB9.out ?_
            go_simp
            done)
         | (with_reducible refine loadN (.tmp 10) HB10.out ?_
            go_simp
            done)
         | (intro w' hS
            obtain ⟨_, _⟩ := HL.out w' hS
            go_simp
            try with_reducible rfl))
    | (refine hold_skip ?_ ?_
       · (simp [Region.wanted, yielded, Act.put, bs, undef]; done))
    | (first
       | (refine hold_call ?_ ?_ (fun w' hS => made_call hS (Nat.le_refl _) (kx.out w')) ?_
          · (simp [Region.wanted, yielded, Act.put, bs, undef]; done)
          · (intro w' hS; go_simp; done))
       | (refine hold_call ?_ ?_ (fun w' hS => made_call hS (Nat.le_refl _) (ky.out w')) ?_
          · (simp [Region.wanted, yielded, Act.put, bs, undef]; done)
          · (intro w' hS; go_simp; done))
       | (refine hold_call ?_ ?_ (fun w' hS => made_call hS (Nat.le_refl _) (JL.out w')) ?_
          · (simp [Region.wanted, yielded, Act.put, bs, undef]; done)
          · (intro w' hS; go_simp; done))
       | (refine hold_call ?_ ?_ (fun w' hS => made_call hS (Nat.le_refl _) (J1.out w')) ?_
          · (simp [Region.wanted, yielded, Act.put, bs, undef]; done)
          · (intro w' hS; go_simp; done))
       | (refine hold_call ?_ ?_ (fun w' hS => made_call hS (Nat.le_refl _) (kp.out w')) ?_
          · (simp [Region.wanted, yielded, Act.put, bs, undef]; done)
          · (intro w' hS; go_simp; done))
       | (refine hold_call ?_ ?_ (fun w' hS => made_call hS (Nat.le_refl _) (kq.out w')) ?_
          · (simp [Region.wanted, yielded, Act.put, bs, undef]; done)
          · (intro w' hS; go_simp; done))
       | (refine hold_call ?_ ?_ (fun w' hS => made_call hS (Nat.le_refl _) (NL.out w')) ?_
          · (simp [Region.wanted, yielded, Act.put, bs, undef]; done)
          · (intro w' hS; go_simp; done))
       | (refine hold_call ?_ ?_ (fun w' hS => made_call hS (Nat.le_refl _) (N1.out w')) ?_
          · (simp [Region.wanted, yielded, Act.put, bs, undef]; done)
          · (intro w' hS; go_simp; done)))
  refine hold_nil ?_
  intro w6 hS
  refine HQ.out _ _ ⟨?_, ?_, fun i hi => ?_⟩ ?_ hS
  · simp only [put_tmps, Array.size_setIfInBounds, bs]
  · simp only [put_defers, bd]
  · simp only [put_tmps]
    repeat rw [sl_ne _ (by omega)]
  · simp only [put_tmps]
    repeat first | rw [sl_ne _ (by decide)] | rw [sl_eq _ (by simp only [Array.size_setIfInBounds, bs]; decide)]
end Go.Proofs.Ytipmlbbbjafpiaa
