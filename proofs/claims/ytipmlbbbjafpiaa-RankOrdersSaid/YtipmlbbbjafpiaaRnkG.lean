/- RankOrders, the frame a variable: the regions that copy three out of an array (4, 5). Written by tools/gen-rnkh.py. Conditions: as stated. -/
import Derived.Test.YtipmlbbbjafpiaaRnkArgs
import Derived.Test.YtipmlbbbjafpiaaFv
import Derived.Test.YtipmlbbbjafpiaaHoldT
import Derived.Deep.DeepCutAuto
namespace Go.Proofs.Ytipmlbbbjafpiaa
open Go.ChangeShapes Go.WideShapes Go.ChangeAt Go.RowKit
set_option linter.unusedVariables false
set_option maxRecDepth 100000
set_option linter.unusedSimpArgs false
set_option maxHeartbeats 4000000

noncomputable def roR (n : Nat) : Code := ((Try.f5.body.bind (codeAt n)).getD .skip)
/-- The frame, and what its long-lived slots hold. -/
structure RF (A : Act) (bx bn : Nat) (k : Int) : Prop where
  bs : A.tmps.size = 143
  bd : A.defers = []
  l2 : sl A.tmps 2 = .pointer (some ⟨bx, 0, none⟩)
  l3 : sl A.tmps 3 = .pointer (some ⟨bn, 0, none⟩)
  l5 : sl A.tmps 5 = .int .i64 k
/-- All slots ahead of n as they were. -/
def NearR (n : Nat) (A A' : Act) : Prop := A'.tmps.size = 143 ∧ A'.defers = [] ∧ ∀ i, i < n → sl A'.tmps i = sl A.tmps i
theorem RF.keep {A A' : Act} {bx bn n : Nat} {k : Int} (h : RF A bx bn k) (hn : NearR n A A') (h6 : 6 ≤ n) : RF A' bx bn k :=
  ⟨hn.1, hn.2.1, (hn.2.2 2 (by omega)).trans h.l2, (hn.2.2 3 (by omega)).trans h.l3, (hn.2.2 5 (by omega)).trans h.l5⟩
theorem NearR.at_ {n : Nat} {A A' : Act} (hn : NearR n A A') {i : Nat} {v : Value} (h : sl A.tmps i = v) (hi : i < n) : sl A'.tmps i = v := (hn.2.2 i hi).trans h
theorem ro4_0 (A : Act) (w : World) (Q : Exit → Act → World → Prop) (bx bn : Nat) (x y z : Jb) (L : RF A bx bn 0)
    (hX : w.heap[bx]? = some (.cells (x.row ++ (y.row ++ z.row)).toArray 42 (0, 0)))
    (hQ : ∀ A' w' b1 b2 b3, NearR 6 A A' → sl A'.tmps 6 = .pointer (some ⟨b1, 0, none⟩) → sl A'.tmps 7 = .pointer (some ⟨b2, 0, none⟩) → sl A'.tmps 8 = .pointer (some ⟨b3, 0, none⟩) → BJob b1 x w' → BJob b2 y w' → BJob b3 z w' → Below w.heap.size w w' → Q .normal A' w') :
    Code.wp Try.prog (roR 4) Q A w := by
  have HL := Lib.hid (show ∀ w', Below w.heap.size w w' → w'.cell? ⟨bx, 0, none⟩ = some (.int .i64 x.id) ∧ w'.cell? ⟨bx, 1, none⟩ = some (.int .i64 x.prio) ∧ w'.cell? ⟨bx, 2, none⟩ = some (.int .i64 x.seq) ∧ w'.cell? ⟨bx, 3, none⟩ = some (.int .i64 x.phase) ∧ w'.cell? ⟨bx, 4, none⟩ = some (.int .i64 x.node) ∧ w'.cell? ⟨bx, 5, none⟩ = some (.int .i64 x.need.a) ∧ w'.cell? ⟨bx, 6, none⟩ = some (.int .i64 x.need.b) ∧ w'.cell? ⟨bx, 7, none⟩ = some (.int .i64 x.need.c) ∧ w'.cell? ⟨bx, 8, none⟩ = some (.int .i64 y.id) ∧ w'.cell? ⟨bx, 9, none⟩ = some (.int .i64 y.prio) ∧ w'.cell? ⟨bx, 10, none⟩ = some (.int .i64 y.seq) ∧ w'.cell? ⟨bx, 11, none⟩ = some (.int .i64 y.phase) ∧ w'.cell? ⟨bx, 12, none⟩ = some (.int .i64 y.node) ∧ w'.cell? ⟨bx, 13, none⟩ = some (.int .i64 y.need.a) ∧ w'.cell? ⟨bx, 14, none⟩ = some (.int .i64 y.need.b) ∧ w'.cell? ⟨bx, 15, none⟩ = some (.int .i64 y.need.c) ∧ w'.cell? ⟨bx, 16, none⟩ = some (.int .i64 z.id) ∧ w'.cell? ⟨bx, 17, none⟩ = some (.int .i64 z.prio) ∧ w'.cell? ⟨bx, 18, none⟩ = some (.int .i64 z.seq) ∧ w'.cell? ⟨bx, 19, none⟩ = some (.int .i64 z.phase) ∧ w'.cell? ⟨bx, 20, none⟩ = some (.int .i64 z.node) ∧ w'.cell? ⟨bx, 21, none⟩ = some (.int .i64 z.need.a) ∧ w'.cell? ⟨bx, 22, none⟩ = some (.int .i64 z.need.b) ∧ w'.cell? ⟨bx, 23, none⟩ = some (.int .i64 z.need.c) from fun w' hb => by
    have hh := (hb.block _ (lt_of_block hX)).trans hX
    exact ⟨blk_cell hh 0, blk_cell hh 1, blk_cell hh 2, blk_cell hh 3, blk_cell hh 4, blk_cell hh 5, blk_cell hh 6, blk_cell hh 7, blk_cell hh 8, blk_cell hh 9, blk_cell hh 10, blk_cell hh 11, blk_cell hh 12, blk_cell hh 13, blk_cell hh 14, blk_cell hh 15, blk_cell hh 16, blk_cell hh 17, blk_cell hh 18, blk_cell hh 19, blk_cell hh 20, blk_cell hh 21, blk_cell hh 22, blk_cell hh 23⟩)
  obtain ⟨bs, bd, l2, l3, l5⟩ := L
  have f2 := sl_get l2
  have f3 := sl_get l3
  have f5 := sl_get l5
  have v1 : IntKind.i64.wrap 1 = 1 := by decide
  have v2 : IntKind.i64.wrap 2 = 2 := by decide
  have v3 : IntKind.i64.wrap 3 = 3 := by decide
  have v4 : IntKind.i64.wrap 4 = 4 := by decide
  have m1 : (1 : Int).tmod 3 = 1 := by decide
  have m2 : (2 : Int).tmod 3 = 2 := by decide
  have m3 : (3 : Int).tmod 3 = 0 := by decide
  have m4 : (4 : Int).tmod 3 = 1 := by decide
  have HQ := Lib.hid hQ
  clear hQ hX l2 l3 l5
  conv => arg 2; whnf
  refine wp_region_mix [13, 14, 15] [16, 17, 18] (fun _ => .cells #[.int .i64 0, .int .i64 0, .int .i64 0, .int .i64 0, .int .i64 0, .int .i64 0, .int .i64 0, .int .i64 0] 25) (fun w' => Below w.heap.size w w') (by kernel_rfl) (by decide) (by kernel_rfl) (kept_bel w) ⟨rfl, rfl, rfl, Nat.le_refl _, fun _ _ => rfl⟩ ?_ ?_
  · intro m hm o ho a
    simp only [List.mem_cons, List.not_mem_nil, or_false] at hm
    rcases hm with rfl | rfl | rfl
    all_goals
      obtain rfl := Option.some.inj ho.symm
      refine ⟨by simp [Region.wanted], fun w' hS => ?_⟩
      unfold ptrN
      go_simp
  refine readsL_of (l := [0, 1, 2, 3, 4, 5, 6, 7, 8, 9, 10, 11, 12]) (by kernel_rfl) ?_
  repeat
    refine readsL_val (v := ?_) (by rfl) (by simp [Region.wanted]) ?_ ?_
    rotate_left
    · intro w' hS
      obtain ⟨_, _, _, _, _, _, _, _, _, _, _, _, _, _, _, _, _, _, _, _, _, _, _, _⟩ := HL.out w' hS
      go_simp
      try with_reducible rfl
  refine readsL_nil (news3 (m1 := 13) (m2 := 14) (m3 := 15) (d1 := 6) (d2 := 7) (d3 := 8) ⟨by decide, by decide, by decide⟩ rfl rfl rfl ⟨by decide, by decide, by decide⟩ ?_)
  intro b1 b2 b3 w2 n12 n13 n23 g1 g2 g3 q1 q2 q3 hb
  obtain ⟨s2, s3, k1, k2, k3, kb⟩ := three_rows (ob1 := #[.int .i64 x.id, .int .i64 x.prio, .int .i64 x.seq, .int .i64 x.phase, .int .i64 x.node, .int .i64 x.need.a, .int .i64 x.need.b, .int .i64 x.need.c]) (ob2 := #[.int .i64 y.id, .int .i64 y.prio, .int .i64 y.seq, .int .i64 y.phase, .int .i64 y.node, .int .i64 y.need.a, .int .i64 y.need.b, .int .i64 y.need.c]) (ob3 := #[.int .i64 z.id, .int .i64 z.prio, .int .i64 z.seq, .int .i64 z.phase, .int .i64 z.node, .int .i64 z.need.a, .int .i64 z.need.b, .int .i64 z.need.c]) n12 n13 n23 g1 g2 g3 q1 q2 q3 hb
  have kw := ((Below.refl w.heap.size w).drew).trans hb
  refine forced_store 25 (.tmp 6) (.tmp 18) (by rfl) b1 _ #[.int .i64 x.id, .int .i64 x.prio, .int .i64 x.seq, .int .i64 x.phase, .int .i64 x.node, .int .i64 x.need.a, .int .i64 x.need.b, .int .i64 x.need.c] g1 (by go_simp) (by go_simp) (by kernel_rfl) rfl (by simp [Value.oneCell']) (rowSet_below _ kw q1) ?_
  refine forced_store 25 (.tmp 7) (.tmp 23) (by rfl) b2 _ #[.int .i64 y.id, .int .i64 y.prio, .int .i64 y.seq, .int .i64 y.phase, .int .i64 y.node, .int .i64 y.need.a, .int .i64 y.need.b, .int .i64 y.need.c] s2 (by go_simp) (by go_simp) (by kernel_rfl) rfl (by simp [Value.oneCell']) (rowSet_below _ (rowSet_below _ kw q1) q2) ?_
  refine forced_store 25 (.tmp 8) (.tmp 28) (by rfl) b3 _ #[.int .i64 z.id, .int .i64 z.prio, .int .i64 z.seq, .int .i64 z.phase, .int .i64 z.node, .int .i64 z.need.a, .int .i64 z.need.b, .int .i64 z.need.c] s3 (by go_simp) (by go_simp) (by kernel_rfl) rfl (by simp [Value.oneCell']) (rowSet_below _ (rowSet_below _ (rowSet_below _ kw q1) q2) q3) ?_
  refine forced_nil ?_
  refine HQ.out _ _ b1 b2 b3 ⟨?_, ?_, fun i hi => ?_⟩ ?_ ?_ ?_ k1 k2 k3 (((Below.refl w.heap.size w).drew).trans kb)
  · simp only [put_tmps, Array.size_setIfInBounds, bs]
  · simp only [put_defers, bd]
  · simp only [put_tmps]
    repeat rw [sl_ne _ (by omega)]
  all_goals
    simp only [put_tmps]
    repeat first | rw [sl_ne _ (by decide)] | rw [sl_eq _ (by simp only [Array.size_setIfInBounds, bs]; decide)]
theorem ro4_1 (A : Act) (w : World) (Q : Exit → Act → World → Prop) (bx bn : Nat) (x y z : Jb) (L : RF A bx bn 1)
    (hX : w.heap[bx]? = some (.cells (x.row ++ (y.row ++ z.row)).toArray 42 (0, 0)))
    (hQ : ∀ A' w' b1 b2 b3, NearR 6 A A' → sl A'.tmps 6 = .pointer (some ⟨b1, 0, none⟩) → sl A'.tmps 7 = .pointer (some ⟨b2, 0, none⟩) → sl A'.tmps 8 = .pointer (some ⟨b3, 0, none⟩) → BJob b1 y w' → BJob b2 z w' → BJob b3 x w' → Below w.heap.size w w' → Q .normal A' w') :
    Code.wp Try.prog (roR 4) Q A w := by
  have HL := Lib.hid (show ∀ w', Below w.heap.size w w' → w'.cell? ⟨bx, 0, none⟩ = some (.int .i64 x.id) ∧ w'.cell? ⟨bx, 1, none⟩ = some (.int .i64 x.prio) ∧ w'.cell? ⟨bx, 2, none⟩ = some (.int .i64 x.seq) ∧ w'.cell? ⟨bx, 3, none⟩ = some (.int .i64 x.phase) ∧ w'.cell? ⟨bx, 4, none⟩ = some (.int .i64 x.node) ∧ w'.cell? ⟨bx, 5, none⟩ = some (.int .i64 x.need.a) ∧ w'.cell? ⟨bx, 6, none⟩ = some (.int .i64 x.need.b) ∧ w'.cell? ⟨bx, 7, none⟩ = some (.int .i64 x.need.c) ∧ w'.cell? ⟨bx, 8, none⟩ = some (.int .i64 y.id) ∧ w'.cell? ⟨bx, 9, none⟩ = some (.int .i64 y.prio) ∧ w'.cell? ⟨bx, 10, none⟩ = some (.int .i64 y.seq) ∧ w'.cell? ⟨bx, 11, none⟩ = some (.int .i64 y.phase) ∧ w'.cell? ⟨bx, 12, none⟩ = some (.int .i64 y.node) ∧ w'.cell? ⟨bx, 13, none⟩ = some (.int .i64 y.need.a) ∧ w'.cell? ⟨bx, 14, none⟩ = some (.int .i64 y.need.b) ∧ w'.cell? ⟨bx, 15, none⟩ = some (.int .i64 y.need.c) ∧ w'.cell? ⟨bx, 16, none⟩ = some (.int .i64 z.id) ∧ w'.cell? ⟨bx, 17, none⟩ = some (.int .i64 z.prio) ∧ w'.cell? ⟨bx, 18, none⟩ = some (.int .i64 z.seq) ∧ w'.cell? ⟨bx, 19, none⟩ = some (.int .i64 z.phase) ∧ w'.cell? ⟨bx, 20, none⟩ = some (.int .i64 z.node) ∧ w'.cell? ⟨bx, 21, none⟩ = some (.int .i64 z.need.a) ∧ w'.cell? ⟨bx, 22, none⟩ = some (.int .i64 z.need.b) ∧ w'.cell? ⟨bx, 23, none⟩ = some (.int .i64 z.need.c) from fun w' hb => by
    have hh := (hb.block _ (lt_of_block hX)).trans hX
    exact ⟨blk_cell hh 0, blk_cell hh 1, blk_cell hh 2, blk_cell hh 3, blk_cell hh 4, blk_cell hh 5, blk_cell hh 6, blk_cell hh 7, blk_cell hh 8, blk_cell hh 9, blk_cell hh 10, blk_cell hh 11, blk_cell hh 12, blk_cell hh 13, blk_cell hh 14, blk_cell hh 15, blk_cell hh 16, blk_cell hh 17, blk_cell hh 18, blk_cell hh 19, blk_cell hh 20, blk_cell hh 21, blk_cell hh 22, blk_cell hh 23⟩)
  obtain ⟨bs, bd, l2, l3, l5⟩ := L
  have f2 := sl_get l2
  have f3 := sl_get l3
  have f5 := sl_get l5
  have v1 : IntKind.i64.wrap 1 = 1 := by decide
  have v2 : IntKind.i64.wrap 2 = 2 := by decide
  have v3 : IntKind.i64.wrap 3 = 3 := by decide
  have v4 : IntKind.i64.wrap 4 = 4 := by decide
  have m1 : (1 : Int).tmod 3 = 1 := by decide
  have m2 : (2 : Int).tmod 3 = 2 := by decide
  have m3 : (3 : Int).tmod 3 = 0 := by decide
  have m4 : (4 : Int).tmod 3 = 1 := by decide
  have HQ := Lib.hid hQ
  clear hQ hX l2 l3 l5
  conv => arg 2; whnf
  refine wp_region_mix [13, 14, 15] [16, 17, 18] (fun _ => .cells #[.int .i64 0, .int .i64 0, .int .i64 0, .int .i64 0, .int .i64 0, .int .i64 0, .int .i64 0, .int .i64 0] 25) (fun w' => Below w.heap.size w w') (by kernel_rfl) (by decide) (by kernel_rfl) (kept_bel w) ⟨rfl, rfl, rfl, Nat.le_refl _, fun _ _ => rfl⟩ ?_ ?_
  · intro m hm o ho a
    simp only [List.mem_cons, List.not_mem_nil, or_false] at hm
    rcases hm with rfl | rfl | rfl
    all_goals
      obtain rfl := Option.some.inj ho.symm
      refine ⟨by simp [Region.wanted], fun w' hS => ?_⟩
      unfold ptrN
      go_simp
  refine readsL_of (l := [0, 1, 2, 3, 4, 5, 6, 7, 8, 9, 10, 11, 12]) (by kernel_rfl) ?_
  repeat
    refine readsL_val (v := ?_) (by rfl) (by simp [Region.wanted]) ?_ ?_
    rotate_left
    · intro w' hS
      obtain ⟨_, _, _, _, _, _, _, _, _, _, _, _, _, _, _, _, _, _, _, _, _, _, _, _⟩ := HL.out w' hS
      go_simp
      try with_reducible rfl
  refine readsL_nil (news3 (m1 := 13) (m2 := 14) (m3 := 15) (d1 := 6) (d2 := 7) (d3 := 8) ⟨by decide, by decide, by decide⟩ rfl rfl rfl ⟨by decide, by decide, by decide⟩ ?_)
  intro b1 b2 b3 w2 n12 n13 n23 g1 g2 g3 q1 q2 q3 hb
  obtain ⟨s2, s3, k1, k2, k3, kb⟩ := three_rows (ob1 := #[.int .i64 y.id, .int .i64 y.prio, .int .i64 y.seq, .int .i64 y.phase, .int .i64 y.node, .int .i64 y.need.a, .int .i64 y.need.b, .int .i64 y.need.c]) (ob2 := #[.int .i64 z.id, .int .i64 z.prio, .int .i64 z.seq, .int .i64 z.phase, .int .i64 z.node, .int .i64 z.need.a, .int .i64 z.need.b, .int .i64 z.need.c]) (ob3 := #[.int .i64 x.id, .int .i64 x.prio, .int .i64 x.seq, .int .i64 x.phase, .int .i64 x.node, .int .i64 x.need.a, .int .i64 x.need.b, .int .i64 x.need.c]) n12 n13 n23 g1 g2 g3 q1 q2 q3 hb
  have kw := ((Below.refl w.heap.size w).drew).trans hb
  refine forced_store 25 (.tmp 6) (.tmp 18) (by rfl) b1 _ #[.int .i64 y.id, .int .i64 y.prio, .int .i64 y.seq, .int .i64 y.phase, .int .i64 y.node, .int .i64 y.need.a, .int .i64 y.need.b, .int .i64 y.need.c] g1 (by go_simp) (by go_simp) (by kernel_rfl) rfl (by simp [Value.oneCell']) (rowSet_below _ kw q1) ?_
  refine forced_store 25 (.tmp 7) (.tmp 23) (by rfl) b2 _ #[.int .i64 z.id, .int .i64 z.prio, .int .i64 z.seq, .int .i64 z.phase, .int .i64 z.node, .int .i64 z.need.a, .int .i64 z.need.b, .int .i64 z.need.c] s2 (by go_simp) (by go_simp) (by kernel_rfl) rfl (by simp [Value.oneCell']) (rowSet_below _ (rowSet_below _ kw q1) q2) ?_
  refine forced_store 25 (.tmp 8) (.tmp 28) (by rfl) b3 _ #[.int .i64 x.id, .int .i64 x.prio, .int .i64 x.seq, .int .i64 x.phase, .int .i64 x.node, .int .i64 x.need.a, .int .i64 x.need.b, .int .i64 x.need.c] s3 (by go_simp) (by go_simp) (by kernel_rfl) rfl (by simp [Value.oneCell']) (rowSet_below _ (rowSet_below _ (rowSet_below _ kw q1) q2) q3) ?_
  refine forced_nil ?_
  refine HQ.out _ _ b1 b2 b3 ⟨?_, ?_, fun i hi => ?_⟩ ?_ ?_ ?_ k1 k2 k3 (((Below.refl w.heap.size w).drew).trans kb)
  · simp only [put_tmps, Array.size_setIfInBounds, bs]
  · simp only [put_defers, bd]
  · simp only [put_tmps]
    repeat rw [sl_ne _ (by omega)]
  all_goals
    simp only [put_tmps]
    repeat first | rw [sl_ne _ (by decide)] | rw [sl_eq _ (by simp only [Array.size_setIfInBounds, bs]; decide)]
theorem ro4_2 (A : Act) (w : World) (Q : Exit → Act → World → Prop) (bx bn : Nat) (x y z : Jb) (L : RF A bx bn 2)
    (hX : w.heap[bx]? = some (.cells (x.row ++ (y.row ++ z.row)).toArray 42 (0, 0)))
    (hQ : ∀ A' w' b1 b2 b3, NearR 6 A A' → sl A'.tmps 6 = .pointer (some ⟨b1, 0, none⟩) → sl A'.tmps 7 = .pointer (some ⟨b2, 0, none⟩) → sl A'.tmps 8 = .pointer (some ⟨b3, 0, none⟩) → BJob b1 z w' → BJob b2 x w' → BJob b3 y w' → Below w.heap.size w w' → Q .normal A' w') :
    Code.wp Try.prog (roR 4) Q A w := by
  have HL := Lib.hid (show ∀ w', Below w.heap.size w w' → w'.cell? ⟨bx, 0, none⟩ = some (.int .i64 x.id) ∧ w'.cell? ⟨bx, 1, none⟩ = some (.int .i64 x.prio) ∧ w'.cell? ⟨bx, 2, none⟩ = some (.int .i64 x.seq) ∧ w'.cell? ⟨bx, 3, none⟩ = some (.int .i64 x.phase) ∧ w'.cell? ⟨bx, 4, none⟩ = some (.int .i64 x.node) ∧ w'.cell? ⟨bx, 5, none⟩ = some (.int .i64 x.need.a) ∧ w'.cell? ⟨bx, 6, none⟩ = some (.int .i64 x.need.b) ∧ w'.cell? ⟨bx, 7, none⟩ = some (.int .i64 x.need.c) ∧ w'.cell? ⟨bx, 8, none⟩ = some (.int .i64 y.id) ∧ w'.cell? ⟨bx, 9, none⟩ = some (.int .i64 y.prio) ∧ w'.cell? ⟨bx, 10, none⟩ = some (.int .i64 y.seq) ∧ w'.cell? ⟨bx, 11, none⟩ = some (.int .i64 y.phase) ∧ w'.cell? ⟨bx, 12, none⟩ = some (.int .i64 y.node) ∧ w'.cell? ⟨bx, 13, none⟩ = some (.int .i64 y.need.a) ∧ w'.cell? ⟨bx, 14, none⟩ = some (.int .i64 y.need.b) ∧ w'.cell? ⟨bx, 15, none⟩ = some (.int .i64 y.need.c) ∧ w'.cell? ⟨bx, 16, none⟩ = some (.int .i64 z.id) ∧ w'.cell? ⟨bx, 17, none⟩ = some (.int .i64 z.prio) ∧ w'.cell? ⟨bx, 18, none⟩ = some (.int .i64 z.seq) ∧ w'.cell? ⟨bx, 19, none⟩ = some (.int .i64 z.phase) ∧ w'.cell? ⟨bx, 20, none⟩ = some (.int .i64 z.node) ∧ w'.cell? ⟨bx, 21, none⟩ = some (.int .i64 z.need.a) ∧ w'.cell? ⟨bx, 22, none⟩ = some (.int .i64 z.need.b) ∧ w'.cell? ⟨bx, 23, none⟩ = some (.int .i64 z.need.c) from fun w' hb => by
    have hh := (hb.block _ (lt_of_block hX)).trans hX
    exact ⟨blk_cell hh 0, blk_cell hh 1, blk_cell hh 2, blk_cell hh 3, blk_cell hh 4, blk_cell hh 5, blk_cell hh 6, blk_cell hh 7, blk_cell hh 8, blk_cell hh 9, blk_cell hh 10, blk_cell hh 11, blk_cell hh 12, blk_cell hh 13, blk_cell hh 14, blk_cell hh 15, blk_cell hh 16, blk_cell hh 17, blk_cell hh 18, blk_cell hh 19, blk_cell hh 20, blk_cell hh 21, blk_cell hh 22, blk_cell hh 23⟩)
  obtain ⟨bs, bd, l2, l3, l5⟩ := L
  have f2 := sl_get l2
  have f3 := sl_get l3
  have f5 := sl_get l5
  have v1 : IntKind.i64.wrap 1 = 1 := by decide
  have v2 : IntKind.i64.wrap 2 = 2 := by decide
  have v3 : IntKind.i64.wrap 3 = 3 := by decide
  have v4 : IntKind.i64.wrap 4 = 4 := by decide
  have m1 : (1 : Int).tmod 3 = 1 := by decide
  have m2 : (2 : Int).tmod 3 = 2 := by decide
  have m3 : (3 : Int).tmod 3 = 0 := by decide
  have m4 : (4 : Int).tmod 3 = 1 := by decide
  have HQ := Lib.hid hQ
  clear hQ hX l2 l3 l5
  conv => arg 2; whnf
  refine wp_region_mix [13, 14, 15] [16, 17, 18] (fun _ => .cells #[.int .i64 0, .int .i64 0, .int .i64 0, .int .i64 0, .int .i64 0, .int .i64 0, .int .i64 0, .int .i64 0] 25) (fun w' => Below w.heap.size w w') (by kernel_rfl) (by decide) (by kernel_rfl) (kept_bel w) ⟨rfl, rfl, rfl, Nat.le_refl _, fun _ _ => rfl⟩ ?_ ?_
  · intro m hm o ho a
    simp only [List.mem_cons, List.not_mem_nil, or_false] at hm
    rcases hm with rfl | rfl | rfl
    all_goals
      obtain rfl := Option.some.inj ho.symm
      refine ⟨by simp [Region.wanted], fun w' hS => ?_⟩
      unfold ptrN
      go_simp
  refine readsL_of (l := [0, 1, 2, 3, 4, 5, 6, 7, 8, 9, 10, 11, 12]) (by kernel_rfl) ?_
  repeat
    refine readsL_val (v := ?_) (by rfl) (by simp [Region.wanted]) ?_ ?_
    rotate_left
    · intro w' hS
      obtain ⟨_, _, _, _, _, _, _, _, _, _, _, _, _, _, _, _, _, _, _, _, _, _, _, _⟩ := HL.out w' hS
      go_simp
      try with_reducible rfl
  refine readsL_nil (news3 (m1 := 13) (m2 := 14) (m3 := 15) (d1 := 6) (d2 := 7) (d3 := 8) ⟨by decide, by decide, by decide⟩ rfl rfl rfl ⟨by decide, by decide, by decide⟩ ?_)
  intro b1 b2 b3 w2 n12 n13 n23 g1 g2 g3 q1 q2 q3 hb
  obtain ⟨s2, s3, k1, k2, k3, kb⟩ := three_rows (ob1 := #[.int .i64 z.id, .int .i64 z.prio, .int .i64 z.seq, .int .i64 z.phase, .int .i64 z.node, .int .i64 z.need.a, .int .i64 z.need.b, .int .i64 z.need.c]) (ob2 := #[.int .i64 x.id, .int .i64 x.prio, .int .i64 x.seq, .int .i64 x.phase, .int .i64 x.node, .int .i64 x.need.a, .int .i64 x.need.b, .int .i64 x.need.c]) (ob3 := #[.int .i64 y.id, .int .i64 y.prio, .int .i64 y.seq, .int .i64 y.phase, .int .i64 y.node, .int .i64 y.need.a, .int .i64 y.need.b, .int .i64 y.need.c]) n12 n13 n23 g1 g2 g3 q1 q2 q3 hb
  have kw := ((Below.refl w.heap.size w).drew).trans hb
  refine forced_store 25 (.tmp 6) (.tmp 18) (by rfl) b1 _ #[.int .i64 z.id, .int .i64 z.prio, .int .i64 z.seq, .int .i64 z.phase, .int .i64 z.node, .int .i64 z.need.a, .int .i64 z.need.b, .int .i64 z.need.c] g1 (by go_simp) (by go_simp) (by kernel_rfl) rfl (by simp [Value.oneCell']) (rowSet_below _ kw q1) ?_
  refine forced_store 25 (.tmp 7) (.tmp 23) (by rfl) b2 _ #[.int .i64 x.id, .int .i64 x.prio, .int .i64 x.seq, .int .i64 x.phase, .int .i64 x.node, .int .i64 x.need.a, .int .i64 x.need.b, .int .i64 x.need.c] s2 (by go_simp) (by go_simp) (by kernel_rfl) rfl (by simp [Value.oneCell']) (rowSet_below _ (rowSet_below _ kw q1) q2) ?_
  refine forced_store 25 (.tmp 8) (.tmp 28) (by rfl) b3 _ #[.int .i64 y.id, .int .i64 y.prio, .int .i64 y.seq, .int .i64 y.phase, .int .i64 y.node, .int .i64 y.need.a, .int .i64 y.need.b, .int .i64 y.need.c] s3 (by go_simp) (by go_simp) (by kernel_rfl) rfl (by simp [Value.oneCell']) (rowSet_below _ (rowSet_below _ (rowSet_below _ kw q1) q2) q3) ?_
  refine forced_nil ?_
  refine HQ.out _ _ b1 b2 b3 ⟨?_, ?_, fun i hi => ?_⟩ ?_ ?_ ?_ k1 k2 k3 (((Below.refl w.heap.size w).drew).trans kb)
  · simp only [put_tmps, Array.size_setIfInBounds, bs]
  · simp only [put_defers, bd]
  · simp only [put_tmps]
    repeat rw [sl_ne _ (by omega)]
  all_goals
    simp only [put_tmps]
    repeat first | rw [sl_ne _ (by decide)] | rw [sl_eq _ (by simp only [Array.size_setIfInBounds, bs]; decide)]
theorem ro5_0 (A : Act) (w : World) (Q : Exit → Act → World → Prop) (bx bn : Nat) (x y z : Nd) (L : RF A bx bn 0)
    (hX : w.heap[bn]? = some (.cells (x.row ++ (y.row ++ z.row)).toArray 43 (0, 0)))
    (hQ : ∀ A' w' b1 b2 b3, NearR 9 A A' → sl A'.tmps 9 = .pointer (some ⟨b1, 0, none⟩) → sl A'.tmps 10 = .pointer (some ⟨b2, 0, none⟩) → sl A'.tmps 11 = .pointer (some ⟨b3, 0, none⟩) → BNod b1 x w' → BNod b2 y w' → BNod b3 z w' → Below w.heap.size w w' → Q .normal A' w') :
    Code.wp Try.prog (roR 5) Q A w := by
  have HL := Lib.hid (show ∀ w', Below w.heap.size w w' → w'.cell? ⟨bn, 0, none⟩ = some (.int .i64 x.id) ∧ w'.cell? ⟨bn, 1, none⟩ = some (.int .i64 x.inc) ∧ w'.cell? ⟨bn, 2, none⟩ = some (.int .i64 x.load) ∧ w'.cell? ⟨bn, 3, none⟩ = some (.int .i64 x.cap.a) ∧ w'.cell? ⟨bn, 4, none⟩ = some (.int .i64 x.cap.b) ∧ w'.cell? ⟨bn, 5, none⟩ = some (.int .i64 x.cap.c) ∧ w'.cell? ⟨bn, 6, none⟩ = some (.int .i64 x.used.a) ∧ w'.cell? ⟨bn, 7, none⟩ = some (.int .i64 x.used.b) ∧ w'.cell? ⟨bn, 8, none⟩ = some (.int .i64 x.used.c) ∧ w'.cell? ⟨bn, 9, none⟩ = some (.bool x.up) ∧ w'.cell? ⟨bn, 10, none⟩ = some (.int .i64 y.id) ∧ w'.cell? ⟨bn, 11, none⟩ = some (.int .i64 y.inc) ∧ w'.cell? ⟨bn, 12, none⟩ = some (.int .i64 y.load) ∧ w'.cell? ⟨bn, 13, none⟩ = some (.int .i64 y.cap.a) ∧ w'.cell? ⟨bn, 14, none⟩ = some (.int .i64 y.cap.b) ∧ w'.cell? ⟨bn, 15, none⟩ = some (.int .i64 y.cap.c) ∧ w'.cell? ⟨bn, 16, none⟩ = some (.int .i64 y.used.a) ∧ w'.cell? ⟨bn, 17, none⟩ = some (.int .i64 y.used.b) ∧ w'.cell? ⟨bn, 18, none⟩ = some (.int .i64 y.used.c) ∧ w'.cell? ⟨bn, 19, none⟩ = some (.bool y.up) ∧ w'.cell? ⟨bn, 20, none⟩ = some (.int .i64 z.id) ∧ w'.cell? ⟨bn, 21, none⟩ = some (.int .i64 z.inc) ∧ w'.cell? ⟨bn, 22, none⟩ = some (.int .i64 z.load) ∧ w'.cell? ⟨bn, 23, none⟩ = some (.int .i64 z.cap.a) ∧ w'.cell? ⟨bn, 24, none⟩ = some (.int .i64 z.cap.b) ∧ w'.cell? ⟨bn, 25, none⟩ = some (.int .i64 z.cap.c) ∧ w'.cell? ⟨bn, 26, none⟩ = some (.int .i64 z.used.a) ∧ w'.cell? ⟨bn, 27, none⟩ = some (.int .i64 z.used.b) ∧ w'.cell? ⟨bn, 28, none⟩ = some (.int .i64 z.used.c) ∧ w'.cell? ⟨bn, 29, none⟩ = some (.bool z.up) from fun w' hb => by
    have hh := (hb.block _ (lt_of_block hX)).trans hX
    exact ⟨blk_cell hh 0, blk_cell hh 1, blk_cell hh 2, blk_cell hh 3, blk_cell hh 4, blk_cell hh 5, blk_cell hh 6, blk_cell hh 7, blk_cell hh 8, blk_cell hh 9, blk_cell hh 10, blk_cell hh 11, blk_cell hh 12, blk_cell hh 13, blk_cell hh 14, blk_cell hh 15, blk_cell hh 16, blk_cell hh 17, blk_cell hh 18, blk_cell hh 19, blk_cell hh 20, blk_cell hh 21, blk_cell hh 22, blk_cell hh 23, blk_cell hh 24, blk_cell hh 25, blk_cell hh 26, blk_cell hh 27, blk_cell hh 28, blk_cell hh 29⟩)
  obtain ⟨bs, bd, l2, l3, l5⟩ := L
  have f2 := sl_get l2
  have f3 := sl_get l3
  have f5 := sl_get l5
  have v1 : IntKind.i64.wrap 1 = 1 := by decide
  have v2 : IntKind.i64.wrap 2 = 2 := by decide
  have v3 : IntKind.i64.wrap 3 = 3 := by decide
  have v4 : IntKind.i64.wrap 4 = 4 := by decide
  have m1 : (1 : Int).tmod 3 = 1 := by decide
  have m2 : (2 : Int).tmod 3 = 2 := by decide
  have m3 : (3 : Int).tmod 3 = 0 := by decide
  have m4 : (4 : Int).tmod 3 = 1 := by decide
  have HQ := Lib.hid hQ
  clear hQ hX l2 l3 l5
  conv => arg 2; whnf
  refine wp_region_mix [13, 14, 15] [16, 17, 18] (fun _ => .cells #[.int .i64 0, .int .i64 0, .int .i64 0, .int .i64 0, .int .i64 0, .int .i64 0, .int .i64 0, .int .i64 0, .int .i64 0, .bool false] 36) (fun w' => Below w.heap.size w w') (by kernel_rfl) (by decide) (by kernel_rfl) (kept_bel w) ⟨rfl, rfl, rfl, Nat.le_refl _, fun _ _ => rfl⟩ ?_ ?_
  · intro m hm o ho a
    simp only [List.mem_cons, List.not_mem_nil, or_false] at hm
    rcases hm with rfl | rfl | rfl
    all_goals
      obtain rfl := Option.some.inj ho.symm
      refine ⟨by simp [Region.wanted], fun w' hS => ?_⟩
      unfold ptrN
      go_simp
  refine readsL_of (l := [0, 1, 2, 3, 4, 5, 6, 7, 8, 9, 10, 11, 12]) (by kernel_rfl) ?_
  repeat
    refine readsL_val (v := ?_) (by rfl) (by simp [Region.wanted]) ?_ ?_
    rotate_left
    · intro w' hS
      obtain ⟨_, _, _, _, _, _, _, _, _, _, _, _, _, _, _, _, _, _, _, _, _, _, _, _, _, _, _, _, _, _⟩ := HL.out w' hS
      go_simp
      try with_reducible rfl
  refine readsL_nil (news3 (m1 := 13) (m2 := 14) (m3 := 15) (d1 := 9) (d2 := 10) (d3 := 11) ⟨by decide, by decide, by decide⟩ rfl rfl rfl ⟨by decide, by decide, by decide⟩ ?_)
  intro b1 b2 b3 w2 n12 n13 n23 g1 g2 g3 q1 q2 q3 hb
  obtain ⟨s2, s3, k1, k2, k3, kb⟩ := three_rows (ob1 := #[.int .i64 x.id, .int .i64 x.inc, .int .i64 x.load, .int .i64 x.cap.a, .int .i64 x.cap.b, .int .i64 x.cap.c, .int .i64 x.used.a, .int .i64 x.used.b, .int .i64 x.used.c, .bool x.up]) (ob2 := #[.int .i64 y.id, .int .i64 y.inc, .int .i64 y.load, .int .i64 y.cap.a, .int .i64 y.cap.b, .int .i64 y.cap.c, .int .i64 y.used.a, .int .i64 y.used.b, .int .i64 y.used.c, .bool y.up]) (ob3 := #[.int .i64 z.id, .int .i64 z.inc, .int .i64 z.load, .int .i64 z.cap.a, .int .i64 z.cap.b, .int .i64 z.cap.c, .int .i64 z.used.a, .int .i64 z.used.b, .int .i64 z.used.c, .bool z.up]) n12 n13 n23 g1 g2 g3 q1 q2 q3 hb
  have kw := ((Below.refl w.heap.size w).drew).trans hb
  refine forced_store 36 (.tmp 9) (.tmp 31) (by rfl) b1 _ #[.int .i64 x.id, .int .i64 x.inc, .int .i64 x.load, .int .i64 x.cap.a, .int .i64 x.cap.b, .int .i64 x.cap.c, .int .i64 x.used.a, .int .i64 x.used.b, .int .i64 x.used.c, .bool x.up] g1 (by go_simp) (by go_simp) (by kernel_rfl) rfl (by simp [Value.oneCell']) (rowSet_below _ kw q1) ?_
  refine forced_store 36 (.tmp 10) (.tmp 36) (by rfl) b2 _ #[.int .i64 y.id, .int .i64 y.inc, .int .i64 y.load, .int .i64 y.cap.a, .int .i64 y.cap.b, .int .i64 y.cap.c, .int .i64 y.used.a, .int .i64 y.used.b, .int .i64 y.used.c, .bool y.up] s2 (by go_simp) (by go_simp) (by kernel_rfl) rfl (by simp [Value.oneCell']) (rowSet_below _ (rowSet_below _ kw q1) q2) ?_
  refine forced_store 36 (.tmp 11) (.tmp 41) (by rfl) b3 _ #[.int .i64 z.id, .int .i64 z.inc, .int .i64 z.load, .int .i64 z.cap.a, .int .i64 z.cap.b, .int .i64 z.cap.c, .int .i64 z.used.a, .int .i64 z.used.b, .int .i64 z.used.c, .bool z.up] s3 (by go_simp) (by go_simp) (by kernel_rfl) rfl (by simp [Value.oneCell']) (rowSet_below _ (rowSet_below _ (rowSet_below _ kw q1) q2) q3) ?_
  refine forced_nil ?_
  refine HQ.out _ _ b1 b2 b3 ⟨?_, ?_, fun i hi => ?_⟩ ?_ ?_ ?_ k1 k2 k3 (((Below.refl w.heap.size w).drew).trans kb)
  · simp only [put_tmps, Array.size_setIfInBounds, bs]
  · simp only [put_defers, bd]
  · simp only [put_tmps]
    repeat rw [sl_ne _ (by omega)]
  all_goals
    simp only [put_tmps]
    repeat first | rw [sl_ne _ (by decide)] | rw [sl_eq _ (by simp only [Array.size_setIfInBounds, bs]; decide)]
theorem ro5_1 (A : Act) (w : World) (Q : Exit → Act → World → Prop) (bx bn : Nat) (x y z : Nd) (L : RF A bx bn 1)
    (hX : w.heap[bn]? = some (.cells (x.row ++ (y.row ++ z.row)).toArray 43 (0, 0)))
    (hQ : ∀ A' w' b1 b2 b3, NearR 9 A A' → sl A'.tmps 9 = .pointer (some ⟨b1, 0, none⟩) → sl A'.tmps 10 = .pointer (some ⟨b2, 0, none⟩) → sl A'.tmps 11 = .pointer (some ⟨b3, 0, none⟩) → BNod b1 y w' → BNod b2 z w' → BNod b3 x w' → Below w.heap.size w w' → Q .normal A' w') :
    Code.wp Try.prog (roR 5) Q A w := by
  have HL := Lib.hid (show ∀ w', Below w.heap.size w w' → w'.cell? ⟨bn, 0, none⟩ = some (.int .i64 x.id) ∧ w'.cell? ⟨bn, 1, none⟩ = some (.int .i64 x.inc) ∧ w'.cell? ⟨bn, 2, none⟩ = some (.int .i64 x.load) ∧ w'.cell? ⟨bn, 3, none⟩ = some (.int .i64 x.cap.a) ∧ w'.cell? ⟨bn, 4, none⟩ = some (.int .i64 x.cap.b) ∧ w'.cell? ⟨bn, 5, none⟩ = some (.int .i64 x.cap.c) ∧ w'.cell? ⟨bn, 6, none⟩ = some (.int .i64 x.used.a) ∧ w'.cell? ⟨bn, 7, none⟩ = some (.int .i64 x.used.b) ∧ w'.cell? ⟨bn, 8, none⟩ = some (.int .i64 x.used.c) ∧ w'.cell? ⟨bn, 9, none⟩ = some (.bool x.up) ∧ w'.cell? ⟨bn, 10, none⟩ = some (.int .i64 y.id) ∧ w'.cell? ⟨bn, 11, none⟩ = some (.int .i64 y.inc) ∧ w'.cell? ⟨bn, 12, none⟩ = some (.int .i64 y.load) ∧ w'.cell? ⟨bn, 13, none⟩ = some (.int .i64 y.cap.a) ∧ w'.cell? ⟨bn, 14, none⟩ = some (.int .i64 y.cap.b) ∧ w'.cell? ⟨bn, 15, none⟩ = some (.int .i64 y.cap.c) ∧ w'.cell? ⟨bn, 16, none⟩ = some (.int .i64 y.used.a) ∧ w'.cell? ⟨bn, 17, none⟩ = some (.int .i64 y.used.b) ∧ w'.cell? ⟨bn, 18, none⟩ = some (.int .i64 y.used.c) ∧ w'.cell? ⟨bn, 19, none⟩ = some (.bool y.up) ∧ w'.cell? ⟨bn, 20, none⟩ = some (.int .i64 z.id) ∧ w'.cell? ⟨bn, 21, none⟩ = some (.int .i64 z.inc) ∧ w'.cell? ⟨bn, 22, none⟩ = some (.int .i64 z.load) ∧ w'.cell? ⟨bn, 23, none⟩ = some (.int .i64 z.cap.a) ∧ w'.cell? ⟨bn, 24, none⟩ = some (.int .i64 z.cap.b) ∧ w'.cell? ⟨bn, 25, none⟩ = some (.int .i64 z.cap.c) ∧ w'.cell? ⟨bn, 26, none⟩ = some (.int .i64 z.used.a) ∧ w'.cell? ⟨bn, 27, none⟩ = some (.int .i64 z.used.b) ∧ w'.cell? ⟨bn, 28, none⟩ = some (.int .i64 z.used.c) ∧ w'.cell? ⟨bn, 29, none⟩ = some (.bool z.up) from fun w' hb => by
    have hh := (hb.block _ (lt_of_block hX)).trans hX
    exact ⟨blk_cell hh 0, blk_cell hh 1, blk_cell hh 2, blk_cell hh 3, blk_cell hh 4, blk_cell hh 5, blk_cell hh 6, blk_cell hh 7, blk_cell hh 8, blk_cell hh 9, blk_cell hh 10, blk_cell hh 11, blk_cell hh 12, blk_cell hh 13, blk_cell hh 14, blk_cell hh 15, blk_cell hh 16, blk_cell hh 17, blk_cell hh 18, blk_cell hh 19, blk_cell hh 20, blk_cell hh 21, blk_cell hh 22, blk_cell hh 23, blk_cell hh 24, blk_cell hh 25, blk_cell hh 26, blk_cell hh 27, blk_cell hh 28, blk_cell hh 29⟩)
  obtain ⟨bs, bd, l2, l3, l5⟩ := L
  have f2 := sl_get l2
  have f3 := sl_get l3
  have f5 := sl_get l5
  have v1 : IntKind.i64.wrap 1 = 1 := by decide
  have v2 : IntKind.i64.wrap 2 = 2 := by decide
  have v3 : IntKind.i64.wrap 3 = 3 := by decide
  have v4 : IntKind.i64.wrap 4 = 4 := by decide
  have m1 : (1 : Int).tmod 3 = 1 := by decide
  have m2 : (2 : Int).tmod 3 = 2 := by decide
  have m3 : (3 : Int).tmod 3 = 0 := by decide
  have m4 : (4 : Int).tmod 3 = 1 := by decide
  have HQ := Lib.hid hQ
  clear hQ hX l2 l3 l5
  conv => arg 2; whnf
  refine wp_region_mix [13, 14, 15] [16, 17, 18] (fun _ => .cells #[.int .i64 0, .int .i64 0, .int .i64 0, .int .i64 0, .int .i64 0, .int .i64 0, .int .i64 0, .int .i64 0, .int .i64 0, .bool false] 36) (fun w' => Below w.heap.size w w') (by kernel_rfl) (by decide) (by kernel_rfl) (kept_bel w) ⟨rfl, rfl, rfl, Nat.le_refl _, fun _ _ => rfl⟩ ?_ ?_
  · intro m hm o ho a
    simp only [List.mem_cons, List.not_mem_nil, or_false] at hm
    rcases hm with rfl | rfl | rfl
    all_goals
      obtain rfl := Option.some.inj ho.symm
      refine ⟨by simp [Region.wanted], fun w' hS => ?_⟩
      unfold ptrN
      go_simp
  refine readsL_of (l := [0, 1, 2, 3, 4, 5, 6, 7, 8, 9, 10, 11, 12]) (by kernel_rfl) ?_
  repeat
    refine readsL_val (v := ?_) (by rfl) (by simp [Region.wanted]) ?_ ?_
    rotate_left
    · intro w' hS
      obtain ⟨_, _, _, _, _, _, _, _, _, _, _, _, _, _, _, _, _, _, _, _, _, _, _, _, _, _, _, _, _, _⟩ := HL.out w' hS
      go_simp
      try with_reducible rfl
  refine readsL_nil (news3 (m1 := 13) (m2 := 14) (m3 := 15) (d1 := 9) (d2 := 10) (d3 := 11) ⟨by decide, by decide, by decide⟩ rfl rfl rfl ⟨by decide, by decide, by decide⟩ ?_)
  intro b1 b2 b3 w2 n12 n13 n23 g1 g2 g3 q1 q2 q3 hb
  obtain ⟨s2, s3, k1, k2, k3, kb⟩ := three_rows (ob1 := #[.int .i64 y.id, .int .i64 y.inc, .int .i64 y.load, .int .i64 y.cap.a, .int .i64 y.cap.b, .int .i64 y.cap.c, .int .i64 y.used.a, .int .i64 y.used.b, .int .i64 y.used.c, .bool y.up]) (ob2 := #[.int .i64 z.id, .int .i64 z.inc, .int .i64 z.load, .int .i64 z.cap.a, .int .i64 z.cap.b, .int .i64 z.cap.c, .int .i64 z.used.a, .int .i64 z.used.b, .int .i64 z.used.c, .bool z.up]) (ob3 := #[.int .i64 x.id, .int .i64 x.inc, .int .i64 x.load, .int .i64 x.cap.a, .int .i64 x.cap.b, .int .i64 x.cap.c, .int .i64 x.used.a, .int .i64 x.used.b, .int .i64 x.used.c, .bool x.up]) n12 n13 n23 g1 g2 g3 q1 q2 q3 hb
  have kw := ((Below.refl w.heap.size w).drew).trans hb
  refine forced_store 36 (.tmp 9) (.tmp 31) (by rfl) b1 _ #[.int .i64 y.id, .int .i64 y.inc, .int .i64 y.load, .int .i64 y.cap.a, .int .i64 y.cap.b, .int .i64 y.cap.c, .int .i64 y.used.a, .int .i64 y.used.b, .int .i64 y.used.c, .bool y.up] g1 (by go_simp) (by go_simp) (by kernel_rfl) rfl (by simp [Value.oneCell']) (rowSet_below _ kw q1) ?_
  refine forced_store 36 (.tmp 10) (.tmp 36) (by rfl) b2 _ #[.int .i64 z.id, .int .i64 z.inc, .int .i64 z.load, .int .i64 z.cap.a, .int .i64 z.cap.b, .int .i64 z.cap.c, .int .i64 z.used.a, .int .i64 z.used.b, .int .i64 z.used.c, .bool z.up] s2 (by go_simp) (by go_simp) (by kernel_rfl) rfl (by simp [Value.oneCell']) (rowSet_below _ (rowSet_below _ kw q1) q2) ?_
  refine forced_store 36 (.tmp 11) (.tmp 41) (by rfl) b3 _ #[.int .i64 x.id, .int .i64 x.inc, .int .i64 x.load, .int .i64 x.cap.a, .int .i64 x.cap.b, .int .i64 x.cap.c, .int .i64 x.used.a, .int .i64 x.used.b, .int .i64 x.used.c, .bool x.up] s3 (by go_simp) (by go_simp) (by kernel_rfl) rfl (by simp [Value.oneCell']) (rowSet_below _ (rowSet_below _ (rowSet_below _ kw q1) q2) q3) ?_
  refine forced_nil ?_
  refine HQ.out _ _ b1 b2 b3 ⟨?_, ?_, fun i hi => ?_⟩ ?_ ?_ ?_ k1 k2 k3 (((Below.refl w.heap.size w).drew).trans kb)
  · simp only [put_tmps, Array.size_setIfInBounds, bs]
  · simp only [put_defers, bd]
  · simp only [put_tmps]
    repeat rw [sl_ne _ (by omega)]
  all_goals
    simp only [put_tmps]
    repeat first | rw [sl_ne _ (by decide)] | rw [sl_eq _ (by simp only [Array.size_setIfInBounds, bs]; decide)]
theorem ro5_2 (A : Act) (w : World) (Q : Exit → Act → World → Prop) (bx bn : Nat) (x y z : Nd) (L : RF A bx bn 2)
    (hX : w.heap[bn]? = some (.cells (x.row ++ (y.row ++ z.row)).toArray 43 (0, 0)))
    (hQ : ∀ A' w' b1 b2 b3, NearR 9 A A' → sl A'.tmps 9 = .pointer (some ⟨b1, 0, none⟩) → sl A'.tmps 10 = .pointer (some ⟨b2, 0, none⟩) → sl A'.tmps 11 = .pointer (some ⟨b3, 0, none⟩) → BNod b1 z w' → BNod b2 x w' → BNod b3 y w' → Below w.heap.size w w' → Q .normal A' w') :
    Code.wp Try.prog (roR 5) Q A w := by
  have HL := Lib.hid (show ∀ w', Below w.heap.size w w' → w'.cell? ⟨bn, 0, none⟩ = some (.int .i64 x.id) ∧ w'.cell? ⟨bn, 1, none⟩ = some (.int .i64 x.inc) ∧ w'.cell? ⟨bn, 2, none⟩ = some (.int .i64 x.load) ∧ w'.cell? ⟨bn, 3, none⟩ = some (.int .i64 x.cap.a) ∧ w'.cell? ⟨bn, 4, none⟩ = some (.int .i64 x.cap.b) ∧ w'.cell? ⟨bn, 5, none⟩ = some (.int .i64 x.cap.c) ∧ w'.cell? ⟨bn, 6, none⟩ = some (.int .i64 x.used.a) ∧ w'.cell? ⟨bn, 7, none⟩ = some (.int .i64 x.used.b) ∧ w'.cell? ⟨bn, 8, none⟩ = some (.int .i64 x.used.c) ∧ w'.cell? ⟨bn, 9, none⟩ = some (.bool x.up) ∧ w'.cell? ⟨bn, 10, none⟩ = some (.int .i64 y.id) ∧ w'.cell? ⟨bn, 11, none⟩ = some (.int .i64 y.inc) ∧ w'.cell? ⟨bn, 12, none⟩ = some (.int .i64 y.load) ∧ w'.cell? ⟨bn, 13, none⟩ = some (.int .i64 y.cap.a) ∧ w'.cell? ⟨bn, 14, none⟩ = some (.int .i64 y.cap.b) ∧ w'.cell? ⟨bn, 15, none⟩ = some (.int .i64 y.cap.c) ∧ w'.cell? ⟨bn, 16, none⟩ = some (.int .i64 y.used.a) ∧ w'.cell? ⟨bn, 17, none⟩ = some (.int .i64 y.used.b) ∧ w'.cell? ⟨bn, 18, none⟩ = some (.int .i64 y.used.c) ∧ w'.cell? ⟨bn, 19, none⟩ = some (.bool y.up) ∧ w'.cell? ⟨bn, 20, none⟩ = some (.int .i64 z.id) ∧ w'.cell? ⟨bn, 21, none⟩ = some (.int .i64 z.inc) ∧ w'.cell? ⟨bn, 22, none⟩ = some (.int .i64 z.load) ∧ w'.cell? ⟨bn, 23, none⟩ = some (.int .i64 z.cap.a) ∧ w'.cell? ⟨bn, 24, none⟩ = some (.int .i64 z.cap.b) ∧ w'.cell? ⟨bn, 25, none⟩ = some (.int .i64 z.cap.c) ∧ w'.cell? ⟨bn, 26, none⟩ = some (.int .i64 z.used.a) ∧ w'.cell? ⟨bn, 27, none⟩ = some (.int .i64 z.used.b) ∧ w'.cell? ⟨bn, 28, none⟩ = some (.int .i64 z.used.c) ∧ w'.cell? ⟨bn, 29, none⟩ = some (.bool z.up) from fun w' hb => by
    have hh := (hb.block _ (lt_of_block hX)).trans hX
    exact ⟨blk_cell hh 0, blk_cell hh 1, blk_cell hh 2, blk_cell hh 3, blk_cell hh 4, blk_cell hh 5, blk_cell hh 6, blk_cell hh 7, blk_cell hh 8, blk_cell hh 9, blk_cell hh 10, blk_cell hh 11, blk_cell hh 12, blk_cell hh 13, blk_cell hh 14, blk_cell hh 15, blk_cell hh 16, blk_cell hh 17, blk_cell hh 18, blk_cell hh 19, blk_cell hh 20, blk_cell hh 21, blk_cell hh 22, blk_cell hh 23, blk_cell hh 24, blk_cell hh 25, blk_cell hh 26, blk_cell hh 27, blk_cell hh 28, blk_cell hh 29⟩)
  obtain ⟨bs, bd, l2, l3, l5⟩ := L
  have f2 := sl_get l2
  have f3 := sl_get l3
  have f5 := sl_get l5
  have v1 : IntKind.i64.wrap 1 = 1 := by decide
  have v2 : IntKind.i64.wrap 2 = 2 := by decide
  have v3 : IntKind.i64.wrap 3 = 3 := by decide
  have v4 : IntKind.i64.wrap 4 = 4 := by decide
  have m1 : (1 : Int).tmod 3 = 1 := by decide
  have m2 : (2 : Int).tmod 3 = 2 := by decide
  have m3 : (3 : Int).tmod 3 = 0 := by decide
  have m4 : (4 : Int).tmod 3 = 1 := by decide
  have HQ := Lib.hid hQ
  clear hQ hX l2 l3 l5
  conv => arg 2; whnf
  refine wp_region_mix [13, 14, 15] [16, 17, 18] (fun _ => .cells #[.int .i64 0, .int .i64 0, .int .i64 0, .int .i64 0, .int .i64 0, .int .i64 0, .int .i64 0, .int .i64 0, .int .i64 0, .bool false] 36) (fun w' => Below w.heap.size w w') (by kernel_rfl) (by decide) (by kernel_rfl) (kept_bel w) ⟨rfl, rfl, rfl, Nat.le_refl _, fun _ _ => rfl⟩ ?_ ?_
  · intro m hm o ho a
    simp only [List.mem_cons, List.not_mem_nil, or_false] at hm
    rcases hm with rfl | rfl | rfl
    all_goals
      obtain rfl := Option.some.inj ho.symm
      refine ⟨by simp [Region.wanted], fun w' hS => ?_⟩
      unfold ptrN
      go_simp
  refine readsL_of (l := [0, 1, 2, 3, 4, 5, 6, 7, 8, 9, 10, 11, 12]) (by kernel_rfl) ?_
  repeat
    refine readsL_val (v := ?_) (by rfl) (by simp [Region.wanted]) ?_ ?_
    rotate_left
    · intro w' hS
      obtain ⟨_, _, _, _, _, _, _, _, _, _, _, _, _, _, _, _, _, _, _, _, _, _, _, _, _, _, _, _, _, _⟩ := HL.out w' hS
      go_simp
      try with_reducible rfl
  refine readsL_nil (news3 (m1 := 13) (m2 := 14) (m3 := 15) (d1 := 9) (d2 := 10) (d3 := 11) ⟨by decide, by decide, by decide⟩ rfl rfl rfl ⟨by decide, by decide, by decide⟩ ?_)
  intro b1 b2 b3 w2 n12 n13 n23 g1 g2 g3 q1 q2 q3 hb
  obtain ⟨s2, s3, k1, k2, k3, kb⟩ := three_rows (ob1 := #[.int .i64 z.id, .int .i64 z.inc, .int .i64 z.load, .int .i64 z.cap.a, .int .i64 z.cap.b, .int .i64 z.cap.c, .int .i64 z.used.a, .int .i64 z.used.b, .int .i64 z.used.c, .bool z.up]) (ob2 := #[.int .i64 x.id, .int .i64 x.inc, .int .i64 x.load, .int .i64 x.cap.a, .int .i64 x.cap.b, .int .i64 x.cap.c, .int .i64 x.used.a, .int .i64 x.used.b, .int .i64 x.used.c, .bool x.up]) (ob3 := #[.int .i64 y.id, .int .i64 y.inc, .int .i64 y.load, .int .i64 y.cap.a, .int .i64 y.cap.b, .int .i64 y.cap.c, .int .i64 y.used.a, .int .i64 y.used.b, .int .i64 y.used.c, .bool y.up]) n12 n13 n23 g1 g2 g3 q1 q2 q3 hb
  have kw := ((Below.refl w.heap.size w).drew).trans hb
  refine forced_store 36 (.tmp 9) (.tmp 31) (by rfl) b1 _ #[.int .i64 z.id, .int .i64 z.inc, .int .i64 z.load, .int .i64 z.cap.a, .int .i64 z.cap.b, .int .i64 z.cap.c, .int .i64 z.used.a, .int .i64 z.used.b, .int .i64 z.used.c, .bool z.up] g1 (by go_simp) (by go_simp) (by kernel_rfl) rfl (by simp [Value.oneCell']) (rowSet_below _ kw q1) ?_
  refine forced_store 36 (.tmp 10) (.tmp 36) (by rfl) b2 _ #[.int .i64 x.id, .int .i64 x.inc, .int .i64 x.load, .int .i64 x.cap.a, .int .i64 x.cap.b, .int .i64 x.cap.c, .int .i64 x.used.a, .int .i64 x.used.b, .int .i64 x.used.c, .bool x.up] s2 (by go_simp) (by go_simp) (by kernel_rfl) rfl (by simp [Value.oneCell']) (rowSet_below _ (rowSet_below _ kw q1) q2) ?_
  refine forced_store 36 (.tmp 11) (.tmp 41) (by rfl) b3 _ #[.int .i64 y.id, .int .i64 y.inc, .int .i64 y.load, .int .i64 y.cap.a, .int .i64 y.cap.b, .int .i64 y.cap.c, .int .i64 y.used.a, .int .i64 y.used.b, .int .i64 y.used.c, .bool y.up] s3 (by go_simp) (by go_simp) (by kernel_rfl) rfl (by simp [Value.oneCell']) (rowSet_below _ (rowSet_below _ (rowSet_below _ kw q1) q2) q3) ?_
  refine forced_nil ?_
  refine HQ.out _ _ b1 b2 b3 ⟨?_, ?_, fun i hi => ?_⟩ ?_ ?_ ?_ k1 k2 k3 (((Below.refl w.heap.size w).drew).trans kb)
  · simp only [put_tmps, Array.size_setIfInBounds, bs]
  · simp only [put_defers, bd]
  · simp only [put_tmps]
    repeat rw [sl_ne _ (by omega)]
  all_goals
    simp only [put_tmps]
    repeat first | rw [sl_ne _ (by decide)] | rw [sl_eq _ (by simp only [Array.size_setIfInBounds, bs]; decide)]
theorem loadJ {S : World → Prop} {b : Nat} {x : Jb} {a : Act} {d : Option Tmp} {tt : TypeId} {ps : String} {af : Array Edge} {g : Option (Nat × Bool)} (s : Operand) (h : ∀ w, S w → BJob b x w) (hx : a.eval s = .pointer (some ⟨b, 0, none⟩)) :
    ∀ w, S w → (execOp a.eval ⟨d, .load 25 s, tt, ps, af, g⟩).run Try.prog w = .ok (.value (.agg #[.int .i64 x.id, .int .i64 x.prio, .int .i64 x.seq, .int .i64 x.phase, .int .i64 x.node, .int .i64 x.need.a, .int .i64 x.need.b, .int .i64 x.need.c])) w := by
  intro w hS
  have hu : ∃ ds, Program.underlying Try.prog 25 = some ds ∧ isRow ds = true := ⟨_, rfl, rfl⟩
  obtain ⟨ds, hu, hd⟩ := hu
  exact run_load_row 25 s b _ ds hx (h w hS) hd hu (by kernel_rfl)
theorem loadN {S : World → Prop} {b : Nat} {x : Nd} {a : Act} {d : Option Tmp} {tt : TypeId} {ps : String} {af : Array Edge} {g : Option (Nat × Bool)} (s : Operand) (h : ∀ w, S w → BNod b x w) (hx : a.eval s = .pointer (some ⟨b, 0, none⟩)) :
    ∀ w, S w → (execOp a.eval ⟨d, .load 36 s, tt, ps, af, g⟩).run Try.prog w = .ok (.value (.agg #[.int .i64 x.id, .int .i64 x.inc, .int .i64 x.load, .int .i64 x.cap.a, .int .i64 x.cap.b, .int .i64 x.cap.c, .int .i64 x.used.a, .int .i64 x.used.b, .int .i64 x.used.c, .bool x.up])) w := by
  intro w hS
  have hu : ∃ ds, Program.underlying Try.prog 36 = some ds ∧ isRow ds = true := ⟨_, rfl, rfl⟩
  obtain ⟨ds, hu, hd⟩ := hu
  exact run_load_row 36 s b _ ds hx (h w hS) hd hu (by kernel_rfl)
end Go.Proofs.Ytipmlbbbjafpiaa
