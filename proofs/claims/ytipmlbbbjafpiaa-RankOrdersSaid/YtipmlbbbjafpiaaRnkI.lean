/- RankOrders, the frame a variable: a round, and the loop. Written by tools/gen-rnkh.py. Conditions: as stated. -/
import Derived.Test.YtipmlbbbjafpiaaRnkH
import Derived.Deep.LoopGhost
import Derived.Deep.DeepCutAuto
namespace Go.Proofs.Ytipmlbbbjafpiaa
open Go.ChangeShapes Go.WideShapes Go.ChangeAt Go.RowKit
set_option linter.unusedVariables false
set_option maxRecDepth 100000
set_option linter.unusedSimpArgs false
set_option maxHeartbeats 4000000

noncomputable def roL : Code := ((Try.f5.body.bind loopAt).getD .skip)
theorem rthen_n {K : Act → World → Prop} {Q : Exit → Act → World → Prop} {a : Act} {w : World} (h : K a w) : Exit.then K Q .normal a w := h
theorem rblock_n {Q : Exit → Act → World → Prop} {a : Act} {w : World} {id : Nat} (h : Q .normal a w) : Exit.inBlock id Q .normal a w := h
/-- One of three. -/
def of3 {α : Type} (x y z : α) (i : Nat) : α := if i = 0 then x else if i = 1 then y else z
theorem of3_all {α : Type} {P : α → Prop} {x y z : α} (hx : P x) (hy : P y) (hz : P z) (i : Nat) : P (of3 x y z i) := by
  unfold of3
  split
  · exact hx
  · split
    · exact hy
    · exact hz
theorem ro4 (A : Act) (w : World) (Q : Exit → Act → World → Prop) (bx bn k : Nat) (hk : k < 3) (x y z : Jb) (L : RF A bx bn (k : Int))
    (hX : w.heap[bx]? = some (.cells (x.row ++ (y.row ++ z.row)).toArray 42 (0, 0)))
    (hQ : ∀ A' w' b1 b2 b3, NearR 6 A A' → sl A'.tmps 6 = .pointer (some ⟨b1, 0, none⟩) → sl A'.tmps 7 = .pointer (some ⟨b2, 0, none⟩) → sl A'.tmps 8 = .pointer (some ⟨b3, 0, none⟩) → BJob b1 (of3 x y z k) w' → BJob b2 (of3 x y z ((k + 1) % 3)) w' → BJob b3 (of3 x y z ((k + 2) % 3)) w' → Below w.heap.size w w' → Q .normal A' w') :
    Code.wp Try.prog (roR 4) Q A w := by
  have h3 : k = 0 ∨ k = 1 ∨ k = 2 := by omega
  rcases h3 with rfl | rfl | rfl
  · exact ro4_0 A w Q bx bn x y z L hX hQ
  · exact ro4_1 A w Q bx bn x y z L hX hQ
  · exact ro4_2 A w Q bx bn x y z L hX hQ
theorem ro5 (A : Act) (w : World) (Q : Exit → Act → World → Prop) (bx bn k : Nat) (hk : k < 3) (x y z : Nd) (L : RF A bx bn (k : Int))
    (hX : w.heap[bn]? = some (.cells (x.row ++ (y.row ++ z.row)).toArray 43 (0, 0)))
    (hQ : ∀ A' w' b1 b2 b3, NearR 9 A A' → sl A'.tmps 9 = .pointer (some ⟨b1, 0, none⟩) → sl A'.tmps 10 = .pointer (some ⟨b2, 0, none⟩) → sl A'.tmps 11 = .pointer (some ⟨b3, 0, none⟩) → BNod b1 (of3 x y z k) w' → BNod b2 (of3 x y z ((k + 1) % 3)) w' → BNod b3 (of3 x y z ((k + 2) % 3)) w' → Below w.heap.size w w' → Q .normal A' w') :
    Code.wp Try.prog (roR 5) Q A w := by
  have h3 : k = 0 ∨ k = 1 ∨ k = 2 := by omega
  rcases h3 with rfl | rfl | rfl
  · exact ro5_0 A w Q bx bn x y z L hX hQ
  · exact ro5_1 A w Q bx bn x y z L hX hQ
  · exact ro5_2 A w Q bx bn x y z L hX hQ
theorem ro6 (A : Act) (w : World) (Q : Exit → Act → World → Prop) (b6 b7 b9 b10 : Nat) (x y : Jb) (p q : Nd) (bs : A.tmps.size = 143) (bd : A.defers = [])
    (f6 : sl A.tmps 6 = .pointer (some ⟨b6, 0, none⟩)) (h6 : BJob b6 x w)
    (f7 : sl A.tmps 7 = .pointer (some ⟨b7, 0, none⟩)) (h7 : BJob b7 y w)
    (f9 : sl A.tmps 9 = .pointer (some ⟨b9, 0, none⟩)) (h9 : BNod b9 p w)
    (f10 : sl A.tmps 10 = .pointer (some ⟨b10, 0, none⟩)) (h10 : BNod b10 q w)
    (hQ : ∀ A' w', NearR 12 A A' → sl A'.tmps 81 = .bool false → Below w.heap.size w w' → Q .normal A' w') :
    Code.wp Try.prog (roR 6) Q A w := by
  by_cases e1 : x.id = y.id
  · by_cases e2 : p.id = q.id
    · exact ro6_11 A w Q b6 b7 b9 b10 x y p q e1 e2 bs bd f6 h6 f7 h7 f9 h9 f10 h10 hQ
    · exact ro6_10 A w Q b6 b7 b9 b10 x y p q e1 e2 bs bd f6 h6 f7 h7 f9 h9 f10 h10 hQ
  · by_cases e2 : p.id = q.id
    · exact ro6_01 A w Q b6 b7 b9 b10 x y p q e1 e2 bs bd f6 h6 f7 h7 f9 h9 f10 h10 hQ
    · exact ro6_00 A w Q b6 b7 b9 b10 x y p q e1 e2 bs bd f6 h6 f7 h7 f9 h9 f10 h10 hQ
theorem ro8 (A : Act) (w : World) (Q : Exit → Act → World → Prop) (b6 b7 b8 b9 b10 b11 : Nat) (x y z : Jb) (p q r : Nd) (bs : A.tmps.size = 143) (bd : A.defers = [])
    (f6 : sl A.tmps 6 = .pointer (some ⟨b6, 0, none⟩)) (h6 : BJob b6 x w)
    (f7 : sl A.tmps 7 = .pointer (some ⟨b7, 0, none⟩)) (h7 : BJob b7 y w)
    (f8 : sl A.tmps 8 = .pointer (some ⟨b8, 0, none⟩)) (h8 : BJob b8 z w)
    (f9 : sl A.tmps 9 = .pointer (some ⟨b9, 0, none⟩)) (h9 : BNod b9 p w)
    (f10 : sl A.tmps 10 = .pointer (some ⟨b10, 0, none⟩)) (h10 : BNod b10 q w)
    (f11 : sl A.tmps 11 = .pointer (some ⟨b11, 0, none⟩)) (h11 : BNod b11 r w)
    (hQ : ∀ A' w', NearR 12 A A' → sl A'.tmps 111 = .bool false → Below w.heap.size w w' → Q .normal A' w') :
    Code.wp Try.prog (roR 8) Q A w := by
  cases j1 : jobB x y with
  | false =>
    cases n1 : nodeB p q with
    | false => exact ro8_f_f A w Q b6 b7 b8 b9 b10 b11 x y z p q r j1 n1 bs bd f6 h6 f7 h7 f8 h8 f9 h9 f10 h10 f11 h11 hQ
    | true =>
      cases n2 : nodeB q r with
      | false => exact ro8_f_tf A w Q b6 b7 b8 b9 b10 b11 x y z p q r j1 n1 n2 bs bd f6 h6 f7 h7 f8 h8 f9 h9 f10 h10 f11 h11 hQ
      | true => exact ro8_f_tt A w Q b6 b7 b8 b9 b10 b11 x y z p q r j1 n1 n2 bs bd f6 h6 f7 h7 f8 h8 f9 h9 f10 h10 f11 h11 hQ
  | true =>
    cases j2 : jobB y z with
    | false =>
      cases n1 : nodeB p q with
      | false => exact ro8_tf_f A w Q b6 b7 b8 b9 b10 b11 x y z p q r j1 j2 n1 bs bd f6 h6 f7 h7 f8 h8 f9 h9 f10 h10 f11 h11 hQ
      | true =>
        cases n2 : nodeB q r with
        | false => exact ro8_tf_tf A w Q b6 b7 b8 b9 b10 b11 x y z p q r j1 j2 n1 n2 bs bd f6 h6 f7 h7 f8 h8 f9 h9 f10 h10 f11 h11 hQ
        | true => exact ro8_tf_tt A w Q b6 b7 b8 b9 b10 b11 x y z p q r j1 j2 n1 n2 bs bd f6 h6 f7 h7 f8 h8 f9 h9 f10 h10 f11 h11 hQ
    | true =>
      cases n1 : nodeB p q with
      | false => exact ro8_tt_f A w Q b6 b7 b8 b9 b10 b11 x y z p q r j1 j2 n1 bs bd f6 h6 f7 h7 f8 h8 f9 h9 f10 h10 f11 h11 hQ
      | true =>
        cases n2 : nodeB q r with
        | false => exact ro8_tt_tf A w Q b6 b7 b8 b9 b10 b11 x y z p q r j1 j2 n1 n2 bs bd f6 h6 f7 h7 f8 h8 f9 h9 f10 h10 f11 h11 hQ
        | true => exact ro8_tt_tt A w Q b6 b7 b8 b9 b10 b11 x y z p q r j1 j2 n1 n2 bs bd f6 h6 f7 h7 f8 h8 f9 h9 f10 h10 f11 h11 hQ
theorem ro10 (A : Act) (w : World) (Q : Exit → Act → World → Prop) (b6 b7 b9 b10 : Nat) (x y : Jb) (p q : Nd) (hx : x.ok) (hy : y.ok) (hp : p.ok) (hq : q.ok) (bs : A.tmps.size = 143) (bd : A.defers = [])
    (f6 : sl A.tmps 6 = .pointer (some ⟨b6, 0, none⟩)) (h6 : BJob b6 x w)
    (f7 : sl A.tmps 7 = .pointer (some ⟨b7, 0, none⟩)) (h7 : BJob b7 y w)
    (f9 : sl A.tmps 9 = .pointer (some ⟨b9, 0, none⟩)) (h9 : BNod b9 p w)
    (f10 : sl A.tmps 10 = .pointer (some ⟨b10, 0, none⟩)) (h10 : BNod b10 q w)
    (hQ : ∀ A' w', NearR 12 A A' → sl A'.tmps 141 = .bool false → Below w.heap.size w w' → Q .normal A' w') :
    Code.wp Try.prog (roR 10) Q A w := by
  by_cases e1 : 0 ≤ x.prio
  · by_cases e2 : 0 ≤ y.prio
    · exact ro10_tt A w Q b6 b7 b9 b10 x y p q hx hy hp hq e1 e2 bs bd f6 h6 f7 h7 f9 h9 f10 h10 hQ
    · exact ro10_tf A w Q b6 b7 b9 b10 x y p q hx hy hp hq e1 e2 bs bd f6 h6 f7 h7 f9 h9 f10 h10 hQ
  · exact ro10_f A w Q b6 b7 b9 b10 x y p q hx hy hp hq e1 bs bd f6 h6 f7 h7 f9 h9 f10 h10 hQ
theorem ro2t (A : Act) (w : World) (Q : Exit → Act → World → Prop) (bx bn k : Nat) (dk : decide ((k : Int) < 3) = true) (L : RF A bx bn (k : Int))
    (hQ : ∀ A', NearR 12 A A' → sl A'.tmps 13 = .bool true → Q .normal A' w) : Code.wp Try.prog (roR 2) Q A w := by
  obtain ⟨bs, bd, l2, l3, l5⟩ := L
  have f5 := sl_get l5
  have HQ := Lib.hid hQ
  clear hQ l2 l3 l5
  conv => arg 2; whnf
  go_wp2_with fail
  refine HQ.out _ ⟨?_, ?_, fun i hi => ?_⟩ ?_
  · try simp only [put_tmps]
    simp only [Array.size_setIfInBounds, bs]
  · first | (simp only [put_defers, bd]; done) | exact bd | rfl
  · try simp only [put_tmps]
    repeat rw [sl_ne _ (by omega)]
  · try simp only [put_tmps]
    repeat first | rw [sl_ne _ (by decide)] | rw [sl_eq _ (by simp only [Array.size_setIfInBounds, bs]; decide)]
theorem ro2f (A : Act) (w : World) (Q : Exit → Act → World → Prop) (bx bn k : Nat) (dk : decide ((k : Int) < 3) = false) (L : RF A bx bn (k : Int))
    (hQ : ∀ A', NearR 12 A A' → sl A'.tmps 13 = .bool false → Q .normal A' w) : Code.wp Try.prog (roR 2) Q A w := by
  obtain ⟨bs, bd, l2, l3, l5⟩ := L
  have f5 := sl_get l5
  have HQ := Lib.hid hQ
  clear hQ l2 l3 l5
  conv => arg 2; whnf
  go_wp2_with fail
  refine HQ.out _ ⟨?_, ?_, fun i hi => ?_⟩ ?_
  · try simp only [put_tmps]
    simp only [Array.size_setIfInBounds, bs]
  · first | (simp only [put_defers, bd]; done) | exact bd | rfl
  · try simp only [put_tmps]
    repeat rw [sl_ne _ (by omega)]
  · try simp only [put_tmps]
    repeat first | rw [sl_ne _ (by decide)] | rw [sl_eq _ (by simp only [Array.size_setIfInBounds, bs]; decide)]
theorem ro3 (A : Act) (w : World) (Q : Exit → Act → World → Prop) (bx bn k : Nat) (hk : k < 3) (L : RF A bx bn (k : Int))
    (hQ : ∀ A', RF A' bx bn ((k + 1 : Nat) : Int) → Q .normal A' w) : Code.wp Try.prog (roR 3) Q A w := by
  obtain ⟨bs, bd, l2, l3, l5⟩ := L
  have f5 := sl_get l5
  have q3 : IntKind.i64.wrap ((k : Int) + 1) = ((k + 1 : Nat) : Int) := by rw [IntWalk.i64_in _ (by omega)]; omega
  have HQ := Lib.hid hQ
  have H2 := Lib.hid l2
  have H3 := Lib.hid l3
  clear hQ l2 l3 l5
  conv => arg 2; whnf
  go_wp2_with fail
  refine HQ.out _ ⟨?_, ?_, ?_, ?_, ?_⟩
  · try simp only [put_tmps]
    simp only [Array.size_setIfInBounds, bs]
  · first | (simp only [put_defers, bd]; done) | exact bd | rfl
  · try simp only [put_tmps]
    repeat rw [sl_ne _ (by decide)]
    exact H2.out
  · try simp only [put_tmps]
    repeat rw [sl_ne _ (by decide)]
    exact H3.out
  · try simp only [put_tmps]
    repeat first | rw [sl_ne _ (by decide)] | rw [sl_eq _ (by simp only [Array.size_setIfInBounds, bs]; decide)]
    rfl
theorem rround (A : Act) (w : World) (Q : Exit → Act → World → Prop) (K : Act → World → Prop) (bx bn k : Nat) (hk : k < 3) (x y z : Jb) (p q r : Nd) (hx : x.ok) (hy : y.ok) (hz : z.ok) (hp : p.ok) (hq : q.ok) (hr : r.ok) (L : RF A bx bn (k : Int))
    (hX : w.heap[bx]? = some (.cells (x.row ++ (y.row ++ z.row)).toArray 42 (0, 0))) (hY : w.heap[bn]? = some (.cells (p.row ++ (q.row ++ r.row)).toArray 43 (0, 0)))
    (hK : ∀ A' w', RF A' bx bn ((k + 1 : Nat) : Int) → Below w.heap.size w w' → K A' w') : Code.wp Try.prog roL (Exit.then K Q) A w := by
  conv => arg 2; whnf
  repeat refine wp_seq ?_
  refine ro2t _ _ _ bx bn k (decide_eq_true (by omega)) L (fun A0 n0 h13 => ?_)
  repeat first | with_reducible refine rthen_n ?_ | with_reducible refine rblock_n ?_
  have L0 := L.keep n0 (by omega)
  repeat refine wp_seq ?_
  refine wp_cond_true (by exact h13) ?_
  refine wp_skip ?_
  repeat first | with_reducible refine rthen_n ?_ | with_reducible refine rblock_n ?_
  repeat refine wp_seq ?_
  refine wp_block ?_
  repeat refine wp_seq ?_
  refine ro4 _ _ _ bx bn k hk x y z L0 hX (fun A1 w1 b6 b7 b8 n1 s6 s7 s8 B6 B7 B8 hb1 => ?_)
  repeat first | with_reducible refine rthen_n ?_ | with_reducible refine rblock_n ?_
  have L1 := L0.keep n1 (by omega)
  repeat refine wp_seq ?_
  refine ro5 _ _ _ bx bn k hk p q r L1 ((hb1.block _ (lt_of_block hY)).trans hY) (fun A2 w2 b9 b10 b11 n2 s9 s10 s11 B9 B10 B11 hb2 => ?_)
  repeat first | with_reducible refine rthen_n ?_ | with_reducible refine rblock_n ?_
  have L2 := L1.keep n2 (by omega)
  have c6 := n2.at_ s6 (by omega)
  have c7 := n2.at_ s7 (by omega)
  have c8 := n2.at_ s8 (by omega)
  replace B6 := B6.below hb2 B6.lt
  replace B7 := B7.below hb2 B7.lt
  replace B8 := B8.below hb2 B8.lt
  clear s6 s7 s8
  repeat refine wp_seq ?_
  refine ro6 _ _ _ b6 b7 b9 b10 _ _ _ _ L2.bs L2.bd c6 B6 c7 B7 s9 B9 s10 B10 (fun A3 w3 n3 h81 hb3 => ?_)
  repeat first | with_reducible refine rthen_n ?_ | with_reducible refine rblock_n ?_
  have L3 := L2.keep n3 (by omega)
  repeat refine wp_seq ?_
  refine wp_cond_false (by exact h81) ?_
  refine wp_skip ?_
  repeat first | with_reducible refine rthen_n ?_ | with_reducible refine rblock_n ?_
  replace c6 := n3.at_ c6 (by omega)
  replace c7 := n3.at_ c7 (by omega)
  replace c8 := n3.at_ c8 (by omega)
  replace s9 := n3.at_ s9 (by omega)
  replace s10 := n3.at_ s10 (by omega)
  replace s11 := n3.at_ s11 (by omega)
  replace B6 := B6.below hb3 B6.lt
  replace B7 := B7.below hb3 B7.lt
  replace B8 := B8.below hb3 B8.lt
  replace B9 := B9.below hb3 B9.lt
  replace B10 := B10.below hb3 B10.lt
  replace B11 := B11.below hb3 B11.lt
  repeat refine wp_seq ?_
  refine ro8 _ _ _ b6 b7 b8 b9 b10 b11 _ _ _ _ _ _ L3.bs L3.bd c6 B6 c7 B7 c8 B8 s9 B9 s10 B10 s11 B11 (fun A4 w4 n4 h111 hb4 => ?_)
  repeat first | with_reducible refine rthen_n ?_ | with_reducible refine rblock_n ?_
  have L4 := L3.keep n4 (by omega)
  repeat refine wp_seq ?_
  refine wp_cond_false (by exact h111) ?_
  refine wp_skip ?_
  repeat first | with_reducible refine rthen_n ?_ | with_reducible refine rblock_n ?_
  replace c6 := n4.at_ c6 (by omega)
  replace c7 := n4.at_ c7 (by omega)
  replace s9 := n4.at_ s9 (by omega)
  replace s10 := n4.at_ s10 (by omega)
  replace B6 := B6.below hb4 B6.lt
  replace B7 := B7.below hb4 B7.lt
  replace B9 := B9.below hb4 B9.lt
  replace B10 := B10.below hb4 B10.lt
  repeat refine wp_seq ?_
  refine ro10 _ _ _ b6 b7 b9 b10 _ _ _ _ (of3_all hx hy hz _) (of3_all hx hy hz _) (of3_all hp hq hr _) (of3_all hp hq hr _) L4.bs L4.bd c6 B6 c7 B7 s9 B9 s10 B10 (fun A5 w5 n5 h141 hb5 => ?_)
  repeat first | with_reducible refine rthen_n ?_ | with_reducible refine rblock_n ?_
  have L5 := L4.keep n5 (by omega)
  repeat refine wp_seq ?_
  refine wp_cond_false (by exact h141) ?_
  refine wp_skip ?_
  repeat first | with_reducible refine rthen_n ?_ | with_reducible refine rblock_n ?_
  repeat refine wp_seq ?_
  refine ro3 _ _ _ bx bn k hk L5 (fun A6 L6 => ?_)
  repeat first | with_reducible refine rthen_n ?_ | with_reducible refine rblock_n ?_
  have t2 := hb1.trans (hb2.mono hb1.size)
  have t3 := t2.trans (hb3.mono t2.size)
  have t4 := t3.trans (hb4.mono t3.size)
  exact hK _ _ L6 (t4.trans (hb5.mono t4.size))
theorem rloop (A : Act) (W : World) (Q : Exit → Act → World → Prop) (bx bn : Nat) (x y z : Jb) (p q r : Nd) (hx : x.ok) (hy : y.ok) (hz : z.ok) (hp : p.ok) (hq : q.ok) (hr : r.ok) (L : RF A bx bn 0)
    (hX : W.heap[bx]? = some (.cells (x.row ++ (y.row ++ z.row)).toArray 42 (0, 0))) (hY : W.heap[bn]? = some (.cells (p.row ++ (q.row ++ r.row)).toArray 43 (0, 0)))
    (hQ : ∀ A' w', RF A' bx bn 3 → Below W.heap.size W w' → Q (.exit 0) A' w') : Code.wp Try.prog (.loop roL) Q A W := by
  refine wp_loop_ghost (fun g A w => ∃ k : Nat, k + g = 3 ∧ RF A bx bn (k : Int) ∧ Below W.heap.size W w) 3 ⟨0, by omega, L, Below.refl _ _⟩ ?_
  rintro g A w ⟨k, hkg, L, hb⟩
  by_cases hlt : k < 3
  · exact rround A w Q _ bx bn k hlt x y z p q r hx hy hz hp hq hr L ((hb.block _ (lt_of_block hX)).trans hX) ((hb.block _ (lt_of_block hY)).trans hY) (fun A' w' L' hb' => ⟨3 - (k + 1), by omega, k + 1, by omega, L', hb.trans (hb'.mono hb.size)⟩)
  · obtain rfl : k = 3 := by omega
    conv => arg 2; whnf
    repeat refine wp_seq ?_
    refine ro2f _ _ _ bx bn 3 (decide_eq_false (by omega)) L (fun A0 n0 h13 => ?_)
    repeat first | with_reducible refine rthen_n ?_ | with_reducible refine rblock_n ?_
    repeat refine wp_seq ?_
    refine wp_cond_false (by exact h13) ?_
    refine wp_exit ?_
    exact hQ _ _ (L.keep n0 (by omega)) hb
end Go.Proofs.Ytipmlbbbjafpiaa
