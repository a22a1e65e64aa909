/- A round of LeasePlays, put together of its regions, and the loop. Conditions: as stated. -/
import Derived.Test.YtcoclpghimcnfaaLplD
import Derived.Deep.LoopGhost
namespace Go.Proofs.Ytcoclpghimcnfaa
open Go.ChangeShapes Go.WideShapes Go.ChangeAt Go.RowKit
set_option linter.unusedVariables false
set_option maxRecDepth 100000
set_option linter.unusedSimpArgs false
set_option maxHeartbeats 4000000

theorem then_q {K : Act → World → Prop} {Q : Exit → Act → World → Prop} {a : Act} {w : World} (h : K a w) : Exit.then K Q .normal a w := h
theorem inBlock_q {Q : Exit → Act → World → Prop} {a : Act} {w : World} {id : Nat} (h : Q .normal a w) : Exit.inBlock id Q .normal a w := h
theorem lround (A : Act) (w wx : World) (Q : Exit → Act → World → Prop) (K : Act → World → Prop) (k n cap ba oa b gx : Nat) (a : ActE) (x : Sv) (hlt : k < n) (hn : n ≤ 100) (HC : ∀ w', Below wx.heap.size wx w' → AcEC ba (oa + k * 4) a w')
    (L : LD A (.slice (some ⟨ba, oa, none⟩) n cap) (ptrB b) gx) (f9 : sl A.tmps 9 = .int .i64 (k : Int)) (HI : L1 wx gx x (ptrB b) x w)
    (hK : ∀ A' w' x', LD A' (.slice (some ⟨ba, oa, none⟩) n cap) (ptrB b) gx → sl A'.tmps 9 = .int .i64 ((k : Int) + 1) → L1 wx gx x' (ptrB b) x' w' → K A' w') :
    Code.wp Try.prog lpLp (Exit.then K Q) A w := by
  have he := HI.lok.2.2.1
  conv => arg 2; whnf
  repeat refine wp_seq ?_
  refine l8t _ _ _ k n cap _ (ptrB b) gx (decide_eq_true hlt) L f9 (fun A0 n0 f46 => ?_)
  repeat first | with_reducible refine then_q ?_ | with_reducible refine inBlock_q ?_
  replace f9 := n0.at_ f9 (by omega) (by omega)
  replace L := L.keep n0 (by omega) (by omega)
  repeat refine wp_seq ?_
  refine wp_cond_true (by exact f46) ?_
  refine wp_skip ?_
  repeat first | with_reducible refine then_q ?_ | with_reducible refine inBlock_q ?_
  repeat refine wp_seq ?_
  try refine wp_block ?_
  repeat refine wp_seq ?_
  refine l10 _ _ _ wx k n cap ba oa b gx a x hlt hn HC L f9 HI (fun A1 w1 ga n1 f10 hne HI1 => ?_)
  repeat first | with_reducible refine then_q ?_ | with_reducible refine inBlock_q ?_
  replace f9 := n1.at_ f9 (by omega) (by omega)
  replace L := L.keep n1 (by omega) (by omega)
  repeat refine wp_seq ?_
  refine l11 _ _ _ n1.1 n1.2.1 (fun A2 n2 F => ?_)
  repeat first | with_reducible refine then_q ?_ | with_reducible refine inBlock_q ?_
  replace f9 := n2.at_ f9 (by omega) (by omega)
  replace f10 := n2.at_ f10 (by omega) (by omega)
  replace L := L.keep n2 (by omega) (by omega)
  repeat refine wp_seq ?_
  refine l12 _ _ _ wx b gx ga _ a L f10 x x HI1 (fun A3 n3 f54 => ?_)
  repeat first | with_reducible refine then_q ?_ | with_reducible refine inBlock_q ?_
  replace f9 := n3.at_ f9 (by omega) (by omega)
  replace f10 := n3.at_ f10 (by omega) (by omega)
  replace L := L.keep n3 (by omega) (by omega)
  replace F := F.keep n3 (by omega) (by omega)
  repeat refine wp_seq ?_
  refine fv_cut (fun A' w' => ∃ x' p q, LD A' (.slice (some ⟨ba, oa, none⟩) n cap) (ptrB b) gx ∧ sl A'.tmps 9 = .int .i64 (k : Int) ∧ sl A'.tmps 10 = ptrB ga ∧ FR A' p p q q ∧ L2 wx ga a gx x' (ptrB b) x' w') ?_ ?_
  · try refine wp_block ?_
    repeat refine wp_seq ?_
    refine l13 _ _ _ _ n3.1 n3.2.1 f54 (fun A4 n4 f55 => ?_)
    repeat first | with_reducible refine then_q ?_ | with_reducible refine inBlock_q ?_
    replace f9 := n4.at_ f9 (by omega) (by omega)
    replace f10 := n4.at_ f10 (by omega) (by omega)
    replace f54 := n4.at_ f54 (by omega) (by omega)
    replace L := L.keep n4 (by omega) (by omega)
    replace F := F.keep n4 (by omega) (by omega)
    by_cases hk1 : a.kind = 1
    · have e1 : (a.kind == 1) = true := by rw [hk1]; rfl
      rw [e1] at f55
      repeat refine wp_seq ?_
      refine wp_cond_true (by exact f55) ?_
      repeat refine wp_seq ?_
      refine l14 _ _ _ wx b gx ga _ a L f10 x x F HI1 (fun A7 w7 n7 F' HI7 => ?_)
      repeat first | with_reducible refine then_q ?_ | with_reducible refine inBlock_q ?_
      clear F
      rename FR _ _ _ _ _ => F
      replace f9 := n7.at_ f9 (by omega) (by omega)
      replace f10 := n7.at_ f10 (by omega) (by omega)
      replace L := L.keep n7 (by omega) (by omega)
      repeat refine wp_seq ?_
      refine l15 _ _ _ wx b gx ga _ a L f10 _ x _ _ he hne F HI7 (fun A8 w8 n8 F' HI8 => ?_)
      repeat first | with_reducible refine then_q ?_ | with_reducible refine inBlock_q ?_
      clear F
      rename FR _ _ _ _ _ => F
      replace f9 := n8.at_ f9 (by omega) (by omega)
      replace f10 := n8.at_ f10 (by omega) (by omega)
      replace L := L.keep n8 (by omega) (by omega)
      exact ⟨rfl, _, _, _, L, f9, f10, F, HI8⟩
    · have e1 : (a.kind == 1) = false := beq_false_of_ne hk1
      rw [e1] at f55
      repeat refine wp_seq ?_
      refine wp_cond_false (by exact f55) ?_
      repeat refine wp_seq ?_
      refine l16 _ _ _ _ n4.1 n4.2.1 f54 (fun A5 n5 f76 => ?_)
      repeat first | with_reducible refine then_q ?_ | with_reducible refine inBlock_q ?_
      replace f9 := n5.at_ f9 (by omega) (by omega)
      replace f10 := n5.at_ f10 (by omega) (by omega)
      replace f54 := n5.at_ f54 (by omega) (by omega)
      replace L := L.keep n5 (by omega) (by omega)
      replace F := F.keep n5 (by omega) (by omega)
      by_cases hk2 : a.kind = 2
      · have e2 : (a.kind == 2) = true := by rw [hk2]; rfl
        rw [e2] at f76
        repeat refine wp_seq ?_
        refine wp_cond_true (by exact f76) ?_
        repeat refine wp_seq ?_
        refine l17 _ _ _ wx b gx ga _ a L f10 x x F HI1 (fun A7 w7 n7 F' HI7 => ?_)
        repeat first | with_reducible refine then_q ?_ | with_reducible refine inBlock_q ?_
        clear F
        rename FR _ _ _ _ _ => F
        replace f9 := n7.at_ f9 (by omega) (by omega)
        replace f10 := n7.at_ f10 (by omega) (by omega)
        replace L := L.keep n7 (by omega) (by omega)
        repeat refine wp_seq ?_
        refine l18 _ _ _ wx b gx ga _ a L f10 _ x 0 _ hne F HI7 (fun A8 w8 n8 F' HI8 => ?_)
        repeat first | with_reducible refine then_q ?_ | with_reducible refine inBlock_q ?_
        clear F
        rename FR _ _ _ _ _ => F
        replace f9 := n8.at_ f9 (by omega) (by omega)
        replace f10 := n8.at_ f10 (by omega) (by omega)
        replace L := L.keep n8 (by omega) (by omega)
        exact ⟨rfl, _, _, _, L, f9, f10, F, HI8⟩
      · have e2 : (a.kind == 2) = false := beq_false_of_ne hk2
        rw [e2] at f76
        repeat refine wp_seq ?_
        refine wp_cond_false (by exact f76) ?_
        repeat refine wp_seq ?_
        refine l19 _ _ _ _ n5.1 n5.2.1 f54 (fun A6 n6 f97 => ?_)
        repeat first | with_reducible refine then_q ?_ | with_reducible refine inBlock_q ?_
        replace f9 := n6.at_ f9 (by omega) (by omega)
        replace f10 := n6.at_ f10 (by omega) (by omega)
        replace f54 := n6.at_ f54 (by omega) (by omega)
        replace L := L.keep n6 (by omega) (by omega)
        replace F := F.keep n6 (by omega) (by omega)
        by_cases hk3 : a.kind = 3
        · have e3 : (a.kind == 3) = true := by rw [hk3]; rfl
          rw [e3] at f97
          repeat refine wp_seq ?_
          refine wp_cond_true (by exact f97) ?_
          repeat refine wp_seq ?_
          refine l20 _ _ _ wx b gx ga _ a L f10 x x F HI1 (fun A7 w7 n7 F' HI7 => ?_)
          repeat first | with_reducible refine then_q ?_ | with_reducible refine inBlock_q ?_
          clear F
          rename FR _ _ _ _ _ => F
          replace f9 := n7.at_ f9 (by omega) (by omega)
          replace f10 := n7.at_ f10 (by omega) (by omega)
          replace L := L.keep n7 (by omega) (by omega)
          repeat refine wp_seq ?_
          refine l21 _ _ _ wx b gx ga _ a L f10 _ x 0 _ hne F HI7 (fun A8 w8 n8 F' HI8 => ?_)
          repeat first | with_reducible refine then_q ?_ | with_reducible refine inBlock_q ?_
          clear F
          rename FR _ _ _ _ _ => F
          replace f9 := n8.at_ f9 (by omega) (by omega)
          replace f10 := n8.at_ f10 (by omega) (by omega)
          replace L := L.keep n8 (by omega) (by omega)
          exact ⟨rfl, _, _, _, L, f9, f10, F, HI8⟩
        · have e3 : (a.kind == 3) = false := beq_false_of_ne hk3
          rw [e3] at f97
          repeat refine wp_seq ?_
          refine wp_cond_false (by exact f97) ?_
          try refine wp_skip ?_
          repeat first | with_reducible refine then_q ?_ | with_reducible refine inBlock_q ?_
          exact ⟨rfl, _, _, _, L, f9, f10, F, HI1⟩
  · rintro Ac wc ⟨x', p, q, Lc, c9, c10, Fc, HIc⟩
    clear L f9 f10 F HI1 HI
    rename LD Ac _ _ _ => L
    rename sl Ac.tmps 9 = _ => f9
    rename sl Ac.tmps 10 = _ => f10
    repeat first | with_reducible refine then_q ?_ | with_reducible refine inBlock_q ?_
    repeat refine wp_seq ?_
    refine l22 _ _ _ wx b gx ga _ a L f10 x' p q Fc HIc (fun A5' w5' n5' f151 HI5 => ?_)
    repeat first | with_reducible refine then_q ?_ | with_reducible refine inBlock_q ?_
    replace f9 := n5'.at_ f9 (by omega) (by omega)
    replace L := L.keep n5' (by omega) (by omega)
    repeat refine wp_seq ?_
    refine wp_cond_false (by exact f151) ?_
    refine wp_skip ?_
    repeat first | with_reducible refine then_q ?_ | with_reducible refine inBlock_q ?_
    repeat refine wp_seq ?_
    refine l9 _ _ _ k (by omega) L.bs L.bd f9 (fun A9' n9' f9' => ?_)
    repeat first | with_reducible refine then_q ?_ | with_reducible refine inBlock_q ?_
    exact hK _ _ x' (L.keep n9' (by omega) (by omega)) f9' HI5.tail
theorem lloop (A : Act) (w wx : World) (Q : Exit → Act → World → Prop) (cap b gx : Nat) (x : Sv) (a0 : Option Addr) (ls : List ActE) (hn : ls.length ≤ 100) (HA : ∀ k (hk : k < ls.length), ∃ b o, a0 = some ⟨b, o, none⟩ ∧ ∀ w', Below wx.heap.size wx w' → AcEC b (o + k * 4) ls[k] w')
    (L : LD A (.slice a0 ls.length cap) (ptrB b) gx) (f9 : sl A.tmps 9 = .int .i64 0) (HI : L1 wx gx x (ptrB b) x w)
    (hQ : ∀ A' w' x', LD A' (.slice a0 ls.length cap) (ptrB b) gx → L1 wx gx x' (ptrB b) x' w' → Q (.exit 0) A' w') : Code.wp Try.prog (.loop lpLp) Q A w := by
  refine wp_loop_ghost (fun q A w => ∃ k x, k + q = ls.length ∧ LD A (.slice a0 ls.length cap) (ptrB b) gx ∧ sl A.tmps 9 = .int .i64 (k : Int) ∧ L1 wx gx x (ptrB b) x w) ls.length ⟨0, x, by omega, L, f9, HI⟩ ?_
  rintro q A w ⟨k, x, hkg, L, f9, HI⟩
  by_cases hlt : k < ls.length
  · obtain ⟨ba, oa, rfl, HC⟩ := HA k hlt
    exact lround A w wx Q _ k ls.length cap ba oa b gx ls[k] x hlt hn HC L f9 HI (fun A' w' x' L' g9 HI' => ⟨ls.length - (k + 1), by omega, k + 1, x', by omega, L', by rw [g9]; rfl, HI'⟩)
  · conv => arg 2; whnf
    repeat refine wp_seq ?_
    refine l8f _ _ _ k ls.length cap a0 (ptrB b) gx (decide_eq_false hlt) L f9 (fun A0 n0 h46 => ?_)
    repeat first | with_reducible refine then_q ?_ | with_reducible refine inBlock_q ?_
    repeat refine wp_seq ?_
    refine wp_cond_false (by exact h46) ?_
    refine wp_exit ?_
    exact hQ _ _ _ (L.keep n0 (by omega) (by omega)) HI
end Go.Proofs.Ytcoclpghimcnfaa
