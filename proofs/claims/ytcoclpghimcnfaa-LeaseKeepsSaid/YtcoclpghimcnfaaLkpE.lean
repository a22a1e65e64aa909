/- A round of LeaseKeeps, put together of its regions, and the loop. Conditions: as stated. -/
import Derived.Test.YtcoclpghimcnfaaLkpD
import Derived.Deep.LoopGhost
namespace Go.Proofs.Ytcoclpghimcnfaa
open Go.ChangeShapes Go.WideShapes Go.ChangeAt Go.RowKit
set_option linter.unusedVariables false
set_option maxRecDepth 100000
set_option linter.unusedSimpArgs false
set_option maxHeartbeats 4000000

theorem kround (A : Act) (w wx : World) (Q : Exit → Act → World → Prop) (K : Act → World → Prop) (k n cap ba oa b : Nat) (a : ActE) (x : Sv) (hlt : k < n) (hn : n ≤ 100) (HC : ∀ w', Below wx.heap.size wx w' → AcEC ba (oa + k * 4) a w')
    (L : LD A (.slice (some ⟨ba, oa, none⟩) n cap) (ptrB b)) (f7 : sl A.tmps 7 = .int .i64 (k : Int)) (HI : OB leaO wx [] (ptrB b) x w)
    (hK : ∀ A' w' x', LD A' (.slice (some ⟨ba, oa, none⟩) n cap) (ptrB b) → sl A'.tmps 7 = .int .i64 ((k : Int) + 1) → OB leaO wx [] (ptrB b) x' w' → K A' w') :
    Code.wp Try.prog kpLp (Exit.then K Q) A w := by
  have hs := HI.lok.1
  conv => arg 2; whnf
  repeat refine wp_seq ?_
  refine k7t _ _ _ k n cap _ (ptrB b) (decide_eq_true hlt) L f7 (fun A0 n0 f35 => ?_)
  repeat first | with_reducible refine then_q ?_ | with_reducible refine inBlock_q ?_
  replace f7 := n0.at_ f7 (by omega) (by omega)
  replace L := L.keep n0 (by omega) (by omega)
  repeat refine wp_seq ?_
  refine wp_cond_true (by exact f35) ?_
  refine wp_skip ?_
  repeat first | with_reducible refine then_q ?_ | with_reducible refine inBlock_q ?_
  repeat refine wp_seq ?_
  try refine wp_block ?_
  repeat refine wp_seq ?_
  refine k9 _ _ _ wx k n cap ba oa b a x hlt hn HC L f7 HI (fun A1 w1 ga n1 f8 HI1 => ?_)
  repeat first | with_reducible refine then_q ?_ | with_reducible refine inBlock_q ?_
  replace f7 := n1.at_ f7 (by omega) (by omega)
  replace L := L.keep n1 (by omega) (by omega)
  repeat refine wp_seq ?_
  refine k10 _ _ _ wx b ga _ a L f8 x HI1 (fun A2 w2 gw n2 f9 HI2 => ?_)
  repeat first | with_reducible refine then_q ?_ | with_reducible refine inBlock_q ?_
  replace f7 := n2.at_ f7 (by omega) (by omega)
  replace f8 := n2.at_ f8 (by omega) (by omega)
  replace L := L.keep n2 (by omega) (by omega)
  repeat refine wp_seq ?_
  refine k11 _ _ _ n2.1 n2.2.1 (fun A3 n3 f10 => ?_)
  repeat first | with_reducible refine then_q ?_ | with_reducible refine inBlock_q ?_
  replace f7 := n3.at_ f7 (by omega) (by omega)
  replace f8 := n3.at_ f8 (by omega) (by omega)
  replace f9 := n3.at_ f9 (by omega) (by omega)
  replace L := L.keep n3 (by omega) (by omega)
  repeat refine wp_seq ?_
  refine k12 _ _ _ wx b ga _ a L f8 HI2.get2 (fun A4 n4 f45 => ?_)
  repeat first | with_reducible refine then_q ?_ | with_reducible refine inBlock_q ?_
  replace f7 := n4.at_ f7 (by omega) (by omega)
  replace f8 := n4.at_ f8 (by omega) (by omega)
  replace f9 := n4.at_ f9 (by omega) (by omega)
  replace f10 := n4.at_ f10 (by omega) (by omega)
  replace L := L.keep n4 (by omega) (by omega)
  repeat refine wp_seq ?_
  refine fv_cut (fun A' w' => ∃ x' f, LD A' (.slice (some ⟨ba, oa, none⟩) n cap) (ptrB b) ∧ sl A'.tmps 7 = .int .i64 (k : Int) ∧ sl A'.tmps 8 = ptrB ga ∧ sl A'.tmps 9 = ptrB gw ∧ sl A'.tmps 10 = .int .i64 f ∧ OB leaO wx [(gw, lsB x.l), (ga, acB a)] (ptrB b) x' w' ∧ KF a x.l x'.l f) ?_ ?_
  · try refine wp_block ?_
    repeat refine wp_seq ?_
    refine k13 _ _ _ _ n4.1 n4.2.1 f45 (fun A5 n5 f46 => ?_)
    repeat first | with_reducible refine then_q ?_ | with_reducible refine inBlock_q ?_
    replace f7 := n5.at_ f7 (by omega) (by omega)
    replace f8 := n5.at_ f8 (by omega) (by omega)
    replace f9 := n5.at_ f9 (by omega) (by omega)
    replace f10 := n5.at_ f10 (by omega) (by omega)
    replace f45 := n5.at_ f45 (by omega) (by omega)
    replace L := L.keep n5 (by omega) (by omega)
    by_cases hk1 : a.kind = 1
    · have e1 : (a.kind == 1) = true := by rw [hk1]; rfl
      rw [e1] at f46
      repeat refine wp_seq ?_
      refine wp_cond_true (by exact f46) ?_
      have K1 := kf_acq (s := x.s) (l := x.l) hk1
      clear f10
      repeat refine wp_seq ?_
      refine k14 _ _ _ wx b ga gw _ a L f8 x x HI2 (fun A8 w8 n8 f11 f12 HI8 => ?_)
      repeat first | with_reducible refine then_q ?_ | with_reducible refine inBlock_q ?_
      replace f7 := n8.at_ f7 (by omega) (by omega)
      replace f8 := n8.at_ f8 (by omega) (by omega)
      replace f9 := n8.at_ f9 (by omega) (by omega)
      replace L := L.keep n8 (by omega) (by omega)
      repeat refine wp_seq ?_
      refine k15 _ _ _ _ n8.1 n8.2.1 f12 (fun A9 n9 f10 => ?_)
      repeat first | with_reducible refine then_q ?_ | with_reducible refine inBlock_q ?_
      replace f7 := n9.at_ f7 (by omega) (by omega)
      replace f8 := n9.at_ f8 (by omega) (by omega)
      replace f9 := n9.at_ f9 (by omega) (by omega)
      replace f11 := n9.at_ f11 (by omega) (by omega)
      replace f12 := n9.at_ f12 (by omega) (by omega)
      replace L := L.keep n9 (by omega) (by omega)
      by_cases hg : (acqL x.s x.l a.n a.m).2.2 = 0
      · obtain ⟨u, hu1, hu2⟩ := acq_ok hs hg
        rw [hu1] at HI8 K1
        rw [hg] at f12 f10 K1
        repeat refine wp_seq ?_
        refine k16t _ _ _ wx b ga gw _ a L f8 x x.s _ u hu2 f11 f12 HI8 (fun A10 w10 n10 f87 HI10 => ?_)
        repeat first | with_reducible refine then_q ?_ | with_reducible refine inBlock_q ?_
        replace f7 := n10.at_ f7 (by omega) (by omega)
        replace f8 := n10.at_ f8 (by omega) (by omega)
        replace f9 := n10.at_ f9 (by omega) (by omega)
        replace f10 := n10.at_ f10 (by omega) (by omega)
        replace L := L.keep n10 (by omega) (by omega)
        repeat refine wp_seq ?_
        refine wp_cond_false (by exact f87) ?_
        refine wp_skip ?_
        repeat first | with_reducible refine then_q ?_ | with_reducible refine inBlock_q ?_
        exact ⟨rfl, _, _, L, f7, f8, f9, f10, HI10, K1⟩
      · repeat refine wp_seq ?_
        refine k16f _ _ _ wx b ga gw _ a L f8 _ x _ _ hg f11 f12 HI8 (fun A10 w10 n10 f87 HI10 => ?_)
        repeat first | with_reducible refine then_q ?_ | with_reducible refine inBlock_q ?_
        replace f7 := n10.at_ f7 (by omega) (by omega)
        replace f8 := n10.at_ f8 (by omega) (by omega)
        replace f9 := n10.at_ f9 (by omega) (by omega)
        replace f10 := n10.at_ f10 (by omega) (by omega)
        replace L := L.keep n10 (by omega) (by omega)
        repeat refine wp_seq ?_
        refine wp_cond_false (by exact f87) ?_
        refine wp_skip ?_
        repeat first | with_reducible refine then_q ?_ | with_reducible refine inBlock_q ?_
        exact ⟨rfl, _, _, L, f7, f8, f9, f10, HI10, K1⟩
    · have e1 : (a.kind == 1) = false := beq_false_of_ne hk1
      rw [e1] at f46
      repeat refine wp_seq ?_
      refine wp_cond_false (by exact f46) ?_
      repeat refine wp_seq ?_
      refine k18 _ _ _ _ n5.1 n5.2.1 f45 (fun A6 n6 f88 => ?_)
      repeat first | with_reducible refine then_q ?_ | with_reducible refine inBlock_q ?_
      replace f7 := n6.at_ f7 (by omega) (by omega)
      replace f8 := n6.at_ f8 (by omega) (by omega)
      replace f9 := n6.at_ f9 (by omega) (by omega)
      replace f10 := n6.at_ f10 (by omega) (by omega)
      replace f45 := n6.at_ f45 (by omega) (by omega)
      replace L := L.keep n6 (by omega) (by omega)
      by_cases hk2 : a.kind = 2
      · have e2 : (a.kind == 2) = true := by rw [hk2]; rfl
        rw [e2] at f88
        repeat refine wp_seq ?_
        refine wp_cond_true (by exact f88) ?_
        clear f10
        repeat refine wp_seq ?_
        refine k19 _ _ _ wx b ga gw _ a L f8 x x HI2 (fun A8 w8 n8 f10 HI8 => ?_)
        repeat first | with_reducible refine then_q ?_ | with_reducible refine inBlock_q ?_
        replace f7 := n8.at_ f7 (by omega) (by omega)
        replace f8 := n8.at_ f8 (by omega) (by omega)
        replace f9 := n8.at_ f9 (by omega) (by omega)
        replace L := L.keep n8 (by omega) (by omega)
        exact ⟨rfl, _, _, L, f7, f8, f9, f10, HI8, kf_ren hk2⟩
      · have e2 : (a.kind == 2) = false := beq_false_of_ne hk2
        rw [e2] at f88
        repeat refine wp_seq ?_
        refine wp_cond_false (by exact f88) ?_
        repeat refine wp_seq ?_
        refine k20 _ _ _ _ n6.1 n6.2.1 f45 (fun A7 n7 f98 => ?_)
        repeat first | with_reducible refine then_q ?_ | with_reducible refine inBlock_q ?_
        replace f7 := n7.at_ f7 (by omega) (by omega)
        replace f8 := n7.at_ f8 (by omega) (by omega)
        replace f9 := n7.at_ f9 (by omega) (by omega)
        replace f10 := n7.at_ f10 (by omega) (by omega)
        replace f45 := n7.at_ f45 (by omega) (by omega)
        replace L := L.keep n7 (by omega) (by omega)
        by_cases hk3 : a.kind = 3
        · have e3 : (a.kind == 3) = true := by rw [hk3]; rfl
          rw [e3] at f98
          repeat refine wp_seq ?_
          refine wp_cond_true (by exact f98) ?_
          clear f10
          repeat refine wp_seq ?_
          refine k21 _ _ _ wx b ga gw _ a L f8 x x HI2 (fun A8 w8 n8 f10 HI8 => ?_)
          repeat first | with_reducible refine then_q ?_ | with_reducible refine inBlock_q ?_
          replace f7 := n8.at_ f7 (by omega) (by omega)
          replace f8 := n8.at_ f8 (by omega) (by omega)
          replace f9 := n8.at_ f9 (by omega) (by omega)
          replace L := L.keep n8 (by omega) (by omega)
          exact ⟨rfl, _, _, L, f7, f8, f9, f10, HI8, kf_rel hk3⟩
        · have e3 : (a.kind == 3) = false := beq_false_of_ne hk3
          rw [e3] at f98
          repeat refine wp_seq ?_
          refine wp_cond_false (by exact f98) ?_
          try refine wp_skip ?_
          repeat first | with_reducible refine then_q ?_ | with_reducible refine inBlock_q ?_
          exact ⟨rfl, x, _, L, f7, f8, f9, f10, HI2, kf_none⟩
  · rintro Ac wc ⟨x', f, Lc, c7, c8, c9, c10, HIc, K1⟩
    clear L f7 f8 f9 f10 HI1 HI2 HI
    rename LD Ac _ _ => L
    rename sl Ac.tmps 7 = _ => f7
    rename sl Ac.tmps 8 = _ => f8
    rename sl Ac.tmps 9 = _ => f9
    rename sl Ac.tmps 10 = _ => f10
    repeat first | with_reducible refine then_q ?_ | with_reducible refine inBlock_q ?_
    repeat refine wp_seq ?_
    refine k22 _ _ _ wx b ga gw _ a L f8 x x' HIc (fun A5' w5' gn n5' f13 HI5 => ?_)
    repeat first | with_reducible refine then_q ?_ | with_reducible refine inBlock_q ?_
    replace f7 := n5'.at_ f7 (by omega) (by omega)
    replace f8 := n5'.at_ f8 (by omega) (by omega)
    replace f9 := n5'.at_ f9 (by omega) (by omega)
    replace f10 := n5'.at_ f10 (by omega) (by omega)
    replace L := L.keep n5' (by omega) (by omega)
    repeat refine wp_seq ?_
    refine k23 _ _ _ wx b ga gw gn _ a L f8 f9 f13 x.l x'.l f f10 K1 HI5.get3 HI5.get2 HI5.get (fun B0 m0 f116 => ?_)
    repeat first | with_reducible refine then_q ?_ | with_reducible refine inBlock_q ?_
    replace f7 := m0.at_ f7 (by omega) (by omega)
    replace f8 := m0.at_ f8 (by omega) (by omega)
    replace f9 := m0.at_ f9 (by omega) (by omega)
    replace f10 := m0.at_ f10 (by omega) (by omega)
    replace f13 := m0.at_ f13 (by omega) (by omega)
    replace L := L.keep m0 (by omega) (by omega)
    repeat refine wp_seq ?_
    refine wp_cond_false (by exact f116) ?_
    refine wp_skip ?_
    repeat first | with_reducible refine then_q ?_ | with_reducible refine inBlock_q ?_
    repeat refine wp_seq ?_
    refine k25 _ _ _ wx b ga gw gn _ a L f8 f9 f13 x.l x'.l f f10 K1 HI5.get3 HI5.get2 HI5.get (fun B1 m1 f165 => ?_)
    repeat first | with_reducible refine then_q ?_ | with_reducible refine inBlock_q ?_
    replace f7 := m1.at_ f7 (by omega) (by omega)
    replace f8 := m1.at_ f8 (by omega) (by omega)
    replace f9 := m1.at_ f9 (by omega) (by omega)
    replace f10 := m1.at_ f10 (by omega) (by omega)
    replace f13 := m1.at_ f13 (by omega) (by omega)
    replace L := L.keep m1 (by omega) (by omega)
    repeat refine wp_seq ?_
    refine wp_cond_false (by exact f165) ?_
    refine wp_skip ?_
    repeat first | with_reducible refine then_q ?_ | with_reducible refine inBlock_q ?_
    repeat refine wp_seq ?_
    refine k27 _ _ _ wx b ga gw gn _ a L f8 f9 f13 x.l x'.l f f10 K1 HI5.get3 HI5.get2 HI5.get (fun B2 m2 f184 => ?_)
    repeat first | with_reducible refine then_q ?_ | with_reducible refine inBlock_q ?_
    replace f7 := m2.at_ f7 (by omega) (by omega)
    replace f8 := m2.at_ f8 (by omega) (by omega)
    replace f9 := m2.at_ f9 (by omega) (by omega)
    replace f10 := m2.at_ f10 (by omega) (by omega)
    replace f13 := m2.at_ f13 (by omega) (by omega)
    replace L := L.keep m2 (by omega) (by omega)
    repeat refine wp_seq ?_
    refine wp_cond_false (by exact f184) ?_
    refine wp_skip ?_
    repeat first | with_reducible refine then_q ?_ | with_reducible refine inBlock_q ?_
    repeat refine wp_seq ?_
    refine k8 _ _ _ k (by omega) L.bs L.bd f7 (fun A9' n9' f7' => ?_)
    repeat first | with_reducible refine then_q ?_ | with_reducible refine inBlock_q ?_
    exact hK _ _ x' (L.keep n9' (by omega) (by omega)) f7' HI5.tail.tail.tail
theorem kloop (A : Act) (w wx : World) (Q : Exit → Act → World → Prop) (cap b : Nat) (x : Sv) (a0 : Option Addr) (ls : List ActE) (hn : ls.length ≤ 100) (HA : ∀ k (hk : k < ls.length), ∃ b o, a0 = some ⟨b, o, none⟩ ∧ ∀ w', Below wx.heap.size wx w' → AcEC b (o + k * 4) ls[k] w')
    (L : LD A (.slice a0 ls.length cap) (ptrB b)) (f7 : sl A.tmps 7 = .int .i64 0) (HI : OB leaO wx [] (ptrB b) x w)
    (hQ : ∀ A' w' x', LD A' (.slice a0 ls.length cap) (ptrB b) → OB leaO wx [] (ptrB b) x' w' → Q (.exit 0) A' w') : Code.wp Try.prog (.loop kpLp) Q A w := by
  refine wp_loop_ghost (fun q A w => ∃ k x, k + q = ls.length ∧ LD A (.slice a0 ls.length cap) (ptrB b) ∧ sl A.tmps 7 = .int .i64 (k : Int) ∧ OB leaO wx [] (ptrB b) x w) ls.length ⟨0, x, by omega, L, f7, HI⟩ ?_
  rintro q A w ⟨k, x, hkg, L, f7, HI⟩
  by_cases hlt : k < ls.length
  · obtain ⟨ba, oa, rfl, HC⟩ := HA k hlt
    exact kround A w wx Q _ k ls.length cap ba oa b ls[k] x hlt hn HC L f7 HI (fun A' w' x' L' g7 HI' => ⟨ls.length - (k + 1), by omega, k + 1, x', by omega, L', by rw [g7]; rfl, HI'⟩)
  · conv => arg 2; whnf
    repeat refine wp_seq ?_
    refine k7f _ _ _ k ls.length cap a0 (ptrB b) (decide_eq_false hlt) L f7 (fun A0 n0 h35 => ?_)
    repeat first | with_reducible refine then_q ?_ | with_reducible refine inBlock_q ?_
    repeat refine wp_seq ?_
    refine wp_cond_false (by exact h35) ?_
    refine wp_exit ?_
    exact hQ _ _ _ (L.keep n0 (by omega) (by omega)) HI
end Go.Proofs.Ytcoclpghimcnfaa
