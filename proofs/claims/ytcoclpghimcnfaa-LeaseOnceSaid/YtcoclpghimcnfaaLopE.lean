/- The loops of LeaseOnce and a round, put together of the regions. Conditions: as stated. -/
import Derived.Test.YtcoclpghimcnfaaLopD
import Derived.Deep.LoopGhost
namespace Go.Proofs.Ytcoclpghimcnfaa
open Go.ChangeShapes Go.WideShapes Go.ChangeAt Go.RowKit
set_option linter.unusedVariables false
set_option maxRecDepth 100000
set_option linter.unusedSimpArgs false
set_option maxHeartbeats 4000000

/-- What stays all through a round. -/
structure LO (A : Act) (av vs : Value) (now e d i : Int) : Prop where
  l : LD A av vs
  f7 : sl A.tmps 7 = .int .i64 now
  f8 : sl A.tmps 8 = .int .i64 e
  f9 : sl A.tmps 9 = .int .i64 d
  f10 : sl A.tmps 10 = .int .i64 i
theorem LO.keep {A A' : Act} {av vs : Value} {now e d i : Int} {n f g : Nat} (h : LO A av vs now e d i) (hn : NearD n f g A A') (h7 : 11 ≤ n) (he : 11 ≤ f) : LO A' av vs now e d i :=
  ⟨h.l.keep hn (by omega) (by omega), hn.at_ h.f7 (by omega) (by omega), hn.at_ h.f8 (by omega) (by omega), hn.at_ h.f9 (by omega) (by omega), hn.at_ h.f10 (by omega) (by omega)⟩
theorem leads_yes {l : Ls} {now k n : Int} (h : leadsL l now k n = true) : l.h = k ∧ l.e = n := by
  unfold leadsL at h; simp at h; omega
theorem on_round (A : Act) (w : World) (Q : Exit → Act → World → Prop) (K : Act → World → Prop) (wx : World) (b : Nat) (av : Value) (x : Sv) (now i k n m : Int) (L : LO A av (ptrB b) now x.l.e x.l.h i) (f17 : sl A.tmps 17 = .int .i64 m) (f18 : sl A.tmps 18 = .int .i64 k) (f19 : sl A.tmps 19 = .int .i64 n) (HI : OB leaO wx [] (ptrB b) x w) (h0 : 0 ≤ n) (hn : n ≤ x.l.e) (hm : (m = 0 ∨ m = 1 ∧ (x.l.h < k ∨ x.l.h = k ∧ x.l.e < n)))
    (hK : ∀ A' w' m', LO A' av (ptrB b) now x.l.e x.l.h i ∧ sl A'.tmps 17 = .int .i64 m' ∧ sl A'.tmps 18 = .int .i64 k ∧ sl A'.tmps 19 = .int .i64 (n + 1) ∧ OB leaO wx [] (ptrB b) x w' → (m' = 0 ∨ m' = 1 ∧ (x.l.h < k ∨ x.l.h = k ∧ x.l.e < (n + 1))) → K A' w') : Code.wp Try.prog opLn (Exit.then K Q) A w := by
  have he := HI.lok.2.2
  conv => arg 2; whnf
  repeat refine wp_seq ?_
  refine o37t _ _ _ n x.l.e (decide_eq_true hn) L.l.bs L.l.bd L.f8 f19 (fun A0 n0 f157 => ?_)
  repeat first | with_reducible refine then_q ?_ | with_reducible refine inBlock_q ?_
  replace f17 := n0.at_ f17 (by omega) (by omega)
  replace f18 := n0.at_ f18 (by omega) (by omega)
  replace f19 := n0.at_ f19 (by omega) (by omega)
  replace L := L.keep n0 (by omega) (by omega)
  repeat refine wp_seq ?_
  refine wp_cond_true (by exact f157) ?_
  refine wp_skip ?_
  repeat first | with_reducible refine then_q ?_ | with_reducible refine inBlock_q ?_
  repeat refine wp_seq ?_
  try refine wp_block ?_
  repeat refine wp_seq ?_
  refine o39 _ _ _ wx b av L.l x now k n L.f7 f18 f19 HI (fun A1 w1 n1 f164 HI1 => ?_)
  repeat first | with_reducible refine then_q ?_ | with_reducible refine inBlock_q ?_
  replace f17 := n1.at_ f17 (by omega) (by omega)
  replace f18 := n1.at_ f18 (by omega) (by omega)
  replace f19 := n1.at_ f19 (by omega) (by omega)
  replace L := L.keep n1 (by omega) (by omega)
  repeat refine wp_seq ?_
  refine fv_cut (fun A' w' => ∃ m', (LO A' av (ptrB b) now x.l.e x.l.h i ∧ sl A'.tmps 17 = .int .i64 m' ∧ sl A'.tmps 18 = .int .i64 k ∧ sl A'.tmps 19 = .int .i64 n ∧ OB leaO wx [] (ptrB b) x w') ∧ (m' = 0 ∨ m' = 1 ∧ (x.l.h < k ∨ x.l.h = k ∧ x.l.e < (n + 1)))) ?_ ?_
  · by_cases hld : leadsL x.l now k n = true
    · obtain ⟨q1, q2⟩ := leads_yes hld
      obtain rfl : m = 0 := by omega
      rw [hld] at f164
      repeat refine wp_seq ?_
      refine wp_cond_true (by exact f164) ?_
      repeat refine wp_seq ?_
      refine o40 _ _ _ 0 (by omega) (by omega) L.l.bs L.l.bd f17 (fun A2 n2 f17' => ?_)
      repeat first | with_reducible refine then_q ?_ | with_reducible refine inBlock_q ?_
      clear f17
      replace f18 := n2.at_ f18 (by omega) (by omega)
      replace f19 := n2.at_ f19 (by omega) (by omega)
      replace L := L.keep n2 (by omega) (by omega)
      repeat refine wp_seq ?_
      refine o41 _ _ _ k n L.l.bs L.l.bd (by rw [← q2]; exact L.f8) (by rw [← q1]; exact L.f9) f18 f19 (fun A3 n3 f174 => ?_)
      repeat first | with_reducible refine then_q ?_ | with_reducible refine inBlock_q ?_
      replace f17' := n3.at_ f17' (by omega) (by omega)
      replace f18 := n3.at_ f18 (by omega) (by omega)
      replace f19 := n3.at_ f19 (by omega) (by omega)
      replace L := L.keep n3 (by omega) (by omega)
      repeat refine wp_seq ?_
      refine wp_cond_false (by exact f174) ?_
      refine wp_skip ?_
      repeat first | with_reducible refine then_q ?_ | with_reducible refine inBlock_q ?_
      exact ⟨rfl, _, ⟨L, f17', f18, f19, HI1⟩, .inr ⟨rfl, .inr ⟨q1, by omega⟩⟩⟩
    · rw [(show leadsL x.l now k n = false by simpa using hld)] at f164
      repeat refine wp_seq ?_
      refine wp_cond_false (by exact f164) ?_
      try refine wp_skip ?_
      repeat first | with_reducible refine then_q ?_ | with_reducible refine inBlock_q ?_
      exact ⟨rfl, m, ⟨L, f17, f18, f19, HI1⟩, by omega⟩
  · rintro Ac wc ⟨m', ⟨Lc, c17, c18, c19, HIc⟩, hm'⟩
    clear L f17 f18 f19 HI1 HI
    rename LO Ac _ _ _ _ _ _ => L
    repeat first | with_reducible refine then_q ?_ | with_reducible refine inBlock_q ?_
    repeat refine wp_seq ?_
    refine o38 _ _ _ n h0 (by omega) L.l.bs L.l.bd c19 (fun A4 n4 f19 => ?_)
    repeat first | with_reducible refine then_q ?_ | with_reducible refine inBlock_q ?_
    exact hK _ _ m' ⟨L.keep n4 (by omega) (by omega), n4.at_ c17 (by omega) (by omega), n4.at_ c18 (by omega) (by omega), f19, HIc⟩ hm'
theorem on_loop (A : Act) (w : World) (Q : Exit → Act → World → Prop) (wx : World) (b : Nat) (av : Value) (x : Sv) (now i k m : Int) (L : LO A av (ptrB b) now x.l.e x.l.h i) (f17 : sl A.tmps 17 = .int .i64 m) (f18 : sl A.tmps 18 = .int .i64 k) (f19 : sl A.tmps 19 = .int .i64 0) (HI : OB leaO wx [] (ptrB b) x w) (hm : m = 0 ∨ m = 1 ∧ x.l.h < k)
    (hQ : ∀ A' w' m', LO A' av (ptrB b) now x.l.e x.l.h i → sl A'.tmps 17 = .int .i64 m' → sl A'.tmps 18 = .int .i64 k → OB leaO wx [] (ptrB b) x w' → (m' = 0 ∨ m' = 1 ∧ x.l.h ≤ k) → Q (.exit 5) A' w') : Code.wp Try.prog (.loop opLn) Q A w := by
  have he := HI.lok.2.2.1
  refine wp_loop_ghost (fun q A w => ∃ n m, 0 ≤ n ∧ (x.l.e + 1 - n).toNat = q ∧ (m = 0 ∨ m = 1 ∧ (x.l.h < k ∨ x.l.h = k ∧ x.l.e < n)) ∧ LO A av (ptrB b) now x.l.e x.l.h i ∧ sl A.tmps 17 = .int .i64 m ∧ sl A.tmps 18 = .int .i64 k ∧ sl A.tmps 19 = .int .i64 n ∧ OB leaO wx [] (ptrB b) x w) _ ⟨0, m, by omega, rfl, by omega, L, f17, f18, f19, HI⟩ ?_
  clear L f17 f18 f19 HI hm m A w
  rintro q A w ⟨n, m, h0, hq, hm, L, f17, f18, f19, HI⟩
  by_cases hlt : n ≤ x.l.e
  · exact on_round A w Q _ wx b av x now i k n m L f17 f18 f19 HI h0 hlt hm (fun A' w' m' h hm' => ⟨(x.l.e + 1 - (n + 1)).toNat, by omega, n + 1, m', by omega, rfl, hm', h⟩)
  · conv => arg 2; whnf
    repeat refine wp_seq ?_
    refine o37f _ _ _ n x.l.e (decide_eq_false hlt) L.l.bs L.l.bd L.f8 f19 (fun A0 n0 h157 => ?_)
    repeat first | with_reducible refine then_q ?_ | with_reducible refine inBlock_q ?_
    repeat refine wp_seq ?_
    refine wp_cond_false (by exact h157) ?_
    refine wp_exit ?_
    exact hQ _ _ m (L.keep n0 (by omega) (by omega)) (n0.at_ f17 (by omega) (by omega)) (n0.at_ f18 (by omega) (by omega)) HI (by omega)
theorem ok_loop (A : Act) (w : World) (Q : Exit → Act → World → Prop) (wx : World) (b : Nat) (av : Value) (x : Sv) (now i : Int) (L : LO A av (ptrB b) now x.l.e x.l.h i) (f17 : sl A.tmps 17 = .int .i64 0) (f18 : sl A.tmps 18 = .int .i64 0) (HI : OB leaO wx [] (ptrB b) x w)
    (hQ : ∀ A' w' m', LO A' av (ptrB b) now x.l.e x.l.h i → sl A'.tmps 17 = .int .i64 m' → OB leaO wx [] (ptrB b) x w' → m' ≤ 1 → Q (.exit 3) A' w') : Code.wp Try.prog (.loop opLk) Q A w := by
  refine wp_loop_ghost (fun q A w => ∃ (k : Nat) (m : Int), k + q = 4 ∧ (m = 0 ∨ m = 1 ∧ x.l.h < (k : Int)) ∧ LO A av (ptrB b) now x.l.e x.l.h i ∧ sl A.tmps 17 = .int .i64 m ∧ sl A.tmps 18 = .int .i64 (k : Int) ∧ OB leaO wx [] (ptrB b) x w) 4 ⟨0, 0, by omega, .inl rfl, L, f17, f18, HI⟩ ?_
  clear L f17 f18 HI A w
  rintro q A w ⟨k, m, hkq, hm, L, f17, f18, HI⟩
  by_cases hlt : k < 4
  · conv => arg 2; whnf
    repeat refine wp_seq ?_
    refine o34t _ _ _ k (decide_eq_true hlt) L.l.bs L.l.bd f18 (fun A0 n0 f152 => ?_)
    repeat first | with_reducible refine then_q ?_ | with_reducible refine inBlock_q ?_
    replace f17 := n0.at_ f17 (by omega) (by omega)
    replace f18 := n0.at_ f18 (by omega) (by omega)
    replace L := L.keep n0 (by omega) (by omega)
    repeat refine wp_seq ?_
    refine wp_cond_true (by exact f152) ?_
    refine wp_skip ?_
    repeat first | with_reducible refine then_q ?_ | with_reducible refine inBlock_q ?_
    repeat refine wp_seq ?_
    try refine wp_block ?_
    repeat refine wp_seq ?_
    refine o36 _ _ _ L.l.bs L.l.bd (fun A1 n1 f19 => ?_)
    repeat first | with_reducible refine then_q ?_ | with_reducible refine inBlock_q ?_
    replace f17 := n1.at_ f17 (by omega) (by omega)
    replace f18 := n1.at_ f18 (by omega) (by omega)
    replace L := L.keep n1 (by omega) (by omega)
    repeat refine wp_seq ?_
    try refine wp_block ?_
    repeat refine wp_seq ?_
    refine on_loop _ _ _ wx b av x now i (k : Int) m L f17 f18 f19 HI hm (fun A2 w2 m2 L2 g17 g18 HI2 hm2 => ?_)
    clear L f17 f18 f19 HI
    rename LO A2 _ _ _ _ _ _ => L
    repeat first | with_reducible refine inBlock_x ?_ | with_reducible refine then_q ?_ | with_reducible refine inBlock_q ?_
    repeat refine wp_seq ?_
    refine o35 _ _ _ (k : Int) (by omega) (by omega) L.l.bs L.l.bd g18 (fun A3 n3 f18 => ?_)
    repeat first | with_reducible refine then_q ?_ | with_reducible refine inBlock_q ?_
    exact ⟨4 - (k + 1), by omega, k + 1, m2, by omega, by omega, L.keep n3 (by omega) (by omega), n3.at_ g17 (by omega) (by omega), by rw [f18]; rfl, HI2⟩
  · conv => arg 2; whnf
    repeat refine wp_seq ?_
    refine o34f _ _ _ k (decide_eq_false hlt) L.l.bs L.l.bd f18 (fun A0 n0 h152 => ?_)
    repeat first | with_reducible refine then_q ?_ | with_reducible refine inBlock_q ?_
    repeat refine wp_seq ?_
    refine wp_cond_false (by exact h152) ?_
    refine wp_exit ?_
    exact hQ _ _ m (L.keep n0 (by omega) (by omega)) (n0.at_ f17 (by omega) (by omega)) HI (by omega)
theorem oround (A : Act) (w wx : World) (Q : Exit → Act → World → Prop) (K : Act → World → Prop) (k n cap ba oa b : Nat) (a : ActE) (x : Sv) (now : Int) (hlt : k < n) (hn : n ≤ 150) (HC : ∀ w', Below wx.heap.size wx w' → AcEC ba (oa + k * 4) a w')
    (L : LO A (.slice (some ⟨ba, oa, none⟩) n cap) (ptrB b) now x.l.e x.l.h (k : Int)) (HI : OB leaO wx [] (ptrB b) x w)
    (hK : ∀ A' w' x' now', LO A' (.slice (some ⟨ba, oa, none⟩) n cap) (ptrB b) now' x'.l.e x'.l.h ((k : Int) + 1) → OB leaO wx [] (ptrB b) x' w' → K A' w') :
    Code.wp Try.prog opLp (Exit.then K Q) A w := by
  have he := HI.lok.2.2
  conv => arg 2; whnf
  repeat refine wp_seq ?_
  refine o9t _ _ _ k n cap _ (ptrB b) (decide_eq_true hlt) L.l L.f10 (fun A0 n0 f41 => ?_)
  repeat first | with_reducible refine then_q ?_ | with_reducible refine inBlock_q ?_
  replace L := L.keep n0 (by omega) (by omega)
  repeat refine wp_seq ?_
  refine wp_cond_true (by exact f41) ?_
  refine wp_skip ?_
  repeat first | with_reducible refine then_q ?_ | with_reducible refine inBlock_q ?_
  repeat refine wp_seq ?_
  try refine wp_block ?_
  obtain ⟨LL, f7, f8, f9, f10⟩ := L
  rename LD A0 _ _ => L
  repeat refine wp_seq ?_
  refine o11 _ _ _ k n cap ba oa (ptrB b) a hlt hn (HC _ HI.bel) L f10 now f7 (fun A1 now' n1 f7' => ?_)
  repeat first | with_reducible refine then_q ?_ | with_reducible refine inBlock_q ?_
  clear f7
  rename sl A1.tmps 7 = _ => f7
  replace f8 := n1.at_ f8 (by omega) (by omega)
  replace f9 := n1.at_ f9 (by omega) (by omega)
  replace f10 := n1.at_ f10 (by omega) (by omega)
  replace L := L.keep n1 (by omega) (by omega)
  repeat refine wp_seq ?_
  refine o12 _ _ _ k n cap ba oa (ptrB b) a hlt hn (HC _ HI.bel) L f10 (fun A2 who n2 f11 => ?_)
  repeat first | with_reducible refine then_q ?_ | with_reducible refine inBlock_q ?_
  replace f7 := n2.at_ f7 (by omega) (by omega)
  replace f8 := n2.at_ f8 (by omega) (by omega)
  replace f9 := n2.at_ f9 (by omega) (by omega)
  replace f10 := n2.at_ f10 (by omega) (by omega)
  replace L := L.keep n2 (by omega) (by omega)
  repeat refine wp_seq ?_
  refine o13 _ _ _ k n cap ba oa (ptrB b) a hlt hn (HC _ HI.bel) L f10 (fun A3 n3 f62 => ?_)
  repeat first | with_reducible refine then_q ?_ | with_reducible refine inBlock_q ?_
  replace f7 := n3.at_ f7 (by omega) (by omega)
  replace f8 := n3.at_ f8 (by omega) (by omega)
  replace f9 := n3.at_ f9 (by omega) (by omega)
  replace f10 := n3.at_ f10 (by omega) (by omega)
  replace f11 := n3.at_ f11 (by omega) (by omega)
  replace L := L.keep n3 (by omega) (by omega)
  repeat refine wp_seq ?_
  refine fv_cut (fun A' w' => ∃ x', LO A' (.slice (some ⟨ba, oa, none⟩) n cap) (ptrB b) now' x'.l.e x'.l.h (k : Int) ∧ OB leaO wx [] (ptrB b) x' w') ?_ ?_
  · try refine wp_block ?_
    repeat refine wp_seq ?_
    refine o14 _ _ _ _ n3.1 n3.2.1 f62 (fun A4 n4 f63 => ?_)
    repeat first | with_reducible refine then_q ?_ | with_reducible refine inBlock_q ?_
    replace f7 := n4.at_ f7 (by omega) (by omega)
    replace f8 := n4.at_ f8 (by omega) (by omega)
    replace f9 := n4.at_ f9 (by omega) (by omega)
    replace f10 := n4.at_ f10 (by omega) (by omega)
    replace f11 := n4.at_ f11 (by omega) (by omega)
    replace f62 := n4.at_ f62 (by omega) (by omega)
    replace L := L.keep n4 (by omega) (by omega)
    by_cases hk1 : a.kind = 1
    · have e1 : (a.kind == 1) = true := by rw [hk1]; rfl
      rw [e1] at f63
      repeat refine wp_seq ?_
      refine wp_cond_true (by exact f63) ?_
      repeat refine wp_seq ?_
      refine o15 _ _ _ wx b _ L x HI (fun A5 w5 gw n5 f12 HI5 => ?_)
      repeat first | with_reducible refine then_q ?_ | with_reducible refine inBlock_q ?_
      replace f7 := n5.at_ f7 (by omega) (by omega)
      replace f8 := n5.at_ f8 (by omega) (by omega)
      replace f9 := n5.at_ f9 (by omega) (by omega)
      replace f10 := n5.at_ f10 (by omega) (by omega)
      replace f11 := n5.at_ f11 (by omega) (by omega)
      replace L := L.keep n5 (by omega) (by omega)
      repeat refine wp_seq ?_
      refine o16 _ _ _ wx b _ L x gw x.l now' who f7 f11 HI5 (fun A6 w6 n6 f13 f14 HI6 => ?_)
      repeat first | with_reducible refine then_q ?_ | with_reducible refine inBlock_q ?_
      replace f7 := n6.at_ f7 (by omega) (by omega)
      replace f8 := n6.at_ f8 (by omega) (by omega)
      replace f9 := n6.at_ f9 (by omega) (by omega)
      replace f10 := n6.at_ f10 (by omega) (by omega)
      replace f11 := n6.at_ f11 (by omega) (by omega)
      replace f12 := n6.at_ f12 (by omega) (by omega)
      replace L := L.keep n6 (by omega) (by omega)
      repeat refine wp_seq ?_
      refine o17 _ _ _ _ n6.1 n6.2.1 f14 (fun A7 n7 f75 => ?_)
      repeat first | with_reducible refine then_q ?_ | with_reducible refine inBlock_q ?_
      replace f7 := n7.at_ f7 (by omega) (by omega)
      replace f8 := n7.at_ f8 (by omega) (by omega)
      replace f9 := n7.at_ f9 (by omega) (by omega)
      replace f10 := n7.at_ f10 (by omega) (by omega)
      replace f11 := n7.at_ f11 (by omega) (by omega)
      replace f12 := n7.at_ f12 (by omega) (by omega)
      replace f13 := n7.at_ f13 (by omega) (by omega)
      replace L := L.keep n7 (by omega) (by omega)
      by_cases hg : (acqL x.s x.l now' who).2.2 = 0
      · obtain ⟨q1, q2, q3, q4⟩ := acq_yes hg
        rw [show ((acqL x.s x.l now' who).2.2 == 0) = true by rw [hg]; rfl] at f75
        repeat refine wp_seq ?_
        refine wp_cond_true (by exact f75) ?_
        repeat refine wp_seq ?_
        refine o18 _ _ _ n7.1 n7.2.1 gw x.l _ x.l.e now' he q1 q4 f7 f8 f12 f13 HI6.get (fun A8 n8 f90 => ?_)
        repeat first | with_reducible refine then_q ?_ | with_reducible refine inBlock_q ?_
        replace f7 := n8.at_ f7 (by omega) (by omega)
        replace f8 := n8.at_ f8 (by omega) (by omega)
        replace f9 := n8.at_ f9 (by omega) (by omega)
        replace f10 := n8.at_ f10 (by omega) (by omega)
        replace f11 := n8.at_ f11 (by omega) (by omega)
        replace f13 := n8.at_ f13 (by omega) (by omega)
        replace L := L.keep n8 (by omega) (by omega)
        repeat refine wp_seq ?_
        refine wp_cond_false (by exact f90) ?_
        refine wp_skip ?_
        repeat first | with_reducible refine then_q ?_ | with_reducible refine inBlock_q ?_
        repeat refine wp_seq ?_
        refine o20 _ _ _ _ n8.1 n8.2.1 f13 (fun A9 n9 f8' => ?_)
        repeat first | with_reducible refine then_q ?_ | with_reducible refine inBlock_q ?_
        clear f8
        rename sl A9.tmps 8 = _ => f8
        replace f7 := n9.at_ f7 (by omega) (by omega)
        replace f9 := n9.at_ f9 (by omega) (by omega)
        replace f10 := n9.at_ f10 (by omega) (by omega)
        replace f11 := n9.at_ f11 (by omega) (by omega)
        replace L := L.keep n9 (by omega) (by omega)
        repeat refine wp_seq ?_
        refine o21 _ _ _ _ n9.1 n9.2.1 f11 (fun B1 m1 f9' => ?_)
        repeat first | with_reducible refine then_q ?_ | with_reducible refine inBlock_q ?_
        clear f9
        rename sl B1.tmps 9 = _ => f9
        replace f7 := m1.at_ f7 (by omega) (by omega)
        replace f8 := m1.at_ f8 (by omega) (by omega)
        replace f10 := m1.at_ f10 (by omega) (by omega)
        replace L := L.keep m1 (by omega) (by omega)
        exact ⟨rfl, _, ⟨L, f7, (by rw [f8, q1, q3]), (by rw [f9, q2]), f10⟩, HI6.tail⟩
      · rw [show ((acqL x.s x.l now' who).2.2 == 0) = false by simpa using hg] at f75
        repeat refine wp_seq ?_
        refine wp_cond_false (by exact f75) ?_
        try refine wp_skip ?_
        repeat first | with_reducible refine then_q ?_ | with_reducible refine inBlock_q ?_
        rw [acq_not hg] at HI6
        exact ⟨rfl, _, ⟨L, f7, f8, f9, f10⟩, HI6.tail⟩
    · have e1 : (a.kind == 1) = false := beq_false_of_ne hk1
      rw [e1] at f63
      repeat refine wp_seq ?_
      refine wp_cond_false (by exact f63) ?_
      repeat refine wp_seq ?_
      refine o22 _ _ _ _ n4.1 n4.2.1 f62 (fun A5 n5 f93 => ?_)
      repeat first | with_reducible refine then_q ?_ | with_reducible refine inBlock_q ?_
      replace f7 := n5.at_ f7 (by omega) (by omega)
      replace f8 := n5.at_ f8 (by omega) (by omega)
      replace f9 := n5.at_ f9 (by omega) (by omega)
      replace f10 := n5.at_ f10 (by omega) (by omega)
      replace f11 := n5.at_ f11 (by omega) (by omega)
      replace f62 := n5.at_ f62 (by omega) (by omega)
      replace L := L.keep n5 (by omega) (by omega)
      by_cases hk2 : a.kind = 2
      · have e2 : (a.kind == 2) = true := by rw [hk2]; rfl
        rw [e2] at f93
        repeat refine wp_seq ?_
        refine wp_cond_true (by exact f93) ?_
        repeat refine wp_seq ?_
        refine o23 _ _ _ wx k n cap ba oa b a hlt hn (HC _ HI.bel) L f10 x now' who x.l.e f7 f8 f11 HI (fun A6 w6 n6 f15 HI6 => ?_)
        repeat first | with_reducible refine then_q ?_ | with_reducible refine inBlock_q ?_
        replace f7 := n6.at_ f7 (by omega) (by omega)
        replace f8 := n6.at_ f8 (by omega) (by omega)
        replace f9 := n6.at_ f9 (by omega) (by omega)
        replace f10 := n6.at_ f10 (by omega) (by omega)
        replace f11 := n6.at_ f11 (by omega) (by omega)
        replace L := L.keep n6 (by omega) (by omega)
        repeat refine wp_seq ?_
        refine o24 _ _ _ k n cap ba oa (ptrB b) a hlt hn (HC _ HI6.bel) L f10 who x.l.h _ f9 f11 f15 (fun h => ⟨(ren_yes h).1.symm, oneLess_ne he.1 he.2 (ren_yes h).2⟩) (fun A7 n7 f122 => ?_)
        repeat first | with_reducible refine then_q ?_ | with_reducible refine inBlock_q ?_
        replace f7 := n7.at_ f7 (by omega) (by omega)
        replace f8 := n7.at_ f8 (by omega) (by omega)
        replace f9 := n7.at_ f9 (by omega) (by omega)
        replace f10 := n7.at_ f10 (by omega) (by omega)
        replace f11 := n7.at_ f11 (by omega) (by omega)
        replace L := L.keep n7 (by omega) (by omega)
        repeat refine wp_seq ?_
        refine wp_cond_false (by exact f122) ?_
        try refine wp_skip ?_
        repeat first | with_reducible refine then_q ?_ | with_reducible refine inBlock_q ?_
        exact ⟨rfl, _, ⟨L, f7, (by rw [f8]; exact congrArg _ (ren_same (s := x.s) (l := x.l) (now := now') (who := who) (ep := oneLess x.l.e a.e)).2.symm), (by rw [f9]; exact congrArg _ (ren_same (s := x.s) (l := x.l) (now := now') (who := who) (ep := oneLess x.l.e a.e)).1.symm), f10⟩, HI6⟩
      · have e2 : (a.kind == 2) = false := beq_false_of_ne hk2
        rw [e2] at f93
        repeat refine wp_seq ?_
        refine wp_cond_false (by exact f93) ?_
        repeat refine wp_seq ?_
        refine o26 _ _ _ _ n5.1 n5.2.1 f62 (fun A6 n6 f123 => ?_)
        repeat first | with_reducible refine then_q ?_ | with_reducible refine inBlock_q ?_
        replace f7 := n6.at_ f7 (by omega) (by omega)
        replace f8 := n6.at_ f8 (by omega) (by omega)
        replace f9 := n6.at_ f9 (by omega) (by omega)
        replace f10 := n6.at_ f10 (by omega) (by omega)
        replace f11 := n6.at_ f11 (by omega) (by omega)
        replace f62 := n6.at_ f62 (by omega) (by omega)
        replace L := L.keep n6 (by omega) (by omega)
        by_cases hk3 : a.kind = 3
        · have e3 : (a.kind == 3) = true := by rw [hk3]; rfl
          rw [e3] at f123
          repeat refine wp_seq ?_
          refine wp_cond_true (by exact f123) ?_
          repeat refine wp_seq ?_
          refine o27 _ _ _ wx k n cap ba oa b a hlt hn (HC _ HI.bel) L f10 x now' who x.l.e f7 f8 f11 HI (fun B2 w6 m2 f16 HI6 => ?_)
          repeat first | with_reducible refine then_q ?_ | with_reducible refine inBlock_q ?_
          replace f7 := m2.at_ f7 (by omega) (by omega)
          replace f8 := m2.at_ f8 (by omega) (by omega)
          replace f9 := m2.at_ f9 (by omega) (by omega)
          replace f10 := m2.at_ f10 (by omega) (by omega)
          replace f11 := m2.at_ f11 (by omega) (by omega)
          replace L := L.keep m2 (by omega) (by omega)
          repeat refine wp_seq ?_
          refine o28 _ _ _ _ m2.1 m2.2.1 f16 (fun B3 m3 f138 => ?_)
          repeat first | with_reducible refine then_q ?_ | with_reducible refine inBlock_q ?_
          replace f7 := m3.at_ f7 (by omega) (by omega)
          replace f8 := m3.at_ f8 (by omega) (by omega)
          replace f9 := m3.at_ f9 (by omega) (by omega)
          replace f10 := m3.at_ f10 (by omega) (by omega)
          replace f11 := m3.at_ f11 (by omega) (by omega)
          replace L := L.keep m3 (by omega) (by omega)
          by_cases hg : (relL x.s x.l now' who (oneLess x.l.e a.e)).2 = 0
          · obtain ⟨q1, q2, q3, q4⟩ := rel_yes hg
            rw [show ((relL x.s x.l now' who (oneLess x.l.e a.e)).2 == 0) = true by rw [hg]; rfl] at f138
            repeat refine wp_seq ?_
            refine wp_cond_true (by exact f138) ?_
            repeat refine wp_seq ?_
            refine o29 _ _ _ k n cap ba oa (ptrB b) a hlt hn (HC _ HI6.bel) L f10 who x.l.h f9 f11 ⟨q1.symm, oneLess_ne he.1 he.2 q2⟩ (fun B4 m4 f150 => ?_)
            repeat first | with_reducible refine then_q ?_ | with_reducible refine inBlock_q ?_
            replace f7 := m4.at_ f7 (by omega) (by omega)
            replace f8 := m4.at_ f8 (by omega) (by omega)
            replace f9 := m4.at_ f9 (by omega) (by omega)
            replace f10 := m4.at_ f10 (by omega) (by omega)
            replace f11 := m4.at_ f11 (by omega) (by omega)
            replace L := L.keep m4 (by omega) (by omega)
            repeat refine wp_seq ?_
            refine wp_cond_false (by exact f150) ?_
            refine wp_skip ?_
            repeat first | with_reducible refine then_q ?_ | with_reducible refine inBlock_q ?_
            repeat refine wp_seq ?_
            refine o31 _ _ _ m4.1 m4.2.1 (fun B5 m5 f9' => ?_)
            repeat first | with_reducible refine then_q ?_ | with_reducible refine inBlock_q ?_
            clear f9
            rename sl B5.tmps 9 = _ => f9
            replace f7 := m5.at_ f7 (by omega) (by omega)
            replace f8 := m5.at_ f8 (by omega) (by omega)
            replace f10 := m5.at_ f10 (by omega) (by omega)
            replace L := L.keep m5 (by omega) (by omega)
            exact ⟨rfl, _, ⟨L, f7, (by rw [f8, q4]), (by rw [f9, q3]), f10⟩, HI6⟩
          · rw [show ((relL x.s x.l now' who (oneLess x.l.e a.e)).2 == 0) = false by simpa using hg] at f138
            repeat refine wp_seq ?_
            refine wp_cond_false (by exact f138) ?_
            try refine wp_skip ?_
            repeat first | with_reducible refine then_q ?_ | with_reducible refine inBlock_q ?_
            rw [rel_not hg] at HI6
            exact ⟨rfl, _, ⟨L, f7, f8, f9, f10⟩, HI6⟩
        · have e3 : (a.kind == 3) = false := beq_false_of_ne hk3
          rw [e3] at f123
          repeat refine wp_seq ?_
          refine wp_cond_false (by exact f123) ?_
          try refine wp_skip ?_
          repeat first | with_reducible refine then_q ?_ | with_reducible refine inBlock_q ?_
          exact ⟨rfl, x, ⟨L, f7, f8, f9, f10⟩, HI⟩
  · rintro Ac wc ⟨x', Lc, HIc⟩
    clear L f7 f8 f9 f10 f11 f62 HI
    rename LO Ac _ _ _ _ _ _ => L
    repeat first | with_reducible refine then_q ?_ | with_reducible refine inBlock_q ?_
    repeat refine wp_seq ?_
    refine o32 _ _ _ L.l.bs L.l.bd (fun C1 m1 f17 => ?_)
    repeat first | with_reducible refine then_q ?_ | with_reducible refine inBlock_q ?_
    replace L := L.keep m1 (by omega) (by omega)
    repeat refine wp_seq ?_
    refine o33 _ _ _ L.l.bs L.l.bd (fun C2 m2 f18 => ?_)
    repeat first | with_reducible refine then_q ?_ | with_reducible refine inBlock_q ?_
    replace f17 := m2.at_ f17 (by omega) (by omega)
    replace L := L.keep m2 (by omega) (by omega)
    repeat refine wp_seq ?_
    try refine wp_block ?_
    repeat refine wp_seq ?_
    refine ok_loop _ _ _ wx b _ x' now' (k : Int) L f17 f18 HIc (fun C3 w3 m' L3 g17 HI3 hm3 => ?_)
    clear L
    rename LO C3 _ _ _ _ _ _ => L
    repeat first | with_reducible refine inBlock_x ?_ | with_reducible refine then_q ?_ | with_reducible refine inBlock_q ?_
    repeat refine wp_seq ?_
    refine o43 _ _ _ wx b _ L.l x' m' hm3 g17 L.f8 HI3 (fun C4 w4 m4 f183 HI4 => ?_)
    repeat first | with_reducible refine then_q ?_ | with_reducible refine inBlock_q ?_
    replace L := L.keep m4 (by omega) (by omega)
    repeat refine wp_seq ?_
    refine wp_cond_false (by exact f183) ?_
    refine wp_skip ?_
    repeat first | with_reducible refine then_q ?_ | with_reducible refine inBlock_q ?_
    repeat refine wp_seq ?_
    refine o10 _ _ _ k (by omega) L.l.bs L.l.bd L.f10 (fun C5 m5 f10' => ?_)
    repeat first | with_reducible refine then_q ?_ | with_reducible refine inBlock_q ?_
    exact hK _ _ x' now' ⟨L.l.keep m5 (by omega) (by omega), m5.at_ L.f7 (by omega) (by omega), m5.at_ L.f8 (by omega) (by omega), m5.at_ L.f9 (by omega) (by omega), f10'⟩ HI4
theorem oloop (A : Act) (w wx : World) (Q : Exit → Act → World → Prop) (cap b : Nat) (x : Sv) (now : Int) (a0 : Option Addr) (ls : List ActE) (hn : ls.length ≤ 150) (HA : ∀ k (hk : k < ls.length), ∃ b o, a0 = some ⟨b, o, none⟩ ∧ ∀ w', Below wx.heap.size wx w' → AcEC b (o + k * 4) ls[k] w')
    (L : LO A (.slice a0 ls.length cap) (ptrB b) now x.l.e x.l.h 0) (HI : OB leaO wx [] (ptrB b) x w)
    (hQ : ∀ A' w' x', LD A' (.slice a0 ls.length cap) (ptrB b) → OB leaO wx [] (ptrB b) x' w' → Q (.exit 0) A' w') : Code.wp Try.prog (.loop opLp) Q A w := by
  refine wp_loop_ghost (fun q A w => ∃ (k : Nat) (x : Sv) (now : Int), k + q = ls.length ∧ LO A (.slice a0 ls.length cap) (ptrB b) now x.l.e x.l.h (k : Int) ∧ OB leaO wx [] (ptrB b) x w) ls.length ⟨0, x, now, by omega, L, HI⟩ ?_
  clear L HI x now A w
  rintro q A w ⟨k, x, now, hkg, L, HI⟩
  by_cases hlt : k < ls.length
  · obtain ⟨ba, oa, rfl, HC⟩ := HA k hlt
    exact oround A w wx Q _ k ls.length cap ba oa b ls[k] x now hlt hn HC L HI (fun A' w' x' now' L' HI' => ⟨ls.length - (k + 1), by omega, k + 1, x', now', by omega, L', HI'⟩)
  · conv => arg 2; whnf
    repeat refine wp_seq ?_
    refine o9f _ _ _ k ls.length cap a0 (ptrB b) (decide_eq_false hlt) L.l L.f10 (fun A0 n0 h41 => ?_)
    repeat first | with_reducible refine then_q ?_ | with_reducible refine inBlock_q ?_
    repeat refine wp_seq ?_
    refine wp_cond_false (by exact h41) ?_
    refine wp_exit ?_
    exact hQ _ _ _ (L.l.keep n0 (by omega) (by omega)) HI
end Go.Proofs.Ytcoclpghimcnfaa
