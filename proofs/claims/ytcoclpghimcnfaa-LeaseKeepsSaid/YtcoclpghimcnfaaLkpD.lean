/- The regions of LeaseKeeps, a lemma each, the frame a variable. Conditions: as stated. -/
import Derived.Test.YtcoclpghimcnfaaLkpA
namespace Go.Proofs.Ytcoclpghimcnfaa
open Go.ChangeShapes Go.WideShapes Go.ChangeAt Go.RowKit
set_option linter.unusedVariables false
set_option maxRecDepth 100000
set_option linter.unusedSimpArgs false
set_option maxHeartbeats 4000000

theorem k7t (A : Act) (w : World) (Q : Exit → Act → World → Prop) (k n cap : Nat) (a0 : Option Addr) (vs : Value) (hd : decide (k < n) = true) (L : LD A (.slice a0 n cap) vs) (f7 : sl A.tmps 7 = .int .i64 k)
    (hQ : ∀ A', NearD 14 14 14 A A' → sl A'.tmps 35 = .bool true → Q .normal A' w) :
    Code.wp Try.prog (kpR 7) Q A w := by
  have hd2 : decide ((k : Int) < (n : Int)) = true := by rw [← hd]; exact decide_eq_decide.2 (by omega)
  obtain ⟨bs, bd, l1, l5⟩ := L
  have f1 := sl_get l1
  have f5 := sl_get l5
  clear l1 l5
  replace f7 := sl_get f7
  have HQ := Lib.hid hQ
  clear hQ
  conv => arg 2; whnf
  go_wp2_with fail
  refine HQ.out _ ⟨?_, ?_, fun i hi he => ?_⟩ ?_ 
  · try simp only [put_tmps]
    simp only [Array.size_setIfInBounds, bs]
  · first | (simp only [put_defers, bd]; done) | exact bd | rfl
  · try simp only [put_tmps]
    repeat rw [sl_ne _ (by omega)]
  · try simp only [put_tmps]
    repeat first | rw [sl_ne _ (by decide)] | rw [sl_eq _ (by simp only [Array.size_setIfInBounds, bs]; decide)]
    try exact sl_of (by rw [bs]; decide) (by assumption)
theorem k7f (A : Act) (w : World) (Q : Exit → Act → World → Prop) (k n cap : Nat) (a0 : Option Addr) (vs : Value) (hd : decide (k < n) = false) (L : LD A (.slice a0 n cap) vs) (f7 : sl A.tmps 7 = .int .i64 k)
    (hQ : ∀ A', NearD 14 14 14 A A' → sl A'.tmps 35 = .bool false → Q .normal A' w) :
    Code.wp Try.prog (kpR 7) Q A w := by
  have hd2 : decide ((k : Int) < (n : Int)) = false := by rw [← hd]; exact decide_eq_decide.2 (by omega)
  obtain ⟨bs, bd, l1, l5⟩ := L
  have f1 := sl_get l1
  have f5 := sl_get l5
  clear l1 l5
  replace f7 := sl_get f7
  have HQ := Lib.hid hQ
  clear hQ
  conv => arg 2; whnf
  go_wp2_with fail
  refine HQ.out _ ⟨?_, ?_, fun i hi he => ?_⟩ ?_ 
  · try simp only [put_tmps]
    simp only [Array.size_setIfInBounds, bs]
  · first | (simp only [put_defers, bd]; done) | exact bd | rfl
  · try simp only [put_tmps]
    repeat rw [sl_ne _ (by omega)]
  · try simp only [put_tmps]
    repeat first | rw [sl_ne _ (by decide)] | rw [sl_eq _ (by simp only [Array.size_setIfInBounds, bs]; decide)]
    try exact sl_of (by rw [bs]; decide) (by assumption)
theorem k8 (A : Act) (w : World) (Q : Exit → Act → World → Prop) (k : Nat) (hk : k ≤ 200) (bs : A.tmps.size = 186) (bd : A.defers = []) (f7 : sl A.tmps 7 = .int .i64 k)
    (hQ : ∀ A', NearD 8 7 8 A A' → sl A'.tmps 7 = .int .i64 ((k : Int) + 1) → Q .normal A' w) :
    Code.wp Try.prog (kpR 8) Q A w := by
  have q3 : IntKind.i64.wrap ((k : Int) + 1) = (k : Int) + 1 := IntWalk.i64_in _ (by omega)
  replace f7 := sl_get f7
  have HQ := Lib.hid hQ
  clear hQ
  conv => arg 2; whnf
  go_wp2_with fail
  refine HQ.out _ ⟨?_, ?_, fun i hi he => ?_⟩ ?_ 
  · try simp only [put_tmps]
    simp only [Array.size_setIfInBounds, bs]
  · first | (simp only [put_defers, bd]; done) | exact bd | rfl
  · try simp only [put_tmps]
    repeat rw [sl_ne _ (by omega)]
  · try simp only [put_tmps]
    repeat first | rw [sl_ne _ (by decide)] | rw [sl_eq _ (by simp only [Array.size_setIfInBounds, bs]; decide)]
    try exact sl_of (by rw [bs]; decide) (by assumption)
theorem k9 (A : Act) (w : World) (Q : Exit → Act → World → Prop) (wx : World) (k n cap ba oa b : Nat) (a : ActE) (x : Sv) (hlt : k < n) (hn : n ≤ 100) (HC : ∀ w', Below wx.heap.size wx w' → AcEC ba (oa + k * 4) a w')
    (L : LD A (.slice (some ⟨ba, oa, none⟩) n cap) (ptrB b)) (f7 : sl A.tmps 7 = .int .i64 k) (HI : OB leaO wx [] (ptrB b) x w)
    (hQ : ∀ A' w' ga, NearD 8 8 8 A A' → sl A'.tmps 8 = ptrB ga → OB leaO wx [(ga, acB a)] (ptrB b) x w' → Q .normal A' w') :
    Code.wp Try.prog (kpR 9) Q A w := by
  have i0k : (0 : Int) ≤ (k : Int) := by omega
  have i1k : (k : Int) < (n : Int) := by omega
  have i2k : (n : Int) ≤ 100 := by omega
  obtain ⟨g0, g1, g2, g3⟩ := HC w HI.bel
  have HN := Lib.hid (HI.new (acB a))
  clear HC HI
  obtain ⟨bs, bd, l1, l5⟩ := L
  have f1 := sl_get l1
  have f5 := sl_get l5
  clear l1 l5
  replace f7 := sl_get f7
  have HQ := Lib.hid hQ
  clear hQ
  conv => arg 2; whnf
  go_wp2_with fail
  refine HQ.out _ _ _ ⟨?_, ?_, fun i hi he => ?_⟩ ?_ HN.out
  · try simp only [put_tmps]
    simp only [Array.size_setIfInBounds, bs]
  · first | (simp only [put_defers, bd]; done) | exact bd | rfl
  · try simp only [put_tmps]
    repeat rw [sl_ne _ (by omega)]
  · try simp only [put_tmps]
    repeat first | rw [sl_ne _ (by decide)] | rw [sl_eq _ (by simp only [Array.size_setIfInBounds, bs]; decide)]
    try exact sl_of (by rw [bs]; decide) (by assumption)
theorem k10 (A : Act) (w : World) (Q : Exit → Act → World → Prop) (wx : World) (b ga : Nat) (av : Value) (a : ActE) (L : LD A av (ptrB b)) (f8 : sl A.tmps 8 = ptrB ga) (x : Sv) (HI : OB leaO wx [(ga, acB a)] (ptrB b) x w)
    (hQ : ∀ A' w' gw, NearD 9 9 9 A A' → sl A'.tmps 9 = ptrB gw → OB leaO wx [(gw, lsB x.l), (ga, acB a)] (ptrB b) x w' → Q .normal A' w') :
    Code.wp Try.prog (kpR 10) Q A w := by
  have C := Lib.hid (ob_get HI)
  clear HI
  obtain ⟨bs, bd, l1, l5⟩ := L
  have f1 := sl_get l1
  have f5 := sl_get l5
  clear l1 l5
  replace f8 := sl_get f8
  have HQ := Lib.hid hQ
  clear hQ
  conv => arg 2; whnf
  go_wp2_with fail
  refine C.out.mono ?_; clear C; rintro e w2 ⟨rfl, hI⟩
  have HN := Lib.hid (hI.new (lsB x.l))
  clear hI
  go_wp2_with fail
  refine HQ.out _ _ _ ⟨?_, ?_, fun i hi he => ?_⟩ ?_ HN.out
  · try simp only [put_tmps]
    simp only [Array.size_setIfInBounds, bs]
  · first | (simp only [put_defers, bd]; done) | exact bd | rfl
  · try simp only [put_tmps]
    repeat rw [sl_ne _ (by omega)]
  · try simp only [put_tmps]
    repeat first | rw [sl_ne _ (by decide)] | rw [sl_eq _ (by simp only [Array.size_setIfInBounds, bs]; decide)]
    try exact sl_of (by rw [bs]; decide) (by assumption)
theorem k11 (A : Act) (w : World) (Q : Exit → Act → World → Prop) (bs : A.tmps.size = 186) (bd : A.defers = [])
    (hQ : ∀ A', NearD 10 10 10 A A' → sl A'.tmps 10 = .int .i64 7 → Q .normal A' w) :
    Code.wp Try.prog (kpR 11) Q A w := by
  have HQ := Lib.hid hQ
  clear hQ
  conv => arg 2; whnf
  go_wp2_with fail
  refine HQ.out _ ⟨?_, ?_, fun i hi he => ?_⟩ ?_ 
  · try simp only [put_tmps]
    simp only [Array.size_setIfInBounds, bs]
  · first | (simp only [put_defers, bd]; done) | exact bd | rfl
  · try simp only [put_tmps]
    repeat rw [sl_ne _ (by omega)]
  · try simp only [put_tmps]
    repeat first | rw [sl_ne _ (by decide)] | rw [sl_eq _ (by simp only [Array.size_setIfInBounds, bs]; decide)]
    try exact sl_of (by rw [bs]; decide) (by assumption)
theorem k12 (A : Act) (w : World) (Q : Exit → Act → World → Prop) (wx : World) (b ga : Nat) (av : Value) (a : ActE) (L : LD A av (ptrB b)) (f8 : sl A.tmps 8 = ptrB ga) (h8 : w.heap[ga]? = some (acB a))
    (hQ : ∀ A', NearD 14 14 14 A A' → sl A'.tmps 45 = .int .i64 a.kind → Q .normal A' w) :
    Code.wp Try.prog (kpR 12) Q A w := by
  obtain ⟨g0, g1, g2, g3⟩ := ac_cells h8
  clear h8
  obtain ⟨bs, bd, l1, l5⟩ := L
  have f1 := sl_get l1
  have f5 := sl_get l5
  clear l1 l5
  replace f8 := sl_get f8
  have HQ := Lib.hid hQ
  clear hQ
  conv => arg 2; whnf
  go_wp2_with fail
  refine HQ.out _ ⟨?_, ?_, fun i hi he => ?_⟩ ?_ 
  · try simp only [put_tmps]
    simp only [Array.size_setIfInBounds, bs]
  · first | (simp only [put_defers, bd]; done) | exact bd | rfl
  · try simp only [put_tmps]
    repeat rw [sl_ne _ (by omega)]
  · try simp only [put_tmps]
    repeat first | rw [sl_ne _ (by decide)] | rw [sl_eq _ (by simp only [Array.size_setIfInBounds, bs]; decide)]
    try exact sl_of (by rw [bs]; decide) (by assumption)
theorem k13 (A : Act) (w : World) (Q : Exit → Act → World → Prop) (kd : Int) (bs : A.tmps.size = 186) (bd : A.defers = []) (f45 : sl A.tmps 45 = .int .i64 kd)
    (hQ : ∀ A', NearD 46 46 46 A A' → sl A'.tmps 46 = .bool (kd == 1) → Q .normal A' w) :
    Code.wp Try.prog (kpR 13) Q A w := by
  replace f45 := sl_get f45
  have HQ := Lib.hid hQ
  clear hQ
  conv => arg 2; whnf
  go_wp2_with fail
  refine HQ.out _ ⟨?_, ?_, fun i hi he => ?_⟩ ?_ 
  · try simp only [put_tmps]
    simp only [Array.size_setIfInBounds, bs]
  · first | (simp only [put_defers, bd]; done) | exact bd | rfl
  · try simp only [put_tmps]
    repeat rw [sl_ne _ (by omega)]
  · try simp only [put_tmps]
    repeat first | rw [sl_ne _ (by decide)] | rw [sl_eq _ (by simp only [Array.size_setIfInBounds, bs]; decide)]
    try exact sl_of (by rw [bs]; decide) (by assumption)
theorem k18 (A : Act) (w : World) (Q : Exit → Act → World → Prop) (kd : Int) (bs : A.tmps.size = 186) (bd : A.defers = []) (f45 : sl A.tmps 45 = .int .i64 kd)
    (hQ : ∀ A', NearD 46 46 46 A A' → sl A'.tmps 88 = .bool (kd == 2) → Q .normal A' w) :
    Code.wp Try.prog (kpR 18) Q A w := by
  replace f45 := sl_get f45
  have HQ := Lib.hid hQ
  clear hQ
  conv => arg 2; whnf
  go_wp2_with fail
  refine HQ.out _ ⟨?_, ?_, fun i hi he => ?_⟩ ?_ 
  · try simp only [put_tmps]
    simp only [Array.size_setIfInBounds, bs]
  · first | (simp only [put_defers, bd]; done) | exact bd | rfl
  · try simp only [put_tmps]
    repeat rw [sl_ne _ (by omega)]
  · try simp only [put_tmps]
    repeat first | rw [sl_ne _ (by decide)] | rw [sl_eq _ (by simp only [Array.size_setIfInBounds, bs]; decide)]
    try exact sl_of (by rw [bs]; decide) (by assumption)
theorem k20 (A : Act) (w : World) (Q : Exit → Act → World → Prop) (kd : Int) (bs : A.tmps.size = 186) (bd : A.defers = []) (f45 : sl A.tmps 45 = .int .i64 kd)
    (hQ : ∀ A', NearD 46 46 46 A A' → sl A'.tmps 98 = .bool (kd == 3) → Q .normal A' w) :
    Code.wp Try.prog (kpR 20) Q A w := by
  replace f45 := sl_get f45
  have HQ := Lib.hid hQ
  clear hQ
  conv => arg 2; whnf
  go_wp2_with fail
  refine HQ.out _ ⟨?_, ?_, fun i hi he => ?_⟩ ?_ 
  · try simp only [put_tmps]
    simp only [Array.size_setIfInBounds, bs]
  · first | (simp only [put_defers, bd]; done) | exact bd | rfl
  · try simp only [put_tmps]
    repeat rw [sl_ne _ (by omega)]
  · try simp only [put_tmps]
    repeat first | rw [sl_ne _ (by decide)] | rw [sl_eq _ (by simp only [Array.size_setIfInBounds, bs]; decide)]
    try exact sl_of (by rw [bs]; decide) (by assumption)
theorem k14 (A : Act) (w : World) (Q : Exit → Act → World → Prop) (wx : World) (b ga gw : Nat) (av : Value) (a : ActE) (L : LD A av (ptrB b)) (f8 : sl A.tmps 8 = ptrB ga) (x y : Sv) (HI : OB leaO wx [(gw, lsB y.l), (ga, acB a)] (ptrB b) x w)
    (hQ : ∀ A' w', NearD 46 11 13 A A' → sl A'.tmps 11 = .int .i64 (acqL x.s x.l a.n a.m).2.1 → sl A'.tmps 12 = .int .i64 (acqL x.s x.l a.n a.m).2.2 → OB leaO wx [(gw, lsB y.l), (ga, acB a)] (ptrB b) ⟨x.s, (acqL x.s x.l a.n a.m).1⟩ w' → Q .normal A' w') :
    Code.wp Try.prog (kpR 14) Q A w := by
  have C := Lib.hid (ob_acq a.n a.m HI)
  generalize acqL x.s x.l a.n a.m = r at *
  obtain ⟨g0, g1, g2, g3⟩ := ac_cells HI.get2
  clear HI
  obtain ⟨bs, bd, l1, l5⟩ := L
  have f1 := sl_get l1
  have f5 := sl_get l5
  clear l1 l5
  replace f8 := sl_get f8
  have HQ := Lib.hid hQ
  clear hQ
  conv => arg 2; whnf
  go_wp2_with fail
  refine C.out.mono ?_; clear g0 g1 g2 g3 C; rintro e w2 ⟨rfl, hI⟩
  have HI2 := Lib.hid hI
  clear hI
  go_wp2_with fail
  refine HQ.out _ _ ⟨?_, ?_, fun i hi he => ?_⟩ ?_ ?_ HI2.out
  · try simp only [put_tmps]
    simp only [Array.size_setIfInBounds, bs]
  · first | (simp only [put_defers, bd]; done) | exact bd | rfl
  · try simp only [put_tmps]
    repeat rw [sl_ne _ (by omega)]
  · try simp only [put_tmps]
    repeat first | rw [sl_ne _ (by decide)] | rw [sl_eq _ (by simp only [Array.size_setIfInBounds, bs]; decide)]
    try exact sl_of (by rw [bs]; decide) (by assumption)
  · try simp only [put_tmps]
    repeat first | rw [sl_ne _ (by decide)] | rw [sl_eq _ (by simp only [Array.size_setIfInBounds, bs]; decide)]
    try exact sl_of (by rw [bs]; decide) (by assumption)
theorem k15 (A : Act) (w : World) (Q : Exit → Act → World → Prop) (g : Int) (bs : A.tmps.size = 186) (bd : A.defers = []) (f12 : sl A.tmps 12 = .int .i64 g)
    (hQ : ∀ A', NearD 46 10 11 A A' → sl A'.tmps 10 = .int .i64 g → Q .normal A' w) :
    Code.wp Try.prog (kpR 15) Q A w := by
  replace f12 := sl_get f12
  have HQ := Lib.hid hQ
  clear hQ
  conv => arg 2; whnf
  go_wp2_with fail
  refine HQ.out _ ⟨?_, ?_, fun i hi he => ?_⟩ ?_ 
  · try simp only [put_tmps]
    simp only [Array.size_setIfInBounds, bs]
  · first | (simp only [put_defers, bd]; done) | exact bd | rfl
  · try simp only [put_tmps]
    repeat rw [sl_ne _ (by omega)]
  · try simp only [put_tmps]
    repeat first | rw [sl_ne _ (by decide)] | rw [sl_eq _ (by simp only [Array.size_setIfInBounds, bs]; decide)]
    try exact sl_of (by rw [bs]; decide) (by assumption)
theorem k19 (A : Act) (w : World) (Q : Exit → Act → World → Prop) (wx : World) (b ga gw : Nat) (av : Value) (a : ActE) (L : LD A av (ptrB b)) (f8 : sl A.tmps 8 = ptrB ga) (x y : Sv) (HI : OB leaO wx [(gw, lsB y.l), (ga, acB a)] (ptrB b) x w)
    (hQ : ∀ A' w', NearD 46 10 11 A A' → sl A'.tmps 10 = .int .i64 (renL x.s x.l a.n a.m a.e).2 → OB leaO wx [(gw, lsB y.l), (ga, acB a)] (ptrB b) ⟨x.s, (renL x.s x.l a.n a.m a.e).1⟩ w' → Q .normal A' w') :
    Code.wp Try.prog (kpR 19) Q A w := by
  have C := Lib.hid (ob_ren a.n a.m a.e HI)
  generalize renL x.s x.l a.n a.m a.e = r at *
  obtain ⟨g0, g1, g2, g3⟩ := ac_cells HI.get2
  clear HI
  obtain ⟨bs, bd, l1, l5⟩ := L
  have f1 := sl_get l1
  have f5 := sl_get l5
  clear l1 l5
  replace f8 := sl_get f8
  have HQ := Lib.hid hQ
  clear hQ
  conv => arg 2; whnf
  go_wp2_with fail
  refine C.out.mono ?_; clear g0 g1 g2 g3 C; rintro e w2 ⟨rfl, hI⟩
  have HI2 := Lib.hid hI
  clear hI
  go_wp2_with fail
  refine HQ.out _ _ ⟨?_, ?_, fun i hi he => ?_⟩ ?_ HI2.out
  · try simp only [put_tmps]
    simp only [Array.size_setIfInBounds, bs]
  · first | (simp only [put_defers, bd]; done) | exact bd | rfl
  · try simp only [put_tmps]
    repeat rw [sl_ne _ (by omega)]
  · try simp only [put_tmps]
    repeat first | rw [sl_ne _ (by decide)] | rw [sl_eq _ (by simp only [Array.size_setIfInBounds, bs]; decide)]
    try exact sl_of (by rw [bs]; decide) (by assumption)
theorem k21 (A : Act) (w : World) (Q : Exit → Act → World → Prop) (wx : World) (b ga gw : Nat) (av : Value) (a : ActE) (L : LD A av (ptrB b)) (f8 : sl A.tmps 8 = ptrB ga) (x y : Sv) (HI : OB leaO wx [(gw, lsB y.l), (ga, acB a)] (ptrB b) x w)
    (hQ : ∀ A' w', NearD 46 10 11 A A' → sl A'.tmps 10 = .int .i64 (relL x.s x.l a.n a.m a.e).2 → OB leaO wx [(gw, lsB y.l), (ga, acB a)] (ptrB b) ⟨x.s, (relL x.s x.l a.n a.m a.e).1⟩ w' → Q .normal A' w') :
    Code.wp Try.prog (kpR 21) Q A w := by
  have C := Lib.hid (ob_rel a.n a.m a.e HI)
  generalize relL x.s x.l a.n a.m a.e = r at *
  obtain ⟨g0, g1, g2, g3⟩ := ac_cells HI.get2
  clear HI
  obtain ⟨bs, bd, l1, l5⟩ := L
  have f1 := sl_get l1
  have f5 := sl_get l5
  clear l1 l5
  replace f8 := sl_get f8
  have HQ := Lib.hid hQ
  clear hQ
  conv => arg 2; whnf
  go_wp2_with fail
  refine C.out.mono ?_; clear g0 g1 g2 g3 C; rintro e w2 ⟨rfl, hI⟩
  have HI2 := Lib.hid hI
  clear hI
  go_wp2_with fail
  refine HQ.out _ _ ⟨?_, ?_, fun i hi he => ?_⟩ ?_ HI2.out
  · try simp only [put_tmps]
    simp only [Array.size_setIfInBounds, bs]
  · first | (simp only [put_defers, bd]; done) | exact bd | rfl
  · try simp only [put_tmps]
    repeat rw [sl_ne _ (by omega)]
  · try simp only [put_tmps]
    repeat first | rw [sl_ne _ (by decide)] | rw [sl_eq _ (by simp only [Array.size_setIfInBounds, bs]; decide)]
    try exact sl_of (by rw [bs]; decide) (by assumption)
theorem k22 (A : Act) (w : World) (Q : Exit → Act → World → Prop) (wx : World) (b ga gw : Nat) (av : Value) (a : ActE) (L : LD A av (ptrB b)) (f8 : sl A.tmps 8 = ptrB ga) (x x' : Sv) (HI : OB leaO wx [(gw, lsB x.l), (ga, acB a)] (ptrB b) x' w)
    (hQ : ∀ A' w' gn, NearD 13 13 13 A A' → sl A'.tmps 13 = ptrB gn → OB leaO wx [(gn, lsB x'.l), (gw, lsB x.l), (ga, acB a)] (ptrB b) x' w' → Q .normal A' w') :
    Code.wp Try.prog (kpR 22) Q A w := by
  have C := Lib.hid (ob_get HI)
  clear HI
  obtain ⟨bs, bd, l1, l5⟩ := L
  have f1 := sl_get l1
  have f5 := sl_get l5
  clear l1 l5
  replace f8 := sl_get f8
  have HQ := Lib.hid hQ
  clear hQ
  conv => arg 2; whnf
  go_wp2_with fail
  refine C.out.mono ?_; clear C; rintro e w2 ⟨rfl, hI⟩
  have HN := Lib.hid (hI.new (lsB x'.l))
  clear hI
  go_wp2_with fail
  refine HQ.out _ _ _ ⟨?_, ?_, fun i hi he => ?_⟩ ?_ HN.out
  · try simp only [put_tmps]
    simp only [Array.size_setIfInBounds, bs]
  · first | (simp only [put_defers, bd]; done) | exact bd | rfl
  · try simp only [put_tmps]
    repeat rw [sl_ne _ (by omega)]
  · try simp only [put_tmps]
    repeat first | rw [sl_ne _ (by decide)] | rw [sl_eq _ (by simp only [Array.size_setIfInBounds, bs]; decide)]
    try exact sl_of (by rw [bs]; decide) (by assumption)
theorem k16f (A : Act) (w : World) (Q : Exit → Act → World → Prop) (wx : World) (b ga gw : Nat) (av : Value) (a : ActE) (L : LD A av (ptrB b)) (f8 : sl A.tmps 8 = ptrB ga) (x y : Sv) (n g : Int) (hg : g ≠ 0) (f11 : sl A.tmps 11 = .int .i64 n) (f12 : sl A.tmps 12 = .int .i64 g) (HI : OB leaO wx [(gw, lsB y.l), (ga, acB a)] (ptrB b) x w)
    (hQ : ∀ A' w', NearD 46 46 46 A A' → sl A'.tmps 87 = .bool false → OB leaO wx [(gw, lsB y.l), (ga, acB a)] (ptrB b) x w' → Q .normal A' w') :
    Code.wp Try.prog (kpR 16) Q A w := by
  have HI0 := Lib.hid HI.draws
  have e0 : (g == 0) = false := by simpa using hg
  clear HI hg
  obtain ⟨bs, bd, l1, l5⟩ := L
  have f1 := sl_get l1
  have f5 := sl_get l5
  clear l1 l5
  replace f8 := sl_get f8
  replace f11 := sl_get f11
  replace f12 := sl_get f12
  have HQ := Lib.hid hQ
  clear hQ
  conv => arg 2; whnf
  refine wp_region_hold (fun w' => OB leaO wx [(gw, lsB y.l), (ga, acB a)] (ptrB b) x w') (by kernel_rfl) (by kernel_rfl) HI0.out ?_
  repeat
    first
    | (refine hold_val (v := ?_) ?_ ?_ ?_
       rotate_left
       · first
         | (simp [Region.wanted]; done)
         | (simp [Region.wanted, yielded, Act.put, bs]; done)
       · (intro w' hC
          skip
          clear hC
          go_simp
          try with_reducible rfl))
    | (refine hold_skip ?_ ?_
       · (first | (simp [Region.wanted, yielded, Act.put, bs]; done) | (simp [Region.wanted, yielded, Act.put, bs, undef]; done)))
  refine hold_nil (fun w3 hC => ?_)
  have HI3 := Lib.hid hC
  clear hC
  refine HQ.out _ _ ⟨?_, ?_, fun i hi he => ?_⟩ ?_ HI3.out
  · try simp only [put_tmps]
    simp only [Array.size_setIfInBounds, bs]
  · first | (simp only [put_defers, bd]; done) | exact bd | rfl
  · try simp only [put_tmps]
    repeat rw [sl_ne _ (by omega)]
  · try simp only [put_tmps]
    repeat first | rw [sl_ne _ (by decide)] | rw [sl_eq _ (by simp only [Array.size_setIfInBounds, bs]; decide)]
    try exact sl_of (by rw [bs]; decide) (by assumption)
theorem k16t (A : Act) (w : World) (Q : Exit → Act → World → Prop) (wx : World) (b ga gw : Nat) (av : Value) (a : ActE) (L : LD A av (ptrB b)) (f8 : sl A.tmps 8 = ptrB ga) (y : Sv) (s n u : Int) (hu : ¬ (u ≤ a.n ∧ a.n < 1099511627776)) (f11 : sl A.tmps 11 = .int .i64 n) (f12 : sl A.tmps 12 = .int .i64 0) (HI : OB leaO wx [(gw, lsB y.l), (ga, acB a)] (ptrB b) ⟨s, ⟨a.m, n, u⟩⟩ w)
    (hQ : ∀ A' w', NearD 46 46 46 A A' → sl A'.tmps 87 = .bool false → OB leaO wx [(gw, lsB y.l), (ga, acB a)] (ptrB b) ⟨s, ⟨a.m, n, u⟩⟩ w' → Q .normal A' w') :
    Code.wp Try.prog (kpR 16) Q A w := by
  have HI0 := Lib.hid HI.draws
  have S1 := Lib.hid (fun w' (h : OB leaO wx [(gw, lsB y.l), (ga, acB a)] (ptrB b) ⟨s, ⟨a.m, n, u⟩⟩ w') => ob_get h)
  have HCE := Lib.hid (fun w' (h : OB leaO wx [(gw, lsB y.l), (ga, acB a)] (ptrB b) ⟨s, ⟨a.m, n, u⟩⟩ w') => ac_cells h.get2)
  have q0 : ∀ w : World, (Instr.field 29 (.agg #[.int .i64 a.m, .int .i64 n, .int .i64 u]) 0).run Try.prog w = .ok (.int .i64 a.m) w := fun _ => by kernel_rfl
  have q1 : ∀ w : World, (Instr.field 29 (.agg #[.int .i64 a.m, .int .i64 n, .int .i64 u]) 1).run Try.prog w = .ok (.int .i64 n) w := fun _ => by kernel_rfl
  have q2 : ∀ w : World, (Instr.field 29 (.agg #[.int .i64 a.m, .int .i64 n, .int .i64 u]) 2).run Try.prog w = .ok (.int .i64 u) w := fun _ => by kernel_rfl
  have e1 : (n != n) = false := by simp
  have e2 : (a.m != a.m) = false := by simp
  obtain ⟨b1, hb1⟩ : ∃ b1, decide (u ≤ a.n) = b1 := ⟨_, rfl⟩
  obtain ⟨b2, hb2⟩ : ∃ b2, decide (a.n < 1099511627776) = b2 := ⟨_, rfl⟩
  have hbb : (b1 && b2) = false := by
    rw [← hb1, ← hb2]
    by_cases q : u ≤ a.n
    · rw [decide_eq_true q, decide_eq_false (fun p => hu ⟨q, p⟩)]; rfl
    · rw [decide_eq_false q]; rfl
  obtain ⟨bs, bd, l1, l5⟩ := L
  have f1 := sl_get l1
  have f5 := sl_get l5
  clear l1 l5
  replace f8 := sl_get f8
  replace f11 := sl_get f11
  replace f12 := sl_get f12
  have HQ := Lib.hid hQ
  clear hQ
  clear HI hu
  conv => arg 2; whnf
  cases b1 <;> cases b2 <;> simp only [Bool.true_and, Bool.and_true, Bool.false_and, Bool.and_false, Bool.true_eq_false] at hbb
  all_goals
    refine wp_region_hold (fun w' => OB leaO wx [(gw, lsB y.l), (ga, acB a)] (ptrB b) ⟨s, ⟨a.m, n, u⟩⟩ w') (by kernel_rfl) (by kernel_rfl) HI0.out ?_
    repeat
      first
      | (refine hold_val (v := ?_) ?_ ?_ ?_
         rotate_left
         · first
           | (simp [Region.wanted]; done)
           | (simp [Region.wanted, yielded, Act.put, bs]; done)
         · (intro w' hC
            obtain ⟨_, _, _, _⟩ := HCE.out w' hC
            clear hC
            go_simp
            try with_reducible rfl))
      | (refine hold_skip ?_ ?_
         · (first | (simp [Region.wanted, yielded, Act.put, bs]; done) | (simp [Region.wanted, yielded, Act.put, bs, undef]; done)))
      | (refine hold_call ?_ ?_ (fun w' hC => S1.out w' hC) ?_
         · first
           | (simp [Region.wanted]; done)
           | (simp [Region.wanted, yielded, Act.put, bs]; done)
         · (intro w' hC; go_simp; done))
    refine hold_nil (fun w3 hC => ?_)
    have HI3 := Lib.hid hC
    clear hC
    clear S1 HI0 HCE
    refine HQ.out _ _ ⟨?_, ?_, fun i hi he => ?_⟩ ?_ HI3.out
    · try simp only [put_tmps]
      simp only [Array.size_setIfInBounds, bs]
    · first | (simp only [put_defers, bd]; done) | exact bd | rfl
    · try simp only [put_tmps]
      repeat rw [sl_ne _ (by omega)]
    · try simp only [put_tmps]
      repeat first | rw [sl_ne _ (by decide)] | rw [sl_eq _ (by simp only [Array.size_setIfInBounds, bs]; decide)]
      try exact sl_of (by rw [bs]; decide) (by assumption)
theorem k23 (A : Act) (w : World) (Q : Exit → Act → World → Prop) (wx : World) (b ga gw gn : Nat) (av : Value) (a : ActE) (L : LD A av (ptrB b)) (f8 : sl A.tmps 8 = ptrB ga) (f9 : sl A.tmps 9 = ptrB gw) (f13 : sl A.tmps 13 = ptrB gn) (l l' : Ls) (f : Int) (f10 : sl A.tmps 10 = .int .i64 f) (K : KF a l l' f)
    (h8 : w.heap[ga]? = some (acB a)) (h9 : w.heap[gw]? = some (lsB l)) (h13 : w.heap[gn]? = some (lsB l')) 
    (hQ : ∀ A', NearD 14 14 14 A A' → sl A'.tmps 116 = .bool false → Q .normal A' w) :
    Code.wp Try.prog (kpR 23) Q A w := by
  have hun : undef = Value.tuple #[] := rfl
  obtain ⟨g0, g1, g2, g3⟩ := ac_cells h8
  obtain ⟨y0, y1, y2⟩ := ls_cells h9
  obtain ⟨z0, z1, z2⟩ := ls_cells h13
  clear h8 h9 h13
  obtain ⟨bs, bd, l1, l5⟩ := L
  have f1 := sl_get l1
  have f5 := sl_get l5
  clear l1 l5
  replace f8 := sl_get f8
  replace f9 := sl_get f9
  replace f13 := sl_get f13
  replace f10 := sl_get f10
  have HQ := Lib.hid hQ
  clear hQ
  by_cases hf : f = 0
  · have e0 : (f != 0) = false := by simpa using hf
    clear hf K
    conv => arg 2; whnf
    go_wp2_with fail
    refine HQ.out _ ⟨?_, ?_, fun i hi he => ?_⟩ ?_ 
    · try simp only [put_tmps]
      simp only [Array.size_setIfInBounds, bs]
    · first | (simp only [put_defers, bd]; done) | exact bd | rfl
    · try simp only [put_tmps]
      repeat rw [sl_ne _ (by omega)]
    · try simp only [put_tmps]
      repeat first | rw [sl_ne _ (by decide)] | rw [sl_eq _ (by simp only [Array.size_setIfInBounds, bs]; decide)]
      try exact sl_of (by rw [bs]; decide) (by assumption)
  · have e0 : (f != 0) = true := by simpa using hf
    obtain rfl := K.p1 hf
    have EQ : ∀ w : World, (Op.equalIn 10000 29 (.agg #[.int .i64 l'.h, .int .i64 l'.e, .int .i64 l'.u]) (.agg #[.int .i64 l'.h, .int .i64 l'.e, .int .i64 l'.u])).run Try.prog w = .ok true w := fun w => (eqL_run w l' l').trans (by rw [eqL_same])
    clear hf K
    conv => arg 2; whnf
    go_wp2_with fail
    refine HQ.out _ ⟨?_, ?_, fun i hi he => ?_⟩ ?_ 
    · try simp only [put_tmps]
      simp only [Array.size_setIfInBounds, bs]
    · first | (simp only [put_defers, bd]; done) | exact bd | rfl
    · try simp only [put_tmps]
      repeat rw [sl_ne _ (by omega)]
    · try simp only [put_tmps]
      repeat first | rw [sl_ne _ (by decide)] | rw [sl_eq _ (by simp only [Array.size_setIfInBounds, bs]; decide)]
      try exact sl_of (by rw [bs]; decide) (by assumption)
theorem k25 (A : Act) (w : World) (Q : Exit → Act → World → Prop) (wx : World) (b ga gw gn : Nat) (av : Value) (a : ActE) (L : LD A av (ptrB b)) (f8 : sl A.tmps 8 = ptrB ga) (f9 : sl A.tmps 9 = ptrB gw) (f13 : sl A.tmps 13 = ptrB gn) (l l' : Ls) (f : Int) (f10 : sl A.tmps 10 = .int .i64 f) (K : KF a l l' f)
    (h8 : w.heap[ga]? = some (acB a)) (h9 : w.heap[gw]? = some (lsB l)) (h13 : w.heap[gn]? = some (lsB l')) 
    (hQ : ∀ A', NearD 14 14 14 A A' → sl A'.tmps 165 = .bool false → Q .normal A' w) :
    Code.wp Try.prog (kpR 25) Q A w := by
  have hun : undef = Value.tuple #[] := rfl
  obtain ⟨g0, g1, g2, g3⟩ := ac_cells h8
  obtain ⟨y0, y1, y2⟩ := ls_cells h9
  obtain ⟨z0, z1, z2⟩ := ls_cells h13
  clear h8 h9 h13
  obtain ⟨bs, bd, l1, l5⟩ := L
  have f1 := sl_get l1
  have f5 := sl_get l5
  clear l1 l5
  replace f8 := sl_get f8
  replace f9 := sl_get f9
  replace f13 := sl_get f13
  replace f10 := sl_get f10
  have HQ := Lib.hid hQ
  clear hQ
  by_cases hf : f = 0
  · have e0 : (f == 0) = true := by simpa using hf
    by_cases hk1 : a.kind = 1
    · have q1 : (a.kind == 1) = true := by simpa using hk1
      have q2 : (a.kind == 2) = false := by rw [hk1]; rfl
      have hp := K.p2 hf hk1
      by_cases h0 : 0 ≤ l.h
      · have r0 : decide (l.h ≥ 0) = true := decide_eq_true h0
        have r9 : decide (0 ≤ l.h) = true := decide_eq_true h0
        have r1 : decide (a.n < l.u) = false := decide_eq_false (fun p => hp ⟨h0, p⟩)
        clear hf K hp h0 hk1
        conv => arg 2; whnf
        go_wp2_with fail
        refine HQ.out _ ⟨?_, ?_, fun i hi he => ?_⟩ ?_ 
        · try simp only [put_tmps]
          simp only [Array.size_setIfInBounds, bs]
        · first | (simp only [put_defers, bd]; done) | exact bd | rfl
        · try simp only [put_tmps]
          repeat rw [sl_ne _ (by omega)]
        · try simp only [put_tmps]
          repeat first | rw [sl_ne _ (by decide)] | rw [sl_eq _ (by simp only [Array.size_setIfInBounds, bs]; decide)]
          try exact sl_of (by rw [bs]; decide) (by assumption)
      · have r0 : decide (l.h ≥ 0) = false := decide_eq_false h0
        have r9 : decide (0 ≤ l.h) = false := decide_eq_false h0
        clear hf K hp h0 hk1
        conv => arg 2; whnf
        go_wp2_with fail
        refine HQ.out _ ⟨?_, ?_, fun i hi he => ?_⟩ ?_ 
        · try simp only [put_tmps]
          simp only [Array.size_setIfInBounds, bs]
        · first | (simp only [put_defers, bd]; done) | exact bd | rfl
        · try simp only [put_tmps]
          repeat rw [sl_ne _ (by omega)]
        · try simp only [put_tmps]
          repeat first | rw [sl_ne _ (by decide)] | rw [sl_eq _ (by simp only [Array.size_setIfInBounds, bs]; decide)]
          try exact sl_of (by rw [bs]; decide) (by assumption)
    · have q1 : (a.kind == 1) = false := by simpa using hk1
      by_cases hk2 : a.kind = 2
      · have q2 : (a.kind == 2) = true := by simpa using hk2
        obtain ⟨p1, p2, p3⟩ := K.p3 hf hk2
        have r1 : decide (l'.u < l.u) = false := decide_eq_false (by omega)
        have r2 : (l'.h != l.h) = false := by simpa using p2
        have r3 : (l'.e != l.e) = false := by simpa using p3
        clear hf K p1 p2 p3 hk1 hk2
        conv => arg 2; whnf
        go_wp2_with fail
        refine HQ.out _ ⟨?_, ?_, fun i hi he => ?_⟩ ?_ 
        · try simp only [put_tmps]
          simp only [Array.size_setIfInBounds, bs]
        · first | (simp only [put_defers, bd]; done) | exact bd | rfl
        · try simp only [put_tmps]
          repeat rw [sl_ne _ (by omega)]
        · try simp only [put_tmps]
          repeat first | rw [sl_ne _ (by decide)] | rw [sl_eq _ (by simp only [Array.size_setIfInBounds, bs]; decide)]
          try exact sl_of (by rw [bs]; decide) (by assumption)
      · have q2 : (a.kind == 2) = false := by simpa using hk2
        clear hf K hk1 hk2
        conv => arg 2; whnf
        go_wp2_with fail
        refine HQ.out _ ⟨?_, ?_, fun i hi he => ?_⟩ ?_ 
        · try simp only [put_tmps]
          simp only [Array.size_setIfInBounds, bs]
        · first | (simp only [put_defers, bd]; done) | exact bd | rfl
        · try simp only [put_tmps]
          repeat rw [sl_ne _ (by omega)]
        · try simp only [put_tmps]
          repeat first | rw [sl_ne _ (by decide)] | rw [sl_eq _ (by simp only [Array.size_setIfInBounds, bs]; decide)]
          try exact sl_of (by rw [bs]; decide) (by assumption)
  · have e0 : (f == 0) = false := by simpa using hf
    clear hf K
    conv => arg 2; whnf
    go_wp2_with fail
    refine HQ.out _ ⟨?_, ?_, fun i hi he => ?_⟩ ?_ 
    · try simp only [put_tmps]
      simp only [Array.size_setIfInBounds, bs]
    · first | (simp only [put_defers, bd]; done) | exact bd | rfl
    · try simp only [put_tmps]
      repeat rw [sl_ne _ (by omega)]
    · try simp only [put_tmps]
      repeat first | rw [sl_ne _ (by decide)] | rw [sl_eq _ (by simp only [Array.size_setIfInBounds, bs]; decide)]
      try exact sl_of (by rw [bs]; decide) (by assumption)
theorem k27 (A : Act) (w : World) (Q : Exit → Act → World → Prop) (wx : World) (b ga gw gn : Nat) (av : Value) (a : ActE) (L : LD A av (ptrB b)) (f8 : sl A.tmps 8 = ptrB ga) (f9 : sl A.tmps 9 = ptrB gw) (f13 : sl A.tmps 13 = ptrB gn) (l l' : Ls) (f : Int) (f10 : sl A.tmps 10 = .int .i64 f) (K : KF a l l' f)
    (h8 : w.heap[ga]? = some (acB a)) (h9 : w.heap[gw]? = some (lsB l)) (h13 : w.heap[gn]? = some (lsB l')) 
    (hQ : ∀ A', NearD 14 14 14 A A' → sl A'.tmps 184 = .bool false → Q .normal A' w) :
    Code.wp Try.prog (kpR 27) Q A w := by
  have hun : undef = Value.tuple #[] := rfl
  obtain ⟨g0, g1, g2, g3⟩ := ac_cells h8
  obtain ⟨y0, y1, y2⟩ := ls_cells h9
  obtain ⟨z0, z1, z2⟩ := ls_cells h13
  clear h8 h9 h13
  obtain ⟨bs, bd, l1, l5⟩ := L
  have f1 := sl_get l1
  have f5 := sl_get l5
  clear l1 l5
  replace f8 := sl_get f8
  replace f9 := sl_get f9
  replace f13 := sl_get f13
  replace f10 := sl_get f10
  have HQ := Lib.hid hQ
  clear hQ
  by_cases hf : f = 0
  · have e0 : (f == 0) = true := by simpa using hf
    by_cases hk3 : a.kind = 3
    · have q1 : (a.kind == 3) = true := by simpa using hk3
      obtain ⟨p1, p2⟩ := K.p4 hf hk3
      have r1 : (l'.h != -1) = false := by simpa using p1
      have r2 : (l'.e != l.e) = false := by simpa using p2
      clear hf K p1 p2 hk3
      conv => arg 2; whnf
      go_wp2_with fail
      refine HQ.out _ ⟨?_, ?_, fun i hi he => ?_⟩ ?_ 
      · try simp only [put_tmps]
        simp only [Array.size_setIfInBounds, bs]
      · first | (simp only [put_defers, bd]; done) | exact bd | rfl
      · try simp only [put_tmps]
        repeat rw [sl_ne _ (by omega)]
      · try simp only [put_tmps]
        repeat first | rw [sl_ne _ (by decide)] | rw [sl_eq _ (by simp only [Array.size_setIfInBounds, bs]; decide)]
        try exact sl_of (by rw [bs]; decide) (by assumption)
    · have q1 : (a.kind == 3) = false := by simpa using hk3
      clear hf K hk3
      conv => arg 2; whnf
      go_wp2_with fail
      refine HQ.out _ ⟨?_, ?_, fun i hi he => ?_⟩ ?_ 
      · try simp only [put_tmps]
        simp only [Array.size_setIfInBounds, bs]
      · first | (simp only [put_defers, bd]; done) | exact bd | rfl
      · try simp only [put_tmps]
        repeat rw [sl_ne _ (by omega)]
      · try simp only [put_tmps]
        repeat first | rw [sl_ne _ (by decide)] | rw [sl_eq _ (by simp only [Array.size_setIfInBounds, bs]; decide)]
        try exact sl_of (by rw [bs]; decide) (by assumption)
  · have e0 : (f == 0) = false := by simpa using hf
    clear hf K
    conv => arg 2; whnf
    go_wp2_with fail
    refine HQ.out _ ⟨?_, ?_, fun i hi he => ?_⟩ ?_ 
    · try simp only [put_tmps]
      simp only [Array.size_setIfInBounds, bs]
    · first | (simp only [put_defers, bd]; done) | exact bd | rfl
    · try simp only [put_tmps]
      repeat rw [sl_ne _ (by omega)]
    · try simp only [put_tmps]
      repeat first | rw [sl_ne _ (by decide)] | rw [sl_eq _ (by simp only [Array.size_setIfInBounds, bs]; decide)]
      try exact sl_of (by rw [bs]; decide) (by assumption)
end Go.Proofs.Ytcoclpghimcnfaa
