/- The regions of LeasePlays, a lemma each, the frame a variable. Conditions: as stated. -/
import Derived.Test.YtcoclpghimcnfaaLplA
namespace Go.Proofs.Ytcoclpghimcnfaa
open Go.ChangeShapes Go.WideShapes Go.ChangeAt Go.RowKit
set_option linter.unusedVariables false
set_option maxRecDepth 100000
set_option linter.unusedSimpArgs false
set_option maxHeartbeats 4000000

theorem l8t (A : Act) (w : World) (Q : Exit → Act → World → Prop) (k n cap : Nat) (a0 : Option Addr) (vs : Value) (g : Nat) (hd : decide (k < n) = true) (L : LD A (.slice a0 n cap) vs g) (f9 : sl A.tmps 9 = .int .i64 k)
    (hQ : ∀ A', NearD 15 15 15 A A' → sl A'.tmps 46 = .bool true → Q .normal A' w) :
    Code.wp Try.prog (lpR 8) Q A w := by
  have hd2 : decide ((k : Int) < (n : Int)) = true := by rw [← hd]; exact decide_eq_decide.2 (by omega)
  obtain ⟨bs, bd, l1, l5, l7, l8⟩ := L
  have f1 := sl_get l1
  have f5 := sl_get l5
  have f7 := sl_get l7
  have f8 := sl_get l8
  clear l1 l5 l7 l8
  replace f9 := sl_get f9
  have HQ := Lib.hid hQ
  clear hQ
  conv => arg 2; whnf
  go_wp2_with fail
  refine HQ.out _ ⟨?_, ?_, fun i hi he => ?_⟩  ?_ 
  · try simp only [put_tmps]
    simp only [Array.size_setIfInBounds, bs]
  · first | (simp only [put_defers, bd]; done) | exact bd | rfl
  · try simp only [put_tmps]
    repeat rw [sl_ne _ (by omega)]
  · try simp only [put_tmps]
    repeat first | rw [sl_ne _ (by decide)] | rw [sl_eq _ (by simp only [Array.size_setIfInBounds, bs]; decide)]
    try exact sl_of (by rw [bs]; decide) (by assumption)
theorem l8f (A : Act) (w : World) (Q : Exit → Act → World → Prop) (k n cap : Nat) (a0 : Option Addr) (vs : Value) (g : Nat) (hd : decide (k < n) = false) (L : LD A (.slice a0 n cap) vs g) (f9 : sl A.tmps 9 = .int .i64 k)
    (hQ : ∀ A', NearD 15 15 15 A A' → sl A'.tmps 46 = .bool false → Q .normal A' w) :
    Code.wp Try.prog (lpR 8) Q A w := by
  have hd2 : decide ((k : Int) < (n : Int)) = false := by rw [← hd]; exact decide_eq_decide.2 (by omega)
  obtain ⟨bs, bd, l1, l5, l7, l8⟩ := L
  have f1 := sl_get l1
  have f5 := sl_get l5
  have f7 := sl_get l7
  have f8 := sl_get l8
  clear l1 l5 l7 l8
  replace f9 := sl_get f9
  have HQ := Lib.hid hQ
  clear hQ
  conv => arg 2; whnf
  go_wp2_with fail
  refine HQ.out _ ⟨?_, ?_, fun i hi he => ?_⟩  ?_ 
  · try simp only [put_tmps]
    simp only [Array.size_setIfInBounds, bs]
  · first | (simp only [put_defers, bd]; done) | exact bd | rfl
  · try simp only [put_tmps]
    repeat rw [sl_ne _ (by omega)]
  · try simp only [put_tmps]
    repeat first | rw [sl_ne _ (by decide)] | rw [sl_eq _ (by simp only [Array.size_setIfInBounds, bs]; decide)]
    try exact sl_of (by rw [bs]; decide) (by assumption)
theorem l9 (A : Act) (w : World) (Q : Exit → Act → World → Prop) (k : Nat) (hk : k ≤ 200) (bs : A.tmps.size = 153) (bd : A.defers = []) (f9 : sl A.tmps 9 = .int .i64 k)
    (hQ : ∀ A', NearD 10 9 10 A A' → sl A'.tmps 9 = .int .i64 ((k : Int) + 1) → Q .normal A' w) :
    Code.wp Try.prog (lpR 9) Q A w := by
  have q3 : IntKind.i64.wrap ((k : Int) + 1) = (k : Int) + 1 := IntWalk.i64_in _ (by omega)
  replace f9 := sl_get f9
  have HQ := Lib.hid hQ
  clear hQ
  conv => arg 2; whnf
  go_wp2_with fail
  refine HQ.out _ ⟨?_, ?_, fun i hi he => ?_⟩  ?_ 
  · try simp only [put_tmps]
    simp only [Array.size_setIfInBounds, bs]
  · first | (simp only [put_defers, bd]; done) | exact bd | rfl
  · try simp only [put_tmps]
    repeat rw [sl_ne _ (by omega)]
  · try simp only [put_tmps]
    repeat first | rw [sl_ne _ (by decide)] | rw [sl_eq _ (by simp only [Array.size_setIfInBounds, bs]; decide)]
    try exact sl_of (by rw [bs]; decide) (by assumption)
theorem l10 (A : Act) (w : World) (Q : Exit → Act → World → Prop) (wx : World) (k n cap ba oa b gx : Nat) (a : ActE) (x : Sv) (hlt : k < n) (hn : n ≤ 100) (HC : ∀ w', Below wx.heap.size wx w' → AcEC ba (oa + k * 4) a w')
    (L : LD A (.slice (some ⟨ba, oa, none⟩) n cap) (ptrB b) gx) (f9 : sl A.tmps 9 = .int .i64 k) (HI : L1 wx gx x (ptrB b) x w)
    (hQ : ∀ A' w' ga, NearD 10 10 10 A A' → sl A'.tmps 10 = ptrB ga → ga ≠ gx → L2 wx ga a gx x (ptrB b) x w' → Q .normal A' w') :
    Code.wp Try.prog (lpR 10) Q A w := by
  have i0k : (0 : Int) ≤ (k : Int) := by omega
  have i1k : (k : Int) < (n : Int) := by omega
  have i2k : (n : Int) ≤ 100 := by omega
  obtain ⟨g0, g1, g2, g3⟩ := HC w HI.bel
  obtain ⟨hnew, hne⟩ := l1_new a HI
  have HN := Lib.hid hnew
  have HNE := Lib.hid hne
  clear hnew hne HC HI
  obtain ⟨bs, bd, l1, l5, l7, l8⟩ := L
  have f1 := sl_get l1
  have f5 := sl_get l5
  have f7 := sl_get l7
  have f8 := sl_get l8
  clear l1 l5 l7 l8
  replace f9 := sl_get f9
  have HQ := Lib.hid hQ
  clear hQ
  conv => arg 2; whnf
  go_wp2_with fail
  refine HQ.out _ _ _ ⟨?_, ?_, fun i hi he => ?_⟩  ?_ HNE.out HN.out
  · try simp only [put_tmps]
    simp only [Array.size_setIfInBounds, bs]
  · first | (simp only [put_defers, bd]; done) | exact bd | rfl
  · try simp only [put_tmps]
    repeat rw [sl_ne _ (by omega)]
  · try simp only [put_tmps]
    repeat first | rw [sl_ne _ (by decide)] | rw [sl_eq _ (by simp only [Array.size_setIfInBounds, bs]; decide)]
    try exact sl_of (by rw [bs]; decide) (by assumption)
theorem l11 (A : Act) (w : World) (Q : Exit → Act → World → Prop) (bs : A.tmps.size = 153) (bd : A.defers = [])
    (hQ : ∀ A', NearD 11 11 11 A A' → FR A' 0 0 0 0 → Q .normal A' w) :
    Code.wp Try.prog (lpR 11) Q A w := by
  have HQ := Lib.hid hQ
  clear hQ
  conv => arg 2; whnf
  go_wp2_with fail
  refine HQ.out _ ⟨?_, ?_, fun i hi he => ?_⟩ ⟨?_, ?_, ?_, ?_⟩  
  · try simp only [put_tmps]
    simp only [Array.size_setIfInBounds, bs]
  · first | (simp only [put_defers, bd]; done) | exact bd | rfl
  · try simp only [put_tmps]
    repeat rw [sl_ne _ (by omega)]
  · try simp only [put_tmps]
    repeat first | rw [sl_ne _ (by decide)] | rw [sl_eq _ (by simp only [Array.size_setIfInBounds, bs]; decide)]
    try exact sl_of (by rw [bs]; decide) (by assumption)
  · try simp only [put_tmps]
    repeat first | rw [sl_ne _ (by decide)] | rw [sl_eq _ (by simp only [Array.size_setIfInBounds, bs]; decide)]
    try exact sl_of (by rw [bs]; decide) (by assumption)
  · try simp only [put_tmps]
    repeat first | rw [sl_ne _ (by decide)] | rw [sl_eq _ (by simp only [Array.size_setIfInBounds, bs]; decide)]
    try exact sl_of (by rw [bs]; decide) (by assumption)
  · try simp only [put_tmps]
    repeat first | rw [sl_ne _ (by decide)] | rw [sl_eq _ (by simp only [Array.size_setIfInBounds, bs]; decide)]
    try exact sl_of (by rw [bs]; decide) (by assumption)
theorem l12 (A : Act) (w : World) (Q : Exit → Act → World → Prop) (wx : World) (b gx ga : Nat) (av : Value) (a : ActE) (L : LD A av (ptrB b) gx) (f10 : sl A.tmps 10 = ptrB ga) (x y : Sv) (HI : L2 wx ga a gx y (ptrB b) x w)
    (hQ : ∀ A', NearD 15 15 15 A A' → sl A'.tmps 54 = .int .i64 a.kind → Q .normal A' w) :
    Code.wp Try.prog (lpR 12) Q A w := by
  obtain ⟨g0, g1, g2, g3⟩ := l2_act HI
  clear HI
  obtain ⟨bs, bd, l1, l5, l7, l8⟩ := L
  have f1 := sl_get l1
  have f5 := sl_get l5
  have f7 := sl_get l7
  have f8 := sl_get l8
  clear l1 l5 l7 l8
  replace f10 := sl_get f10
  have HQ := Lib.hid hQ
  clear hQ
  conv => arg 2; whnf
  go_wp2_with fail
  refine HQ.out _ ⟨?_, ?_, fun i hi he => ?_⟩  ?_ 
  · try simp only [put_tmps]
    simp only [Array.size_setIfInBounds, bs]
  · first | (simp only [put_defers, bd]; done) | exact bd | rfl
  · try simp only [put_tmps]
    repeat rw [sl_ne _ (by omega)]
  · try simp only [put_tmps]
    repeat first | rw [sl_ne _ (by decide)] | rw [sl_eq _ (by simp only [Array.size_setIfInBounds, bs]; decide)]
    try exact sl_of (by rw [bs]; decide) (by assumption)
theorem l13 (A : Act) (w : World) (Q : Exit → Act → World → Prop) (kd : Int) (bs : A.tmps.size = 153) (bd : A.defers = []) (f54 : sl A.tmps 54 = .int .i64 kd)
    (hQ : ∀ A', NearD 55 55 55 A A' → sl A'.tmps 55 = .bool (kd == 1) → Q .normal A' w) :
    Code.wp Try.prog (lpR 13) Q A w := by
  replace f54 := sl_get f54
  have HQ := Lib.hid hQ
  clear hQ
  conv => arg 2; whnf
  go_wp2_with fail
  refine HQ.out _ ⟨?_, ?_, fun i hi he => ?_⟩  ?_ 
  · try simp only [put_tmps]
    simp only [Array.size_setIfInBounds, bs]
  · first | (simp only [put_defers, bd]; done) | exact bd | rfl
  · try simp only [put_tmps]
    repeat rw [sl_ne _ (by omega)]
  · try simp only [put_tmps]
    repeat first | rw [sl_ne _ (by decide)] | rw [sl_eq _ (by simp only [Array.size_setIfInBounds, bs]; decide)]
    try exact sl_of (by rw [bs]; decide) (by assumption)
theorem l16 (A : Act) (w : World) (Q : Exit → Act → World → Prop) (kd : Int) (bs : A.tmps.size = 153) (bd : A.defers = []) (f54 : sl A.tmps 54 = .int .i64 kd)
    (hQ : ∀ A', NearD 55 55 55 A A' → sl A'.tmps 76 = .bool (kd == 2) → Q .normal A' w) :
    Code.wp Try.prog (lpR 16) Q A w := by
  replace f54 := sl_get f54
  have HQ := Lib.hid hQ
  clear hQ
  conv => arg 2; whnf
  go_wp2_with fail
  refine HQ.out _ ⟨?_, ?_, fun i hi he => ?_⟩  ?_ 
  · try simp only [put_tmps]
    simp only [Array.size_setIfInBounds, bs]
  · first | (simp only [put_defers, bd]; done) | exact bd | rfl
  · try simp only [put_tmps]
    repeat rw [sl_ne _ (by omega)]
  · try simp only [put_tmps]
    repeat first | rw [sl_ne _ (by decide)] | rw [sl_eq _ (by simp only [Array.size_setIfInBounds, bs]; decide)]
    try exact sl_of (by rw [bs]; decide) (by assumption)
theorem l19 (A : Act) (w : World) (Q : Exit → Act → World → Prop) (kd : Int) (bs : A.tmps.size = 153) (bd : A.defers = []) (f54 : sl A.tmps 54 = .int .i64 kd)
    (hQ : ∀ A', NearD 55 55 55 A A' → sl A'.tmps 97 = .bool (kd == 3) → Q .normal A' w) :
    Code.wp Try.prog (lpR 19) Q A w := by
  replace f54 := sl_get f54
  have HQ := Lib.hid hQ
  clear hQ
  conv => arg 2; whnf
  go_wp2_with fail
  refine HQ.out _ ⟨?_, ?_, fun i hi he => ?_⟩  ?_ 
  · try simp only [put_tmps]
    simp only [Array.size_setIfInBounds, bs]
  · first | (simp only [put_defers, bd]; done) | exact bd | rfl
  · try simp only [put_tmps]
    repeat rw [sl_ne _ (by omega)]
  · try simp only [put_tmps]
    repeat first | rw [sl_ne _ (by decide)] | rw [sl_eq _ (by simp only [Array.size_setIfInBounds, bs]; decide)]
    try exact sl_of (by rw [bs]; decide) (by assumption)
theorem l14 (A : Act) (w : World) (Q : Exit → Act → World → Prop) (wx : World) (b gx ga : Nat) (av : Value) (a : ActE) (L : LD A av (ptrB b) gx) (f10 : sl A.tmps 10 = ptrB ga) (x y : Sv) (F : FR A 0 0 0 0) (HI : L2 wx ga a gx y (ptrB b) x w)
    (hQ : ∀ A' w', NearD 55 11 15 A A' → FR A' (acqL x.s x.l a.n a.m).2.1 0 (acqL x.s x.l a.n a.m).2.2 0 → L2 wx ga a gx y (ptrB b) ⟨x.s, (acqL x.s x.l a.n a.m).1⟩ w' → Q .normal A' w') :
    Code.wp Try.prog (lpR 14) Q A w := by
  have C := Lib.hid (ob_acq a.n a.m HI)
  generalize acqL x.s x.l a.n a.m = r at *
  obtain ⟨g0, g1, g2, g3⟩ := l2_act HI
  clear HI
  obtain ⟨bs, bd, l1, l5, l7, l8⟩ := L
  have f1 := sl_get l1
  have f5 := sl_get l5
  have f7 := sl_get l7
  have f8 := sl_get l8
  clear l1 l5 l7 l8
  obtain ⟨n11, n12, n13, n14⟩ := F
  have f11 := sl_get n11
  have f12 := sl_get n12
  have f13 := sl_get n13
  have f14 := sl_get n14
  clear n11 n12 n13 n14
  replace f10 := sl_get f10
  have HQ := Lib.hid hQ
  clear hQ
  conv => arg 2; whnf
  go_wp2_with fail
  refine C.out.mono ?_; clear g0 g1 g2 g3 C; rintro e w2 ⟨rfl, hI⟩
  have HI2 := Lib.hid hI
  clear hI
  go_wp2_with fail
  refine HQ.out _ _ ⟨?_, ?_, fun i hi he => ?_⟩ ⟨?_, ?_, ?_, ?_⟩  HI2.out
  · try simp only [put_tmps]
    simp only [Array.size_setIfInBounds, bs]
  · first | (simp only [put_defers, bd]; done) | exact bd | rfl
  · try simp only [put_tmps]
    repeat rw [sl_ne _ (by omega)]
  · try simp only [put_tmps]
    repeat first | rw [sl_ne _ (by decide)] | rw [sl_eq _ (by simp only [Array.size_setIfInBounds, bs]; decide)]
    try exact sl_of (by rw [bs]; decide) (by assumption)
  · try simp only [put_tmps]
    repeat first | rw [sl_ne _ (by decide)] | rw [sl_eq _ (by simp only [Array.size_setIfInBounds, bs]; decide)]
    try exact sl_of (by rw [bs]; decide) (by assumption)
  · try simp only [put_tmps]
    repeat first | rw [sl_ne _ (by decide)] | rw [sl_eq _ (by simp only [Array.size_setIfInBounds, bs]; decide)]
    try exact sl_of (by rw [bs]; decide) (by assumption)
  · try simp only [put_tmps]
    repeat first | rw [sl_ne _ (by decide)] | rw [sl_eq _ (by simp only [Array.size_setIfInBounds, bs]; decide)]
    try exact sl_of (by rw [bs]; decide) (by assumption)
theorem l17 (A : Act) (w : World) (Q : Exit → Act → World → Prop) (wx : World) (b gx ga : Nat) (av : Value) (a : ActE) (L : LD A av (ptrB b) gx) (f10 : sl A.tmps 10 = ptrB ga) (x y : Sv) (F : FR A 0 0 0 0) (HI : L2 wx ga a gx y (ptrB b) x w)
    (hQ : ∀ A' w', NearD 55 11 15 A A' → FR A' 0 0 (renL x.s x.l a.n a.m a.e).2 0 → L2 wx ga a gx y (ptrB b) ⟨x.s, (renL x.s x.l a.n a.m a.e).1⟩ w' → Q .normal A' w') :
    Code.wp Try.prog (lpR 17) Q A w := by
  have C := Lib.hid (ob_ren a.n a.m a.e HI)
  generalize renL x.s x.l a.n a.m a.e = r at *
  obtain ⟨g0, g1, g2, g3⟩ := l2_act HI
  clear HI
  obtain ⟨bs, bd, l1, l5, l7, l8⟩ := L
  have f1 := sl_get l1
  have f5 := sl_get l5
  have f7 := sl_get l7
  have f8 := sl_get l8
  clear l1 l5 l7 l8
  obtain ⟨n11, n12, n13, n14⟩ := F
  have f11 := sl_get n11
  have f12 := sl_get n12
  have f13 := sl_get n13
  have f14 := sl_get n14
  clear n11 n12 n13 n14
  replace f10 := sl_get f10
  have HQ := Lib.hid hQ
  clear hQ
  conv => arg 2; whnf
  go_wp2_with fail
  refine C.out.mono ?_; clear g0 g1 g2 g3 C; rintro e w2 ⟨rfl, hI⟩
  have HI2 := Lib.hid hI
  clear hI
  go_wp2_with fail
  refine HQ.out _ _ ⟨?_, ?_, fun i hi he => ?_⟩ ⟨?_, ?_, ?_, ?_⟩  HI2.out
  · try simp only [put_tmps]
    simp only [Array.size_setIfInBounds, bs]
  · first | (simp only [put_defers, bd]; done) | exact bd | rfl
  · try simp only [put_tmps]
    repeat rw [sl_ne _ (by omega)]
  · try simp only [put_tmps]
    repeat first | rw [sl_ne _ (by decide)] | rw [sl_eq _ (by simp only [Array.size_setIfInBounds, bs]; decide)]
    try exact sl_of (by rw [bs]; decide) (by assumption)
  · try simp only [put_tmps]
    repeat first | rw [sl_ne _ (by decide)] | rw [sl_eq _ (by simp only [Array.size_setIfInBounds, bs]; decide)]
    try exact sl_of (by rw [bs]; decide) (by assumption)
  · try simp only [put_tmps]
    repeat first | rw [sl_ne _ (by decide)] | rw [sl_eq _ (by simp only [Array.size_setIfInBounds, bs]; decide)]
    try exact sl_of (by rw [bs]; decide) (by assumption)
  · try simp only [put_tmps]
    repeat first | rw [sl_ne _ (by decide)] | rw [sl_eq _ (by simp only [Array.size_setIfInBounds, bs]; decide)]
    try exact sl_of (by rw [bs]; decide) (by assumption)
theorem l20 (A : Act) (w : World) (Q : Exit → Act → World → Prop) (wx : World) (b gx ga : Nat) (av : Value) (a : ActE) (L : LD A av (ptrB b) gx) (f10 : sl A.tmps 10 = ptrB ga) (x y : Sv) (F : FR A 0 0 0 0) (HI : L2 wx ga a gx y (ptrB b) x w)
    (hQ : ∀ A' w', NearD 55 11 15 A A' → FR A' 0 0 (relL x.s x.l a.n a.m a.e).2 0 → L2 wx ga a gx y (ptrB b) ⟨x.s, (relL x.s x.l a.n a.m a.e).1⟩ w' → Q .normal A' w') :
    Code.wp Try.prog (lpR 20) Q A w := by
  have C := Lib.hid (ob_rel a.n a.m a.e HI)
  generalize relL x.s x.l a.n a.m a.e = r at *
  obtain ⟨g0, g1, g2, g3⟩ := l2_act HI
  clear HI
  obtain ⟨bs, bd, l1, l5, l7, l8⟩ := L
  have f1 := sl_get l1
  have f5 := sl_get l5
  have f7 := sl_get l7
  have f8 := sl_get l8
  clear l1 l5 l7 l8
  obtain ⟨n11, n12, n13, n14⟩ := F
  have f11 := sl_get n11
  have f12 := sl_get n12
  have f13 := sl_get n13
  have f14 := sl_get n14
  clear n11 n12 n13 n14
  replace f10 := sl_get f10
  have HQ := Lib.hid hQ
  clear hQ
  conv => arg 2; whnf
  go_wp2_with fail
  refine C.out.mono ?_; clear g0 g1 g2 g3 C; rintro e w2 ⟨rfl, hI⟩
  have HI2 := Lib.hid hI
  clear hI
  go_wp2_with fail
  refine HQ.out _ _ ⟨?_, ?_, fun i hi he => ?_⟩ ⟨?_, ?_, ?_, ?_⟩  HI2.out
  · try simp only [put_tmps]
    simp only [Array.size_setIfInBounds, bs]
  · first | (simp only [put_defers, bd]; done) | exact bd | rfl
  · try simp only [put_tmps]
    repeat rw [sl_ne _ (by omega)]
  · try simp only [put_tmps]
    repeat first | rw [sl_ne _ (by decide)] | rw [sl_eq _ (by simp only [Array.size_setIfInBounds, bs]; decide)]
    try exact sl_of (by rw [bs]; decide) (by assumption)
  · try simp only [put_tmps]
    repeat first | rw [sl_ne _ (by decide)] | rw [sl_eq _ (by simp only [Array.size_setIfInBounds, bs]; decide)]
    try exact sl_of (by rw [bs]; decide) (by assumption)
  · try simp only [put_tmps]
    repeat first | rw [sl_ne _ (by decide)] | rw [sl_eq _ (by simp only [Array.size_setIfInBounds, bs]; decide)]
    try exact sl_of (by rw [bs]; decide) (by assumption)
  · try simp only [put_tmps]
    repeat first | rw [sl_ne _ (by decide)] | rw [sl_eq _ (by simp only [Array.size_setIfInBounds, bs]; decide)]
    try exact sl_of (by rw [bs]; decide) (by assumption)
theorem l15 (A : Act) (w : World) (Q : Exit → Act → World → Prop) (wx : World) (b gx ga : Nat) (av : Value) (a : ActE) (L : LD A av (ptrB b) gx) (f10 : sl A.tmps 10 = ptrB ga) (x y : Sv) (p q : Int) (he : 0 ≤ y.l.e) (hne : ga ≠ gx) (F : FR A p 0 q 0) (HI : L2 wx ga a gx y (ptrB b) x w)
    (hQ : ∀ A' w', NearD 55 11 15 A A' → FR A' p (acqL y.s y.l a.n a.m).2.1 q (acqL y.s y.l a.n a.m).2.2 → L2 wx ga a gx ⟨y.s, (acqL y.s y.l a.n a.m).1⟩ (ptrB b) x w' → Q .normal A' w') :
    Code.wp Try.prog (lpR 15) Q A w := by
  have C := Lib.hid ((rlacquire_any y.s y.l a.n a.m w he).mono fun e w' ⟨h1, h2⟩ => (⟨h1, HI.below h2⟩ : e = _ ∧ L2 wx ga a gx y (ptrB b) x w'))
  generalize hr : acqL y.s y.l a.n a.m = r at *
  clear hr
  obtain ⟨g0, g1, g2, g3⟩ := l2_act HI
  obtain ⟨y0, y1, y2, y3, _, _, _, _⟩ := l2_sto HI
  obtain ⟨ys, yl⟩ := y
  obtain ⟨⟨zh, ze, zu⟩, z2⟩ := r
  unfold stoV at C
  clear HI
  obtain ⟨bs, bd, l1, l5, l7, l8⟩ := L
  have f1 := sl_get l1
  have f5 := sl_get l5
  have f7 := sl_get l7
  have f8 := sl_get l8
  clear l1 l5 l7 l8
  obtain ⟨n11, n12, n13, n14⟩ := F
  have f11 := sl_get n11
  have f12 := sl_get n12
  have f13 := sl_get n13
  have f14 := sl_get n14
  clear n11 n12 n13 n14
  replace f10 := sl_get f10
  have HQ := Lib.hid hQ
  clear hQ
  conv => arg 2; whnf
  go_wp2_with fail
  refine C.out.mono ?_; clear g0 g1 g2 g3 y0 y1 y2 y3 C; rintro e w2 ⟨rfl, hI⟩
  obtain ⟨y0, y1, y2, y3, u0, u1, u2, u3⟩ := l2_sto hI
  have HI2 := Lib.hid (l2_set ⟨ys, ⟨zh, ze, zu⟩⟩ hI hne)
  clear hI hne
  go_wp2_with fail
  refine HQ.out _ _ ⟨?_, ?_, fun i hi he => ?_⟩ ⟨?_, ?_, ?_, ?_⟩  HI2.out
  · try simp only [put_tmps]
    simp only [Array.size_setIfInBounds, bs]
  · first | (simp only [put_defers, bd]; done) | exact bd | rfl
  · try simp only [put_tmps]
    repeat rw [sl_ne _ (by omega)]
  · try simp only [put_tmps]
    repeat first | rw [sl_ne _ (by decide)] | rw [sl_eq _ (by simp only [Array.size_setIfInBounds, bs]; decide)]
    try exact sl_of (by rw [bs]; decide) (by assumption)
  · try simp only [put_tmps]
    repeat first | rw [sl_ne _ (by decide)] | rw [sl_eq _ (by simp only [Array.size_setIfInBounds, bs]; decide)]
    try exact sl_of (by rw [bs]; decide) (by assumption)
  · try simp only [put_tmps]
    repeat first | rw [sl_ne _ (by decide)] | rw [sl_eq _ (by simp only [Array.size_setIfInBounds, bs]; decide)]
    try exact sl_of (by rw [bs]; decide) (by assumption)
  · try simp only [put_tmps]
    repeat first | rw [sl_ne _ (by decide)] | rw [sl_eq _ (by simp only [Array.size_setIfInBounds, bs]; decide)]
    try exact sl_of (by rw [bs]; decide) (by assumption)
theorem l18 (A : Act) (w : World) (Q : Exit → Act → World → Prop) (wx : World) (b gx ga : Nat) (av : Value) (a : ActE) (L : LD A av (ptrB b) gx) (f10 : sl A.tmps 10 = ptrB ga) (x y : Sv) (p q : Int) (hne : ga ≠ gx) (F : FR A 0 0 q 0) (HI : L2 wx ga a gx y (ptrB b) x w)
    (hQ : ∀ A' w', NearD 55 11 15 A A' → FR A' 0 0 q (renL y.s y.l a.n a.m a.e).2 → L2 wx ga a gx ⟨y.s, (renL y.s y.l a.n a.m a.e).1⟩ (ptrB b) x w' → Q .normal A' w') :
    Code.wp Try.prog (lpR 18) Q A w := by
  have C := Lib.hid ((rlrenew_any y.s y.l a.n a.m a.e w).mono fun e w' ⟨h1, h2⟩ => (⟨h1, HI.below h2⟩ : e = _ ∧ L2 wx ga a gx y (ptrB b) x w'))
  generalize hr : renL y.s y.l a.n a.m a.e = r at *
  clear hr
  obtain ⟨g0, g1, g2, g3⟩ := l2_act HI
  obtain ⟨y0, y1, y2, y3, _, _, _, _⟩ := l2_sto HI
  obtain ⟨ys, yl⟩ := y
  obtain ⟨⟨zh, ze, zu⟩, z2⟩ := r
  unfold stoV at C
  clear HI
  obtain ⟨bs, bd, l1, l5, l7, l8⟩ := L
  have f1 := sl_get l1
  have f5 := sl_get l5
  have f7 := sl_get l7
  have f8 := sl_get l8
  clear l1 l5 l7 l8
  obtain ⟨n11, n12, n13, n14⟩ := F
  have f11 := sl_get n11
  have f12 := sl_get n12
  have f13 := sl_get n13
  have f14 := sl_get n14
  clear n11 n12 n13 n14
  replace f10 := sl_get f10
  have HQ := Lib.hid hQ
  clear hQ
  conv => arg 2; whnf
  go_wp2_with fail
  refine C.out.mono ?_; clear g0 g1 g2 g3 y0 y1 y2 y3 C; rintro e w2 ⟨rfl, hI⟩
  obtain ⟨y0, y1, y2, y3, u0, u1, u2, u3⟩ := l2_sto hI
  have HI2 := Lib.hid (l2_set ⟨ys, ⟨zh, ze, zu⟩⟩ hI hne)
  clear hI hne
  go_wp2_with fail
  refine HQ.out _ _ ⟨?_, ?_, fun i hi he => ?_⟩ ⟨?_, ?_, ?_, ?_⟩  HI2.out
  · try simp only [put_tmps]
    simp only [Array.size_setIfInBounds, bs]
  · first | (simp only [put_defers, bd]; done) | exact bd | rfl
  · try simp only [put_tmps]
    repeat rw [sl_ne _ (by omega)]
  · try simp only [put_tmps]
    repeat first | rw [sl_ne _ (by decide)] | rw [sl_eq _ (by simp only [Array.size_setIfInBounds, bs]; decide)]
    try exact sl_of (by rw [bs]; decide) (by assumption)
  · try simp only [put_tmps]
    repeat first | rw [sl_ne _ (by decide)] | rw [sl_eq _ (by simp only [Array.size_setIfInBounds, bs]; decide)]
    try exact sl_of (by rw [bs]; decide) (by assumption)
  · try simp only [put_tmps]
    repeat first | rw [sl_ne _ (by decide)] | rw [sl_eq _ (by simp only [Array.size_setIfInBounds, bs]; decide)]
    try exact sl_of (by rw [bs]; decide) (by assumption)
  · try simp only [put_tmps]
    repeat first | rw [sl_ne _ (by decide)] | rw [sl_eq _ (by simp only [Array.size_setIfInBounds, bs]; decide)]
    try exact sl_of (by rw [bs]; decide) (by assumption)
theorem l21 (A : Act) (w : World) (Q : Exit → Act → World → Prop) (wx : World) (b gx ga : Nat) (av : Value) (a : ActE) (L : LD A av (ptrB b) gx) (f10 : sl A.tmps 10 = ptrB ga) (x y : Sv) (p q : Int) (hne : ga ≠ gx) (F : FR A 0 0 q 0) (HI : L2 wx ga a gx y (ptrB b) x w)
    (hQ : ∀ A' w', NearD 55 11 15 A A' → FR A' 0 0 q (relL y.s y.l a.n a.m a.e).2 → L2 wx ga a gx ⟨y.s, (relL y.s y.l a.n a.m a.e).1⟩ (ptrB b) x w' → Q .normal A' w') :
    Code.wp Try.prog (lpR 21) Q A w := by
  have C := Lib.hid ((rlrelease_any y.s y.l a.n a.m a.e w).mono fun e w' ⟨h1, h2⟩ => (⟨h1, HI.below h2⟩ : e = _ ∧ L2 wx ga a gx y (ptrB b) x w'))
  generalize hr : relL y.s y.l a.n a.m a.e = r at *
  clear hr
  obtain ⟨g0, g1, g2, g3⟩ := l2_act HI
  obtain ⟨y0, y1, y2, y3, _, _, _, _⟩ := l2_sto HI
  obtain ⟨ys, yl⟩ := y
  obtain ⟨⟨zh, ze, zu⟩, z2⟩ := r
  unfold stoV at C
  clear HI
  obtain ⟨bs, bd, l1, l5, l7, l8⟩ := L
  have f1 := sl_get l1
  have f5 := sl_get l5
  have f7 := sl_get l7
  have f8 := sl_get l8
  clear l1 l5 l7 l8
  obtain ⟨n11, n12, n13, n14⟩ := F
  have f11 := sl_get n11
  have f12 := sl_get n12
  have f13 := sl_get n13
  have f14 := sl_get n14
  clear n11 n12 n13 n14
  replace f10 := sl_get f10
  have HQ := Lib.hid hQ
  clear hQ
  conv => arg 2; whnf
  go_wp2_with fail
  refine C.out.mono ?_; clear g0 g1 g2 g3 y0 y1 y2 y3 C; rintro e w2 ⟨rfl, hI⟩
  obtain ⟨y0, y1, y2, y3, u0, u1, u2, u3⟩ := l2_sto hI
  have HI2 := Lib.hid (l2_set ⟨ys, ⟨zh, ze, zu⟩⟩ hI hne)
  clear hI hne
  go_wp2_with fail
  refine HQ.out _ _ ⟨?_, ?_, fun i hi he => ?_⟩ ⟨?_, ?_, ?_, ?_⟩  HI2.out
  · try simp only [put_tmps]
    simp only [Array.size_setIfInBounds, bs]
  · first | (simp only [put_defers, bd]; done) | exact bd | rfl
  · try simp only [put_tmps]
    repeat rw [sl_ne _ (by omega)]
  · try simp only [put_tmps]
    repeat first | rw [sl_ne _ (by decide)] | rw [sl_eq _ (by simp only [Array.size_setIfInBounds, bs]; decide)]
    try exact sl_of (by rw [bs]; decide) (by assumption)
  · try simp only [put_tmps]
    repeat first | rw [sl_ne _ (by decide)] | rw [sl_eq _ (by simp only [Array.size_setIfInBounds, bs]; decide)]
    try exact sl_of (by rw [bs]; decide) (by assumption)
  · try simp only [put_tmps]
    repeat first | rw [sl_ne _ (by decide)] | rw [sl_eq _ (by simp only [Array.size_setIfInBounds, bs]; decide)]
    try exact sl_of (by rw [bs]; decide) (by assumption)
  · try simp only [put_tmps]
    repeat first | rw [sl_ne _ (by decide)] | rw [sl_eq _ (by simp only [Array.size_setIfInBounds, bs]; decide)]
    try exact sl_of (by rw [bs]; decide) (by assumption)
theorem l22 (A : Act) (w : World) (Q : Exit → Act → World → Prop) (wx : World) (b gx ga : Nat) (av : Value) (a : ActE) (L : LD A av (ptrB b) gx) (f10 : sl A.tmps 10 = ptrB ga) (x : Sv) (p q : Int) (F : FR A p p q q) (HI : L2 wx ga a gx x (ptrB b) x w)
    (hQ : ∀ A' w', NearD 10 10 10 A A' → sl A'.tmps 151 = .bool false → L2 wx ga a gx x (ptrB b) x w' → Q .normal A' w') :
    Code.wp Try.prog (lpR 22) Q A w := by
  have S1 := Lib.hid (fun w' (h : L2 wx ga a gx x (ptrB b) x w') => ob_get h)
  have S2 := Lib.hid (fun w' (h : L2 wx ga a gx x (ptrB b) x w') => ob_holds a.n a.m a.e h)
  have S3 := Lib.hid (fun w' (h : L2 wx ga a gx x (ptrB b) x w') => (rlholds_any x.s x.l a.n a.m a.e w').mono fun e w2 ⟨h1, h2⟩ => (⟨h1, h.below h2⟩ : e = _ ∧ L2 wx ga a gx x (ptrB b) x w2))
  have HI0 := Lib.hid HI.draws
  have HCE := Lib.hid (fun w' (h : L2 wx ga a gx x (ptrB b) x w') => And.intro (l2_act h) (l2_sto h))
  have hh : holdsL x.s x.l a.n a.m a.e = leadsL x.l a.n a.m a.e := by unfold holdsL; rw [decide_eq_true (show 0 < x.s by have := HI.lok; omega)]; rfl
  rw [hh] at S3
  clear hh
  generalize leadsL x.l a.n a.m a.e = lds at *
  have e5 : (p != p) = false := by simp
  have e6 : (q != q) = false := by simp
  have e7 : (lds != lds) = false := by simp
  have EQ : ∀ w : World, (Op.equalIn 10000 29 (.agg #[.int .i64 x.l.h, .int .i64 x.l.e, .int .i64 x.l.u]) (.agg #[.int .i64 x.l.h, .int .i64 x.l.e, .int .i64 x.l.u])).run Try.prog w = .ok true w := fun w => (eqL_run w x.l x.l).trans (by rw [eqL_same])
  unfold stoV at S3
  obtain ⟨bs, bd, l1, l5, l7, l8⟩ := L
  have f1 := sl_get l1
  have f5 := sl_get l5
  have f7 := sl_get l7
  have f8 := sl_get l8
  clear l1 l5 l7 l8
  obtain ⟨n11, n12, n13, n14⟩ := F
  have f11 := sl_get n11
  have f12 := sl_get n12
  have f13 := sl_get n13
  have f14 := sl_get n14
  clear n11 n12 n13 n14
  replace f10 := sl_get f10
  have HQ := Lib.hid hQ
  clear hQ
  clear HI
  conv => arg 2; whnf
  refine wp_region_hold (fun w' => L2 wx ga a gx x (ptrB b) x w') (by kernel_rfl) (by kernel_rfl) HI0.out ?_
  repeat
    first
    | (refine hold_val (v := ?_) ?_ ?_ ?_
       rotate_left
       · first
         | (simp [Region.wanted]; done)
         | (simp [Region.wanted, yielded, Act.put, bs]; done)
       · (intro w' hC
          obtain ⟨⟨_, _, _, _⟩, ⟨_, _, _, _, _⟩⟩ := HCE.out w' hC
          clear hC
          go_simp
          try with_reducible rfl))
    | (refine hold_call ?_ ?_ (fun w' hC => S1.out w' hC) ?_
       · first
         | (simp [Region.wanted]; done)
         | (simp [Region.wanted, yielded, Act.put, bs]; done)
       · (intro w' hC; go_simp; done))
    | (refine hold_call ?_ ?_ (fun w' hC => S2.out w' hC) ?_
       · first
         | (simp [Region.wanted]; done)
         | (simp [Region.wanted, yielded, Act.put, bs]; done)
       · (intro w' hC; go_simp; done))
    | (refine hold_call ?_ ?_ (fun w' hC => S3.out w' hC) ?_
       · first
         | (simp [Region.wanted]; done)
         | (simp [Region.wanted, yielded, Act.put, bs]; done)
       · (intro w' hC; go_simp; done))
  refine hold_nil (fun w3 hC => ?_)
  have HI3 := Lib.hid hC
  clear hC S1 S2 S3 HI0 HCE
  refine HQ.out _ _ ⟨?_, ?_, fun i hi he => ?_⟩  ?_ HI3.out
  · try simp only [put_tmps]
    simp only [Array.size_setIfInBounds, bs]
  · first | (simp only [put_defers, bd]; done) | exact bd | rfl
  · try simp only [put_tmps]
    repeat rw [sl_ne _ (by omega)]
  · try simp only [put_tmps]
    repeat first | rw [sl_ne _ (by decide)] | rw [sl_eq _ (by simp only [Array.size_setIfInBounds, bs]; decide)]
    try exact sl_of (by rw [bs]; decide) (by assumption)
end Go.Proofs.Ytcoclpghimcnfaa
