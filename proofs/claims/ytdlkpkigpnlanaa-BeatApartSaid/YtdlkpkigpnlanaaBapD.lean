/- The regions of BeatApart, a lemma each, the frame a variable. Conditions: as stated. -/
import Derived.Test.YtdlkpkigpnlanaaBapA
namespace Go.Proofs.Ytdlkpkigpnlanaa
open Go.ChangeShapes Go.WideShapes Go.ChangeAt Go.RowKit
set_option linter.unusedVariables false
set_option maxRecDepth 100000
set_option linter.unusedSimpArgs false
set_option maxHeartbeats 4000000

theorem a8t (A : Act) (w : World) (Q : Exit → Act → World → Prop) (k n cap : Nat) (a0 : Option Addr) (nd : Int) (v1 v2 : Value) (hd : decide (k < n) = true) (L : LD A (.slice a0 n cap) nd v1 v2) (f9 : sl A.tmps 9 = .int .i64 k)
    (hQ : ∀ A', NearD 14 14 14 A A' → sl A'.tmps 43 = .bool true → Q .normal A' w) :
    Code.wp Try.prog (baR 8) Q A w := by
  have hd2 : decide ((k : Int) < (n : Int)) = true := by rw [← hd]; exact decide_eq_decide.2 (by omega)
  obtain ⟨bs, bd, l0, l1, l5, l7⟩ := L
  have f0 := sl_get l0
  have f1 := sl_get l1
  have f5 := sl_get l5
  have f7 := sl_get l7
  clear l0 l1 l5 l7
  replace f9 := sl_get f9
  have HQ := Lib.hid hQ
  clear hQ
  conv => arg 2; whnf
  go_wp2_with fail
  refine HQ.out _ ⟨?_, ?_, fun i hi he => ?_⟩ ?_ 
  · try simp only [put_tmps]
    simp only [Array.size_setIfInBounds, bs]
  · first | (simp only [put_defers, bd]; done) | exact bd | rfl
  · try simp only [put_tmps]
    repeat rw [sl_ne _ (by omega)]
  · try simp only [put_tmps]
    repeat first | rw [sl_ne _ (by decide)] | rw [sl_eq _ (by simp only [Array.size_setIfInBounds, bs]; decide)]
    try exact sl_of (by rw [bs]; decide) (by assumption)
theorem a8f (A : Act) (w : World) (Q : Exit → Act → World → Prop) (k n cap : Nat) (a0 : Option Addr) (nd : Int) (v1 v2 : Value) (hd : decide (k < n) = false) (L : LD A (.slice a0 n cap) nd v1 v2) (f9 : sl A.tmps 9 = .int .i64 k)
    (hQ : ∀ A', NearD 14 14 14 A A' → sl A'.tmps 43 = .bool false → Q .normal A' w) :
    Code.wp Try.prog (baR 8) Q A w := by
  have hd2 : decide ((k : Int) < (n : Int)) = false := by rw [← hd]; exact decide_eq_decide.2 (by omega)
  obtain ⟨bs, bd, l0, l1, l5, l7⟩ := L
  have f0 := sl_get l0
  have f1 := sl_get l1
  have f5 := sl_get l5
  have f7 := sl_get l7
  clear l0 l1 l5 l7
  replace f9 := sl_get f9
  have HQ := Lib.hid hQ
  clear hQ
  conv => arg 2; whnf
  go_wp2_with fail
  refine HQ.out _ ⟨?_, ?_, fun i hi he => ?_⟩ ?_ 
  · try simp only [put_tmps]
    simp only [Array.size_setIfInBounds, bs]
  · first | (simp only [put_defers, bd]; done) | exact bd | rfl
  · try simp only [put_tmps]
    repeat rw [sl_ne _ (by omega)]
  · try simp only [put_tmps]
    repeat first | rw [sl_ne _ (by decide)] | rw [sl_eq _ (by simp only [Array.size_setIfInBounds, bs]; decide)]
    try exact sl_of (by rw [bs]; decide) (by assumption)
theorem a9 (A : Act) (w : World) (Q : Exit → Act → World → Prop) (k : Nat) (hk : k ≤ 200) (bs : A.tmps.size = 121) (bd : A.defers = []) (f9 : sl A.tmps 9 = .int .i64 k)
    (hQ : ∀ A', NearD 14 9 10 A A' → sl A'.tmps 9 = .int .i64 ((k : Int) + 1) → Q .normal A' w) :
    Code.wp Try.prog (baR 9) Q A w := by
  have q3 : IntKind.i64.wrap ((k : Int) + 1) = (k : Int) + 1 := IntWalk.i64_in _ (by omega)
  replace f9 := sl_get f9
  have HQ := Lib.hid hQ
  clear hQ
  conv => arg 2; whnf
  go_wp2_with fail
  refine HQ.out _ ⟨?_, ?_, fun i hi he => ?_⟩ ?_ 
  · try simp only [put_tmps]
    simp only [Array.size_setIfInBounds, bs]
  · first | (simp only [put_defers, bd]; done) | exact bd | rfl
  · try simp only [put_tmps]
    repeat rw [sl_ne _ (by omega)]
  · try simp only [put_tmps]
    repeat first | rw [sl_ne _ (by decide)] | rw [sl_eq _ (by simp only [Array.size_setIfInBounds, bs]; decide)]
    try exact sl_of (by rw [bs]; decide) (by assumption)
theorem a10 (A : Act) (w : World) (Q : Exit → Act → World → Prop) (wx : World) (k n cap ba oa : Nat) (v1 v2 : Value) (nd : Int) (a : ActE) (x1 x2 : Tv) (hlt : k < n) (hn : n ≤ 100) (HC : ∀ w', Below wx.heap.size wx w' → AcEC ba (oa + k * 4) a w')
    (L : LD A (.slice (some ⟨ba, oa, none⟩) n cap) nd v1 v2) (f9 : sl A.tmps 9 = .int .i64 k) (HI : TQ wx [] v1 x1 v2 x2 w)
    (hQ : ∀ A' w' ga, NearD 14 10 11 A A' → sl A'.tmps 10 = ptrB ga → TQ wx [(ga, acB a)] v1 x1 v2 x2 w' → Q .normal A' w') :
    Code.wp Try.prog (baR 10) Q A w := by
  have i0k : (0 : Int) ≤ (k : Int) := by omega
  have i1k : (k : Int) < (n : Int) := by omega
  have i2k : (n : Int) ≤ 100 := by omega
  obtain ⟨g0, g1, g2, g3⟩ := HC w HI.bel
  have HN := Lib.hid (HI.new (acB a))
  unfold acB at HN
  clear HC HI
  obtain ⟨bs, bd, l0, l1, l5, l7⟩ := L
  have f0 := sl_get l0
  have f1 := sl_get l1
  have f5 := sl_get l5
  have f7 := sl_get l7
  clear l0 l1 l5 l7
  replace f9 := sl_get f9
  have HQ := Lib.hid hQ
  clear hQ
  conv => arg 2; whnf
  go_wp2_with fail
  refine HQ.out _ _ _ ⟨?_, ?_, fun i hi he => ?_⟩ ?_ HN.out
  · try simp only [put_tmps]
    simp only [Array.size_setIfInBounds, bs]
  · first | (simp only [put_defers, bd]; done) | exact bd | rfl
  · try simp only [put_tmps]
    repeat rw [sl_ne _ (by omega)]
  · try simp only [put_tmps]
    repeat first | rw [sl_ne _ (by decide)] | rw [sl_eq _ (by simp only [Array.size_setIfInBounds, bs]; decide)]
    try exact sl_of (by rw [bs]; decide) (by assumption)
theorem a11 (A : Act) (w : World) (Q : Exit → Act → World → Prop) (wx : World) (ga : Nat) (av v1 v2 : Value) (nd : Int) (a : ActE) (L : LD A av nd v1 v2) (f10 : sl A.tmps 10 = ptrB ga) (x1 x2 : Tv) (HI : TQ wx [(ga, acB a)] v1 x1 v2 x2 w) 
    (hQ : ∀ A', NearD 14 11 12 A A' → sl A'.tmps 11 = .bool (a.n == nd) → Q .normal A' w) :
    Code.wp Try.prog (baR 11) Q A w := by
  obtain ⟨g0, g1, g2, g3⟩ := tq_act HI
  clear HI
  obtain ⟨bs, bd, l0, l1, l5, l7⟩ := L
  have f0 := sl_get l0
  have f1 := sl_get l1
  have f5 := sl_get l5
  have f7 := sl_get l7
  clear l0 l1 l5 l7
  replace f10 := sl_get f10
  have HQ := Lib.hid hQ
  clear hQ
  conv => arg 2; whnf
  go_wp2_with fail
  refine HQ.out _ ⟨?_, ?_, fun i hi he => ?_⟩ ?_ 
  · try simp only [put_tmps]
    simp only [Array.size_setIfInBounds, bs]
  · first | (simp only [put_defers, bd]; done) | exact bd | rfl
  · try simp only [put_tmps]
    repeat rw [sl_ne _ (by omega)]
  · try simp only [put_tmps]
    repeat first | rw [sl_ne _ (by decide)] | rw [sl_eq _ (by simp only [Array.size_setIfInBounds, bs]; decide)]
    try exact sl_of (by rw [bs]; decide) (by assumption)
theorem a12 (A : Act) (w : World) (Q : Exit → Act → World → Prop) (wx : World) (ga : Nat) (av v1 v2 : Value) (nd : Int) (a : ActE) (L : LD A av nd v1 v2) (f10 : sl A.tmps 10 = ptrB ga) (x1 x2 : Tv) (HI : TQ wx [(ga, acB a)] v1 x1 v2 x2 w) 
    (hQ : ∀ A', NearD 14 14 14 A A' → sl A'.tmps 55 = .int .i64 a.kind → Q .normal A' w) :
    Code.wp Try.prog (baR 12) Q A w := by
  obtain ⟨g0, g1, g2, g3⟩ := tq_act HI
  clear HI
  obtain ⟨bs, bd, l0, l1, l5, l7⟩ := L
  have f0 := sl_get l0
  have f1 := sl_get l1
  have f5 := sl_get l5
  have f7 := sl_get l7
  clear l0 l1 l5 l7
  replace f10 := sl_get f10
  have HQ := Lib.hid hQ
  clear hQ
  conv => arg 2; whnf
  go_wp2_with fail
  refine HQ.out _ ⟨?_, ?_, fun i hi he => ?_⟩ ?_ 
  · try simp only [put_tmps]
    simp only [Array.size_setIfInBounds, bs]
  · first | (simp only [put_defers, bd]; done) | exact bd | rfl
  · try simp only [put_tmps]
    repeat rw [sl_ne _ (by omega)]
  · try simp only [put_tmps]
    repeat first | rw [sl_ne _ (by decide)] | rw [sl_eq _ (by simp only [Array.size_setIfInBounds, bs]; decide)]
    try exact sl_of (by rw [bs]; decide) (by assumption)
theorem a15 (A : Act) (w : World) (Q : Exit → Act → World → Prop) (kd : Int) (bs : A.tmps.size = 121) (bd : A.defers = []) (f55 : sl A.tmps 55 = .int .i64 kd)
    (hQ : ∀ A', NearD 56 56 56 A A' → sl A'.tmps 68 = .bool (kd == 1) → Q .normal A' w) :
    Code.wp Try.prog (baR 15) Q A w := by
  replace f55 := sl_get f55
  have HQ := Lib.hid hQ
  clear hQ
  conv => arg 2; whnf
  go_wp2_with fail
  refine HQ.out _ ⟨?_, ?_, fun i hi he => ?_⟩ ?_ 
  · try simp only [put_tmps]
    simp only [Array.size_setIfInBounds, bs]
  · first | (simp only [put_defers, bd]; done) | exact bd | rfl
  · try simp only [put_tmps]
    repeat rw [sl_ne _ (by omega)]
  · try simp only [put_tmps]
    repeat first | rw [sl_ne _ (by decide)] | rw [sl_eq _ (by simp only [Array.size_setIfInBounds, bs]; decide)]
    try exact sl_of (by rw [bs]; decide) (by assumption)
theorem a19 (A : Act) (w : World) (Q : Exit → Act → World → Prop) (kd : Int) (bs : A.tmps.size = 121) (bd : A.defers = []) (f55 : sl A.tmps 55 = .int .i64 kd)
    (hQ : ∀ A', NearD 56 56 56 A A' → sl A'.tmps 92 = .bool (kd == 2) → Q .normal A' w) :
    Code.wp Try.prog (baR 19) Q A w := by
  replace f55 := sl_get f55
  have HQ := Lib.hid hQ
  clear hQ
  conv => arg 2; whnf
  go_wp2_with fail
  refine HQ.out _ ⟨?_, ?_, fun i hi he => ?_⟩ ?_ 
  · try simp only [put_tmps]
    simp only [Array.size_setIfInBounds, bs]
  · first | (simp only [put_defers, bd]; done) | exact bd | rfl
  · try simp only [put_tmps]
    repeat rw [sl_ne _ (by omega)]
  · try simp only [put_tmps]
    repeat first | rw [sl_ne _ (by decide)] | rw [sl_eq _ (by simp only [Array.size_setIfInBounds, bs]; decide)]
    try exact sl_of (by rw [bs]; decide) (by assumption)
theorem a16 (A : Act) (w : World) (Q : Exit → Act → World → Prop) (wx : World) (ga : Nat) (av v1 v2 : Value) (nd : Int) (a : ActE) (L : LD A av nd v1 v2) (f10 : sl A.tmps 10 = ptrB ga) (x1 x2 : Tv) (hin : inI a.n) (HI : TQ wx [(ga, acB a)] v1 x1 v2 x2 w) 
    (hQ : ∀ A' w', NearD 14 12 13 A A' → sl A'.tmps 12 = .int .i64 (seenB x1.s x1.l a.n a.m a.e).2 → TQ wx [(ga, acB a)] v1 ⟨x1.s, (seenB x1.s x1.l a.n a.m a.e).1⟩ v2 x2 w' → Q .normal A' w') :
    Code.wp Try.prog (baR 16) Q A w := by
  have C := Lib.hid (tq_seen1 a.m a.e hin HI)
  generalize seenB x1.s x1.l a.n a.m a.e = r at *
  obtain ⟨g0, g1, g2, g3⟩ := tq_act HI
  clear HI hin
  obtain ⟨bs, bd, l0, l1, l5, l7⟩ := L
  have f0 := sl_get l0
  have f1 := sl_get l1
  have f5 := sl_get l5
  have f7 := sl_get l7
  clear l0 l1 l5 l7
  replace f10 := sl_get f10
  have HQ := Lib.hid hQ
  clear hQ
  conv => arg 2; whnf
  go_wp2_with fail
  refine C.out.mono ?_; clear g0 g1 g2 g3 C; rintro e w2 ⟨rfl, hI⟩
  have HI2 := Lib.hid hI
  clear hI
  go_wp2_with fail
  refine HQ.out _ _ ⟨?_, ?_, fun i hi he => ?_⟩ ?_ HI2.out
  · try simp only [put_tmps]
    simp only [Array.size_setIfInBounds, bs]
  · first | (simp only [put_defers, bd]; done) | exact bd | rfl
  · try simp only [put_tmps]
    repeat rw [sl_ne _ (by omega)]
  · try simp only [put_tmps]
    repeat first | rw [sl_ne _ (by decide)] | rw [sl_eq _ (by simp only [Array.size_setIfInBounds, bs]; decide)]
    try exact sl_of (by rw [bs]; decide) (by assumption)
theorem a17m (A : Act) (w : World) (Q : Exit → Act → World → Prop) (wx : World) (ga : Nat) (av v1 v2 : Value) (nd : Int) (a : ActE) (L : LD A av nd v1 v2) (f10 : sl A.tmps 10 = ptrB ga) (x1 x2 : Tv) (f11 : sl A.tmps 11 = .bool true) (HI : TQ wx [(ga, acB a)] v1 x1 v2 x2 w) 
    (hQ : ∀ A', NearD 14 14 14 A A' → sl A'.tmps 91 = .bool false → Q .normal A' w) :
    Code.wp Try.prog (baR 17) Q A w := by
  have hun : undef = Value.tuple #[] := rfl
  obtain ⟨g0, g1, g2, g3⟩ := tq_act HI
  clear HI
  obtain ⟨bs, bd, l0, l1, l5, l7⟩ := L
  have f0 := sl_get l0
  have f1 := sl_get l1
  have f5 := sl_get l5
  have f7 := sl_get l7
  clear l0 l1 l5 l7
  replace f10 := sl_get f10
  replace f11 := sl_get f11
  have HQ := Lib.hid hQ
  clear hQ
  conv => arg 2; whnf
  go_wp2_with fail
  refine HQ.out _ ⟨?_, ?_, fun i hi he => ?_⟩ ?_ 
  · try simp only [put_tmps]
    simp only [Array.size_setIfInBounds, bs]
  · first | (simp only [put_defers, bd]; done) | exact bd | rfl
  · try simp only [put_tmps]
    repeat rw [sl_ne _ (by omega)]
  · try simp only [put_tmps]
    repeat first | rw [sl_ne _ (by decide)] | rw [sl_eq _ (by simp only [Array.size_setIfInBounds, bs]; decide)]
    try exact sl_of (by rw [bs]; decide) (by assumption)
theorem a17o (A : Act) (w : World) (Q : Exit → Act → World → Prop) (wx : World) (ga : Nat) (av v1 v2 : Value) (nd : Int) (a : ActE) (L : LD A av nd v1 v2) (f10 : sl A.tmps 10 = ptrB ga) (x1 x2 : Tv) (hin : inI a.n) (f11 : sl A.tmps 11 = .bool false) (f12 : sl A.tmps 12 = .int .i64 (seenB x2.s x2.l a.n a.m a.e).2) (HI : TQ wx [(ga, acB a)] v1 x1 v2 x2 w) 
    (hQ : ∀ A' w', NearD 14 14 14 A A' → sl A'.tmps 91 = .bool false → TQ wx [(ga, acB a)] v1 x1 v2 ⟨x2.s, (seenB x2.s x2.l a.n a.m a.e).1⟩ w' → Q .normal A' w') :
    Code.wp Try.prog (baR 17) Q A w := by
  have C := Lib.hid (tq_seen2 a.m a.e hin HI)
  generalize seenB x2.s x2.l a.n a.m a.e = r at *
  have e5 : (r.2 != r.2) = false := by simp
  obtain ⟨g0, g1, g2, g3⟩ := tq_act HI
  clear HI hin
  obtain ⟨bs, bd, l0, l1, l5, l7⟩ := L
  have f0 := sl_get l0
  have f1 := sl_get l1
  have f5 := sl_get l5
  have f7 := sl_get l7
  clear l0 l1 l5 l7
  replace f10 := sl_get f10
  replace f11 := sl_get f11
  replace f12 := sl_get f12
  have HQ := Lib.hid hQ
  clear hQ
  conv => arg 2; whnf
  go_wp2_with fail
  refine C.out.mono ?_; clear g0 g1 g2 g3 C; rintro e w2 ⟨rfl, hI⟩
  have HI2 := Lib.hid hI
  clear hI
  go_wp2_with fail
  refine HQ.out _ _ ⟨?_, ?_, fun i hi he => ?_⟩ ?_ HI2.out
  · try simp only [put_tmps]
    simp only [Array.size_setIfInBounds, bs]
  · first | (simp only [put_defers, bd]; done) | exact bd | rfl
  · try simp only [put_tmps]
    repeat rw [sl_ne _ (by omega)]
  · try simp only [put_tmps]
    repeat first | rw [sl_ne _ (by decide)] | rw [sl_eq _ (by simp only [Array.size_setIfInBounds, bs]; decide)]
    try exact sl_of (by rw [bs]; decide) (by assumption)
theorem a20 (A : Act) (w : World) (Q : Exit → Act → World → Prop) (wx : World) (ga : Nat) (av v1 v2 : Value) (nd : Int) (a : ActE) (L : LD A av nd v1 v2) (f10 : sl A.tmps 10 = ptrB ga) (x1 x2 : Tv) (hin : inI a.n) (HI : TQ wx [(ga, acB a)] v1 x1 v2 x2 w) 
    (hQ : ∀ A' w', NearD 14 13 14 A A' → sl A'.tmps 13 = .bool (dropB x1.l a.n a.m).2 → TQ wx [(ga, acB a)] v1 ⟨x1.s, (dropB x1.l a.n a.m).1⟩ v2 x2 w' → Q .normal A' w') :
    Code.wp Try.prog (baR 20) Q A w := by
  have C := Lib.hid (tq_drop1 a.m hin HI)
  generalize dropB x1.l a.n a.m = r at *
  obtain ⟨g0, g1, g2, g3⟩ := tq_act HI
  clear HI hin
  obtain ⟨bs, bd, l0, l1, l5, l7⟩ := L
  have f0 := sl_get l0
  have f1 := sl_get l1
  have f5 := sl_get l5
  have f7 := sl_get l7
  clear l0 l1 l5 l7
  replace f10 := sl_get f10
  have HQ := Lib.hid hQ
  clear hQ
  conv => arg 2; whnf
  go_wp2_with fail
  refine C.out.mono ?_; clear g0 g1 g2 g3 C; rintro e w2 ⟨rfl, hI⟩
  have HI2 := Lib.hid hI
  clear hI
  go_wp2_with fail
  refine HQ.out _ _ ⟨?_, ?_, fun i hi he => ?_⟩ ?_ HI2.out
  · try simp only [put_tmps]
    simp only [Array.size_setIfInBounds, bs]
  · first | (simp only [put_defers, bd]; done) | exact bd | rfl
  · try simp only [put_tmps]
    repeat rw [sl_ne _ (by omega)]
  · try simp only [put_tmps]
    repeat first | rw [sl_ne _ (by decide)] | rw [sl_eq _ (by simp only [Array.size_setIfInBounds, bs]; decide)]
    try exact sl_of (by rw [bs]; decide) (by assumption)
theorem a21m (A : Act) (w : World) (Q : Exit → Act → World → Prop) (wx : World) (ga : Nat) (av v1 v2 : Value) (nd : Int) (a : ActE) (L : LD A av nd v1 v2) (f10 : sl A.tmps 10 = ptrB ga) (x1 x2 : Tv) (f11 : sl A.tmps 11 = .bool true) (HI : TQ wx [(ga, acB a)] v1 x1 v2 x2 w) 
    (hQ : ∀ A', NearD 14 14 14 A A' → sl A'.tmps 111 = .bool false → Q .normal A' w) :
    Code.wp Try.prog (baR 21) Q A w := by
  have hun : undef = Value.tuple #[] := rfl
  obtain ⟨g0, g1, g2, g3⟩ := tq_act HI
  clear HI
  obtain ⟨bs, bd, l0, l1, l5, l7⟩ := L
  have f0 := sl_get l0
  have f1 := sl_get l1
  have f5 := sl_get l5
  have f7 := sl_get l7
  clear l0 l1 l5 l7
  replace f10 := sl_get f10
  replace f11 := sl_get f11
  have HQ := Lib.hid hQ
  clear hQ
  conv => arg 2; whnf
  go_wp2_with fail
  refine HQ.out _ ⟨?_, ?_, fun i hi he => ?_⟩ ?_ 
  · try simp only [put_tmps]
    simp only [Array.size_setIfInBounds, bs]
  · first | (simp only [put_defers, bd]; done) | exact bd | rfl
  · try simp only [put_tmps]
    repeat rw [sl_ne _ (by omega)]
  · try simp only [put_tmps]
    repeat first | rw [sl_ne _ (by decide)] | rw [sl_eq _ (by simp only [Array.size_setIfInBounds, bs]; decide)]
    try exact sl_of (by rw [bs]; decide) (by assumption)
theorem a21o (A : Act) (w : World) (Q : Exit → Act → World → Prop) (wx : World) (ga : Nat) (av v1 v2 : Value) (nd : Int) (a : ActE) (L : LD A av nd v1 v2) (f10 : sl A.tmps 10 = ptrB ga) (x1 x2 : Tv) (hin : inI a.n) (f11 : sl A.tmps 11 = .bool false) (f13 : sl A.tmps 13 = .bool (dropB x2.l a.n a.m).2) (HI : TQ wx [(ga, acB a)] v1 x1 v2 x2 w) 
    (hQ : ∀ A' w', NearD 14 14 14 A A' → sl A'.tmps 111 = .bool false → TQ wx [(ga, acB a)] v1 x1 v2 ⟨x2.s, (dropB x2.l a.n a.m).1⟩ w' → Q .normal A' w') :
    Code.wp Try.prog (baR 21) Q A w := by
  have C := Lib.hid (tq_drop2 a.m hin HI)
  generalize dropB x2.l a.n a.m = r at *
  have e5 : (r.2 != r.2) = false := by simp
  obtain ⟨g0, g1, g2, g3⟩ := tq_act HI
  clear HI hin
  obtain ⟨bs, bd, l0, l1, l5, l7⟩ := L
  have f0 := sl_get l0
  have f1 := sl_get l1
  have f5 := sl_get l5
  have f7 := sl_get l7
  clear l0 l1 l5 l7
  replace f10 := sl_get f10
  replace f11 := sl_get f11
  replace f13 := sl_get f13
  have HQ := Lib.hid hQ
  clear hQ
  conv => arg 2; whnf
  go_wp2_with fail
  refine C.out.mono ?_; clear g0 g1 g2 g3 C; rintro e w2 ⟨rfl, hI⟩
  have HI2 := Lib.hid hI
  clear hI
  go_wp2_with fail
  refine HQ.out _ _ ⟨?_, ?_, fun i hi he => ?_⟩ ?_ HI2.out
  · try simp only [put_tmps]
    simp only [Array.size_setIfInBounds, bs]
  · first | (simp only [put_defers, bd]; done) | exact bd | rfl
  · try simp only [put_tmps]
    repeat rw [sl_ne _ (by omega)]
  · try simp only [put_tmps]
    repeat first | rw [sl_ne _ (by decide)] | rw [sl_eq _ (by simp only [Array.size_setIfInBounds, bs]; decide)]
    try exact sl_of (by rw [bs]; decide) (by assumption)
def C13 (wx : World) (bs : List (Nat × Obj)) (v1 : Value) (x1 y1 : Tv) (v2 : Value) (x2 y2 : Tv) : Nat → World → Prop
  | 0, w => TQ wx bs v1 x1 v2 x2 w
  | 1, w => TQ wx bs v1 y1 v2 x2 w
  | 2, w => TQ wx bs v1 y1 v2 x2 w
  | _ + 3, w => TQ wx bs v1 y1 v2 y2 w
def D13 (wx : World) (bs : List (Nat × Obj)) (v1 : Value) (y1 : Tv) (v2 : Value) (x2 : Tv) (l : List Bt) (q : Nat) (o : Value) (p : Nat) (w : World) : Prop := p = q → TP wx bs v1 y1 v2 x2 o l w
def E13 (wx : World) (bs : List (Nat × Obj)) (v1 : Value) (y1 : Tv) (v2 : Value) (x2 y2 : Tv) (l : List Bt) (o : Value) (p : Nat) (w : World) : Prop := (p = 2 → TP wx bs v1 y1 v2 x2 o l w) ∧ (p = 3 → TP wx bs v1 y1 v2 y2 o l w)
def R13 (l : List Bt) (o : Value) (p : Nat) (w : World) : Prop := p = 3 → ∃ K, RdB w K o l
theorem c13_act {wx : World} {v1 v2 : Value} {x1 y1 x2 y2 : Tv} {ga : Nat} {a : ActE} {w : World} : ∀ {p : Nat}, C13 wx [(ga, acB a)] v1 x1 y1 v2 x2 y2 p w → w.cell? ⟨ga, 0, none⟩ = some (.int .i64 a.kind) ∧ w.cell? ⟨ga, 1, none⟩ = some (.int .i64 a.n) ∧ w.cell? ⟨ga, 2, none⟩ = some (.int .i64 a.m) ∧ w.cell? ⟨ga, 3, none⟩ = some (.int .i64 a.e)
  | 0, h => tq_act h
  | 1, h => tq_act h
  | 2, h => tq_act h
  | _ + 3, h => tq_act h
theorem a13 (A : Act) (w : World) (Q : Exit → Act → World → Prop) (wx : World) (ga : Nat) (av v1 v2 : Value) (nd : Int) (a : ActE) (L : LD A av nd v1 v2) (f10 : sl A.tmps 10 = ptrB ga) (x1 x2 : Tv) (hd : (dueB 16 x1.l a.e).1.length ≤ 1000) (hw : (dueB 16 x2.l a.e).1 = wobB (dueB 16 x1.l a.e).1 nd) (HI : TQ wx [(ga, acB a)] v1 x1 v2 x2 w) 
    (hQ : ∀ A' w', NearD 14 14 14 A A' → sl A'.tmps 67 = .bool false → TQ wx [(ga, acB a)] v1 ⟨x1.s, (dueB 16 x1.l a.e).2⟩ v2 ⟨x2.s, (dueB 16 x2.l a.e).2⟩ w' → Q .normal A' w') :
    Code.wp Try.prog (baR 13) Q A w := by
  have HI0 := Lib.hid HI.draws
  have U1 := Lib.hid (fun w' (h : TQ wx [(ga, acB a)] v1 x1 v2 x2 w') => tp_due1 a.e h)
  have OT := Lib.hid (fun w' o (h : TP wx [(ga, acB a)] v1 ⟨x1.s, (dueB 16 x1.l a.e).2⟩ v2 x2 o (dueB 16 x1.l a.e).1 w') => tp_others nd (by omega) h)
  have U2 := Lib.hid (fun w' o l3 (h : TP wx [(ga, acB a)] v1 ⟨x1.s, (dueB 16 x1.l a.e).2⟩ v2 x2 o l3 w') => tp_due2 a.e h)
  have hl2 : (dueB 16 x2.l a.e).1.length ≤ 100000 := by have := (dueB_len 16 x2.l a.e).1; omega
  rw [← hw] at OT
  generalize (dueB 16 x1.l a.e).1 = d1 at *
  generalize (dueB 16 x1.l a.e).2 = l1 at *
  generalize (dueB 16 x2.l a.e).1 = d2 at *
  generalize (dueB 16 x2.l a.e).2 = l2 at *
  have SM := Lib.hid (fun w' o u (h : TP wx [(ga, acB a)] v1 ⟨x1.s, l1⟩ v2 ⟨x2.s, l2⟩ o d2 w') (hr : ∃ K, RdB w' K u d2) => show Calls _ _ _ _ _ from by
    obtain ⟨K1, h1⟩ := hr
    exact tp_same hl2 h1 h)
  have HCE := Lib.hid (fun p w' (h : (C13 wx [(ga, acB a)] v1 x1 ⟨x1.s, l1⟩ v2 x2 ⟨x2.s, l2⟩) p w') => c13_act h)
  clear hw hl2 hd
  obtain ⟨bs, bd, l0, l1, l5, l7⟩ := L
  have f0 := sl_get l0
  have f1 := sl_get l1
  have f5 := sl_get l5
  have f7 := sl_get l7
  clear l0 l1 l5 l7
  replace f10 := sl_get f10
  have HQ := Lib.hid hQ
  clear hQ
  clear HI
  conv => arg 2; whnf
  refine wp_region_holdP [3, 5, 9, 10] (C13 wx [(ga, acB a)] v1 x1 ⟨x1.s, l1⟩ v2 x2 ⟨x2.s, l2⟩) (by kernel_rfl) (by kernel_rfl) HI0.out ?_
  repeat
    first
    | (refine holdP_val (v := ?_) (by rfl) ?_ ?_ ?_
       rotate_left
       · first
         | (simp [Region.wanted]; done)
         | (simp [Region.wanted, yielded, Act.put, bs]; done)
       · (intro p w' hC
          obtain ⟨_, _, _, _⟩ := (by first | exact HCE.out p w' hC | exact HCE.out p w' hC.1 | exact HCE.out p w' hC.1.1 | exact HCE.out p w' hC.1.1.1 : _ ∧ _ ∧ _ ∧ _)
          clear hC
          go_simp
          try with_reducible rfl))
    | (refine holdP_some 0 (D13 wx [(ga, acB a)] v1 ⟨x1.s, l1⟩ v2 x2 d1 1) rfl ?_ ?_ (fun w' hC => (U1.out w' hC).mono fun e w2 ⟨o1, he, h1⟩ => ⟨o1, he, ⟨_, _, h1⟩, fun _ => h1⟩) (fun o1 => ?_)
       · first
         | (simp [Region.wanted]; done)
         | (simp [Region.wanted, yielded, Act.put, bs]; done)
       · (intro w' hC; obtain ⟨_, _, _, _⟩ := HCE.out _ w' hC; go_simp; done))
    | (refine holdP_some 1 (E13 wx [(ga, acB a)] v1 ⟨x1.s, l1⟩ v2 x2 ⟨x2.s, l2⟩ d2) rfl ?_ ?_ (fun w' hC => (OT.out w' _ (hC.2 (by omega) rfl)).mono fun e w2 ⟨o2, he, h1⟩ => ⟨o2, he, ⟨⟨_, _, h1⟩, fun _ hp => absurd hp (by omega)⟩, fun _ => h1, fun hp => absurd hp (by omega)⟩) (fun o2 => ?_)
       · first
         | (simp [Region.wanted]; done)
         | (simp [Region.wanted, yielded, Act.put, bs]; done)
       · (intro w' hC; go_simp; done))
    | (refine holdP_some 2 (R13 d2) rfl ?_ ?_ (fun w' hC => (U2.out w' _ _ ((hC.2 (by omega)).1 rfl)).mono fun e w2 ⟨o3, he, h1, h2⟩ => ⟨o3, he, ⟨⟨⟨_, _, h1⟩, fun _ hp => absurd hp (by omega)⟩, fun _ => ⟨fun hp => absurd hp (by omega), fun _ => h1⟩⟩, fun _ => h2⟩) (fun o3 => ?_)
       · first
         | (simp [Region.wanted]; done)
         | (simp [Region.wanted, yielded, Act.put, bs]; done)
       · (intro w' hC; obtain ⟨_, _, _, _⟩ := HCE.out _ w' hC.1.1; go_simp; done))
    | (refine holdP_call 3 rfl ?_ ?_ (fun w' hC => (SM.out w' _ _ ((hC.1.2 (by omega)).2 rfl) (hC.2 (by omega) rfl)).mono fun e w2 ⟨he, h1⟩ => ⟨he, ⟨⟨⟨_, _, h1⟩, fun _ hp => absurd hp (by omega)⟩, fun _ => ⟨fun hp => absurd hp (by omega), fun hp => absurd hp (by omega)⟩⟩, fun _ hp => absurd hp (by omega)⟩) ?_
       · first
         | (simp [Region.wanted]; done)
         | (simp [Region.wanted, yielded, Act.put, bs]; done)
       · (intro w' hC; go_simp; done))
  refine holdP_nil (fun w3 hC => ?_)
  have HI3 := Lib.hid hC.1.1.1
  clear hC U1 U2 OT SM HI0 HCE
  refine HQ.out _ _ ⟨?_, ?_, fun i hi he => ?_⟩ ?_ HI3.out
  · try simp only [put_tmps]
    simp only [Array.size_setIfInBounds, bs]
  · first | (simp only [put_defers, bd]; done) | exact bd | rfl
  · try simp only [put_tmps]
    repeat rw [sl_ne _ (by omega)]
  · try simp only [put_tmps]
    repeat first | rw [sl_ne _ (by decide)] | rw [sl_eq _ (by simp only [Array.size_setIfInBounds, bs]; decide)]
    try exact sl_of (by rw [bs]; decide) (by assumption)
theorem a23 (A : Act) (w : World) (Q : Exit → Act → World → Prop) (wx : World) (ga : Nat) (av v1 v2 : Value) (nd : Int) (a : ActE) (L : LD A av nd v1 v2) (f10 : sl A.tmps 10 = ptrB ga) (x1 x2 : Tv) (hl : x1.l.length ≤ 1000) (hw : x2.l = wobB x1.l nd) (HI : TQ wx [(ga, acB a)] v1 x1 v2 x2 w) 
    (hQ : ∀ A' w', NearD 14 14 14 A A' → sl A'.tmps 119 = .bool false → TQ wx [(ga, acB a)] v1 x1 v2 x2 w' → Q .normal A' w') :
    Code.wp Try.prog (baR 23) Q A w := by
  have C1 := Lib.hid (tp_all1 HI)
  have hl2 : x2.l.length ≤ 100000 := by rw [hw]; have := wobB_len x1.l nd; omega
  clear HI
  obtain ⟨bs, bd, l0, l1, l5, l7⟩ := L
  have f0 := sl_get l0
  have f1 := sl_get l1
  have f5 := sl_get l5
  have f7 := sl_get l7
  clear l0 l1 l5 l7
  replace f10 := sl_get f10
  have HQ := Lib.hid hQ
  clear hQ
  conv => arg 2; whnf
  go_wp2_with fail
  refine C1.out.mono ?_; clear C1; rintro e w2 ⟨u1, rfl, h1⟩
  have C2 := Lib.hid (tp_others nd (by omega) h1)
  rw [← hw] at C2
  clear h1
  go_wp2_with fail
  refine C2.out.mono ?_; clear C2; rintro e w3 ⟨u2, rfl, h2⟩
  have C3 := Lib.hid (tp_all2 h2)
  clear h2
  go_wp2_with fail
  refine C3.out.mono ?_; clear C3; rintro e w4 ⟨u3, rfl, h3, K3, h4⟩
  have C4 := Lib.hid (tp_same hl2 h4 h3)
  clear h3 h4
  go_wp2_with fail
  refine C4.out.mono ?_; clear C4; rintro e w5 ⟨rfl, h5⟩
  have HI2 := Lib.hid (show TQ _ _ _ _ _ _ _ from ⟨_, _, h5⟩)
  clear h5
  go_wp2_with fail
  refine HQ.out _ _ ⟨?_, ?_, fun i hi he => ?_⟩ ?_ HI2.out
  · try simp only [put_tmps]
    simp only [Array.size_setIfInBounds, bs]
  · first | (simp only [put_defers, bd]; done) | exact bd | rfl
  · try simp only [put_tmps]
    repeat rw [sl_ne _ (by omega)]
  · try simp only [put_tmps]
    repeat first | rw [sl_ne _ (by decide)] | rw [sl_eq _ (by simp only [Array.size_setIfInBounds, bs]; decide)]
    try exact sl_of (by rw [bs]; decide) (by assumption)
end Go.Proofs.Ytdlkpkigpnlanaa
