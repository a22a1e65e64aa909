/- The regions of LeaseOnce, a lemma each, the frame a variable. Conditions: as stated. -/
import Derived.Test.YtcoclpghimcnfaaLopA
namespace Go.Proofs.Ytcoclpghimcnfaa
open Go.ChangeShapes Go.WideShapes Go.ChangeAt Go.RowKit
set_option linter.unusedVariables false
set_option maxRecDepth 100000
set_option linter.unusedSimpArgs false
set_option maxHeartbeats 4000000

theorem o9t (A : Act) (w : World) (Q : Exit → Act → World → Prop) (k n cap : Nat) (a0 : Option Addr) (vs : Value) (hd : decide (k < n) = true) (L : LD A (.slice a0 n cap) vs) (f10 : sl A.tmps 10 = .int .i64 k)
    (hQ : ∀ A', NearD 20 20 20 A A' → sl A'.tmps 41 = .bool true → Q .normal A' w) :
    Code.wp Try.prog (opR 9) Q A w := by
  have hd2 : decide ((k : Int) < (n : Int)) = true := by rw [← hd]; exact decide_eq_decide.2 (by omega)
  obtain ⟨bs, bd, l1, l5⟩ := L
  have f1 := sl_get l1
  have f5 := sl_get l5
  clear l1 l5
  replace f10 := sl_get f10
  have HQ := Lib.hid hQ
  clear hQ
  conv => arg 2; whnf
  go_wp2_with fail
  refine HQ.out _ ⟨?_, ?_, fun i hi he => ?_⟩ ?_ 
  · try simp only [put_tmps]
    simp only [Array.size_setIfInBounds, bs]
  · first | (simp only [put_defers, bd]; done) | exact bd | rfl
  · try simp only [put_tmps]
    repeat rw [sl_ne _ (by omega)]
  · try simp only [put_tmps]
    repeat first | rw [sl_ne _ (by decide)] | rw [sl_eq _ (by simp only [Array.size_setIfInBounds, bs]; decide)]
    try exact sl_of (by rw [bs]; decide) (by assumption)
theorem o9f (A : Act) (w : World) (Q : Exit → Act → World → Prop) (k n cap : Nat) (a0 : Option Addr) (vs : Value) (hd : decide (k < n) = false) (L : LD A (.slice a0 n cap) vs) (f10 : sl A.tmps 10 = .int .i64 k)
    (hQ : ∀ A', NearD 20 20 20 A A' → sl A'.tmps 41 = .bool false → Q .normal A' w) :
    Code.wp Try.prog (opR 9) Q A w := by
  have hd2 : decide ((k : Int) < (n : Int)) = false := by rw [← hd]; exact decide_eq_decide.2 (by omega)
  obtain ⟨bs, bd, l1, l5⟩ := L
  have f1 := sl_get l1
  have f5 := sl_get l5
  clear l1 l5
  replace f10 := sl_get f10
  have HQ := Lib.hid hQ
  clear hQ
  conv => arg 2; whnf
  go_wp2_with fail
  refine HQ.out _ ⟨?_, ?_, fun i hi he => ?_⟩ ?_ 
  · try simp only [put_tmps]
    simp only [Array.size_setIfInBounds, bs]
  · first | (simp only [put_defers, bd]; done) | exact bd | rfl
  · try simp only [put_tmps]
    repeat rw [sl_ne _ (by omega)]
  · try simp only [put_tmps]
    repeat first | rw [sl_ne _ (by decide)] | rw [sl_eq _ (by simp only [Array.size_setIfInBounds, bs]; decide)]
    try exact sl_of (by rw [bs]; decide) (by assumption)
theorem o10 (A : Act) (w : World) (Q : Exit → Act → World → Prop) (k : Nat) (hk : k ≤ 200) (bs : A.tmps.size = 185) (bd : A.defers = []) (f10 : sl A.tmps 10 = .int .i64 k)
    (hQ : ∀ A', NearD 11 10 11 A A' → sl A'.tmps 10 = .int .i64 ((k : Int) + 1) → Q .normal A' w) :
    Code.wp Try.prog (opR 10) Q A w := by
  have q3 : IntKind.i64.wrap ((k : Int) + 1) = (k : Int) + 1 := IntWalk.i64_in _ (by omega)
  replace f10 := sl_get f10
  have HQ := Lib.hid hQ
  clear hQ
  conv => arg 2; whnf
  go_wp2_with fail
  refine HQ.out _ ⟨?_, ?_, fun i hi he => ?_⟩ ?_ 
  · try simp only [put_tmps]
    simp only [Array.size_setIfInBounds, bs]
  · first | (simp only [put_defers, bd]; done) | exact bd | rfl
  · try simp only [put_tmps]
    repeat rw [sl_ne _ (by omega)]
  · try simp only [put_tmps]
    repeat first | rw [sl_ne _ (by decide)] | rw [sl_eq _ (by simp only [Array.size_setIfInBounds, bs]; decide)]
    try exact sl_of (by rw [bs]; decide) (by assumption)
theorem o11 (A : Act) (w : World) (Q : Exit → Act → World → Prop) (k n cap ba oa : Nat) (vs : Value) (a : ActE) (hlt : k < n) (hn : n ≤ 150) (HC : AcEC ba (oa + k * 4) a w)
    (L : LD A (.slice (some ⟨ba, oa, none⟩) n cap) vs) (f10 : sl A.tmps 10 = .int .i64 k) (now : Int) (f7 : sl A.tmps 7 = .int .i64 now)
    (hQ : ∀ A' now', NearD 20 7 8 A A' → sl A'.tmps 7 = .int .i64 now' → Q .normal A' w) :
    Code.wp Try.prog (opR 11) Q A w := by
  have i0k : (0 : Int) ≤ (k : Int) := by omega
  have i1k : (k : Int) < (n : Int) := by omega
  have i2k : (n : Int) ≤ 150 := by omega
  obtain ⟨g0, g1, g2, g3⟩ := HC
  obtain ⟨bs, bd, l1, l5⟩ := L
  have f1 := sl_get l1
  have f5 := sl_get l5
  clear l1 l5
  replace f10 := sl_get f10
  replace f7 := sl_get f7
  have HQ := Lib.hid hQ
  clear hQ
  conv => arg 2; whnf
  go_wp2_with fail
  refine HQ.out _ (wrap64 (now + bits .and .i64 a.n 7)) ⟨?_, ?_, fun i hi he => ?_⟩ ?_ 
  · try simp only [put_tmps]
    simp only [Array.size_setIfInBounds, bs]
  · first | (simp only [put_defers, bd]; done) | exact bd | rfl
  · try simp only [put_tmps]
    repeat rw [sl_ne _ (by omega)]
  · try simp only [put_tmps]
    repeat first | rw [sl_ne _ (by decide)] | rw [sl_eq _ (by simp only [Array.size_setIfInBounds, bs]; decide)]
    try exact sl_of (by rw [bs]; decide) (by assumption)
theorem o12 (A : Act) (w : World) (Q : Exit → Act → World → Prop) (k n cap ba oa : Nat) (vs : Value) (a : ActE) (hlt : k < n) (hn : n ≤ 150) (HC : AcEC ba (oa + k * 4) a w)
    (L : LD A (.slice (some ⟨ba, oa, none⟩) n cap) vs) (f10 : sl A.tmps 10 = .int .i64 k) 
    (hQ : ∀ A' who, NearD 20 11 12 A A' → sl A'.tmps 11 = .int .i64 who → Q .normal A' w) :
    Code.wp Try.prog (opR 12) Q A w := by
  have i0k : (0 : Int) ≤ (k : Int) := by omega
  have i1k : (k : Int) < (n : Int) := by omega
  have i2k : (n : Int) ≤ 150 := by omega
  obtain ⟨g0, g1, g2, g3⟩ := HC
  obtain ⟨bs, bd, l1, l5⟩ := L
  have f1 := sl_get l1
  have f5 := sl_get l5
  clear l1 l5
  replace f10 := sl_get f10
  have HQ := Lib.hid hQ
  clear hQ
  conv => arg 2; whnf
  go_wp2_with fail
  refine HQ.out _ (bits .and .i64 a.m 3) ⟨?_, ?_, fun i hi he => ?_⟩ ?_ 
  · try simp only [put_tmps]
    simp only [Array.size_setIfInBounds, bs]
  · first | (simp only [put_defers, bd]; done) | exact bd | rfl
  · try simp only [put_tmps]
    repeat rw [sl_ne _ (by omega)]
  · try simp only [put_tmps]
    repeat first | rw [sl_ne _ (by decide)] | rw [sl_eq _ (by simp only [Array.size_setIfInBounds, bs]; decide)]
    try exact sl_of (by rw [bs]; decide) (by assumption)
theorem o13 (A : Act) (w : World) (Q : Exit → Act → World → Prop) (k n cap ba oa : Nat) (vs : Value) (a : ActE) (hlt : k < n) (hn : n ≤ 150) (HC : AcEC ba (oa + k * 4) a w)
    (L : LD A (.slice (some ⟨ba, oa, none⟩) n cap) vs) (f10 : sl A.tmps 10 = .int .i64 k) 
    (hQ : ∀ A', NearD 20 20 20 A A' → sl A'.tmps 62 = .int .i64 a.kind → Q .normal A' w) :
    Code.wp Try.prog (opR 13) Q A w := by
  have i0k : (0 : Int) ≤ (k : Int) := by omega
  have i1k : (k : Int) < (n : Int) := by omega
  have i2k : (n : Int) ≤ 150 := by omega
  obtain ⟨g0, g1, g2, g3⟩ := HC
  obtain ⟨bs, bd, l1, l5⟩ := L
  have f1 := sl_get l1
  have f5 := sl_get l5
  clear l1 l5
  replace f10 := sl_get f10
  have HQ := Lib.hid hQ
  clear hQ
  conv => arg 2; whnf
  go_wp2_with fail
  refine HQ.out _ ⟨?_, ?_, fun i hi he => ?_⟩ ?_ 
  · try simp only [put_tmps]
    simp only [Array.size_setIfInBounds, bs]
  · first | (simp only [put_defers, bd]; done) | exact bd | rfl
  · try simp only [put_tmps]
    repeat rw [sl_ne _ (by omega)]
  · try simp only [put_tmps]
    repeat first | rw [sl_ne _ (by decide)] | rw [sl_eq _ (by simp only [Array.size_setIfInBounds, bs]; decide)]
    try exact sl_of (by rw [bs]; decide) (by assumption)
theorem o14 (A : Act) (w : World) (Q : Exit → Act → World → Prop) (kd : Int) (bs : A.tmps.size = 185) (bd : A.defers = []) (f62 : sl A.tmps 62 = .int .i64 kd)
    (hQ : ∀ A', NearD 63 63 63 A A' → sl A'.tmps 63 = .bool (kd == 1) → Q .normal A' w) :
    Code.wp Try.prog (opR 14) Q A w := by
  replace f62 := sl_get f62
  have HQ := Lib.hid hQ
  clear hQ
  conv => arg 2; whnf
  go_wp2_with fail
  refine HQ.out _ ⟨?_, ?_, fun i hi he => ?_⟩ ?_ 
  · try simp only [put_tmps]
    simp only [Array.size_setIfInBounds, bs]
  · first | (simp only [put_defers, bd]; done) | exact bd | rfl
  · try simp only [put_tmps]
    repeat rw [sl_ne _ (by omega)]
  · try simp only [put_tmps]
    repeat first | rw [sl_ne _ (by decide)] | rw [sl_eq _ (by simp only [Array.size_setIfInBounds, bs]; decide)]
    try exact sl_of (by rw [bs]; decide) (by assumption)
theorem o22 (A : Act) (w : World) (Q : Exit → Act → World → Prop) (kd : Int) (bs : A.tmps.size = 185) (bd : A.defers = []) (f62 : sl A.tmps 62 = .int .i64 kd)
    (hQ : ∀ A', NearD 63 63 63 A A' → sl A'.tmps 93 = .bool (kd == 2) → Q .normal A' w) :
    Code.wp Try.prog (opR 22) Q A w := by
  replace f62 := sl_get f62
  have HQ := Lib.hid hQ
  clear hQ
  conv => arg 2; whnf
  go_wp2_with fail
  refine HQ.out _ ⟨?_, ?_, fun i hi he => ?_⟩ ?_ 
  · try simp only [put_tmps]
    simp only [Array.size_setIfInBounds, bs]
  · first | (simp only [put_defers, bd]; done) | exact bd | rfl
  · try simp only [put_tmps]
    repeat rw [sl_ne _ (by omega)]
  · try simp only [put_tmps]
    repeat first | rw [sl_ne _ (by decide)] | rw [sl_eq _ (by simp only [Array.size_setIfInBounds, bs]; decide)]
    try exact sl_of (by rw [bs]; decide) (by assumption)
theorem o26 (A : Act) (w : World) (Q : Exit → Act → World → Prop) (kd : Int) (bs : A.tmps.size = 185) (bd : A.defers = []) (f62 : sl A.tmps 62 = .int .i64 kd)
    (hQ : ∀ A', NearD 63 63 63 A A' → sl A'.tmps 123 = .bool (kd == 3) → Q .normal A' w) :
    Code.wp Try.prog (opR 26) Q A w := by
  replace f62 := sl_get f62
  have HQ := Lib.hid hQ
  clear hQ
  conv => arg 2; whnf
  go_wp2_with fail
  refine HQ.out _ ⟨?_, ?_, fun i hi he => ?_⟩ ?_ 
  · try simp only [put_tmps]
    simp only [Array.size_setIfInBounds, bs]
  · first | (simp only [put_defers, bd]; done) | exact bd | rfl
  · try simp only [put_tmps]
    repeat rw [sl_ne _ (by omega)]
  · try simp only [put_tmps]
    repeat first | rw [sl_ne _ (by decide)] | rw [sl_eq _ (by simp only [Array.size_setIfInBounds, bs]; decide)]
    try exact sl_of (by rw [bs]; decide) (by assumption)
theorem o15 (A : Act) (w : World) (Q : Exit → Act → World → Prop) (wx : World) (b : Nat) (av : Value) (L : LD A av (ptrB b)) (x : Sv) (HI : OB leaO wx [] (ptrB b) x w)
    (hQ : ∀ A' w' gw, NearD 63 12 13 A A' → sl A'.tmps 12 = ptrB gw → OB leaO wx [(gw, lsB x.l)] (ptrB b) x w' → Q .normal A' w') :
    Code.wp Try.prog (opR 15) Q A w := by
  have C := Lib.hid (ob_get HI)
  clear HI
  obtain ⟨bs, bd, l1, l5⟩ := L
  have f1 := sl_get l1
  have f5 := sl_get l5
  clear l1 l5
  have HQ := Lib.hid hQ
  clear hQ
  conv => arg 2; whnf
  go_wp2_with fail
  refine C.out.mono ?_; clear C; rintro e w2 ⟨rfl, hI⟩
  have HN := Lib.hid (hI.new (lsB x.l))
  clear hI
  go_wp2_with fail
  refine HQ.out _ _ _ ⟨?_, ?_, fun i hi he => ?_⟩ ?_ HN.out
  · try simp only [put_tmps]
    simp only [Array.size_setIfInBounds, bs]
  · first | (simp only [put_defers, bd]; done) | exact bd | rfl
  · try simp only [put_tmps]
    repeat rw [sl_ne _ (by omega)]
  · try simp only [put_tmps]
    repeat first | rw [sl_ne _ (by decide)] | rw [sl_eq _ (by simp only [Array.size_setIfInBounds, bs]; decide)]
    try exact sl_of (by rw [bs]; decide) (by assumption)
theorem o16 (A : Act) (w : World) (Q : Exit → Act → World → Prop) (wx : World) (b : Nat) (av : Value) (L : LD A av (ptrB b)) (x : Sv) (gw : Nat) (l0 : Ls) (now who : Int) (f7 : sl A.tmps 7 = .int .i64 now) (f11 : sl A.tmps 11 = .int .i64 who) (HI : OB leaO wx [(gw, lsB l0)] (ptrB b) x w)
    (hQ : ∀ A' w', NearD 63 13 15 A A' → sl A'.tmps 13 = .int .i64 (acqL x.s x.l now who).2.1 → sl A'.tmps 14 = .int .i64 (acqL x.s x.l now who).2.2 → OB leaO wx [(gw, lsB l0)] (ptrB b) ⟨x.s, (acqL x.s x.l now who).1⟩ w' → Q .normal A' w') :
    Code.wp Try.prog (opR 16) Q A w := by
  have C := Lib.hid (ob_acq now who HI)
  generalize acqL x.s x.l now who = r at *
  clear HI
  obtain ⟨bs, bd, l1, l5⟩ := L
  have f1 := sl_get l1
  have f5 := sl_get l5
  clear l1 l5
  replace f7 := sl_get f7
  replace f11 := sl_get f11
  have HQ := Lib.hid hQ
  clear hQ
  conv => arg 2; whnf
  go_wp2_with fail
  refine C.out.mono ?_; clear C; rintro e w2 ⟨rfl, hI⟩
  have HI2 := Lib.hid hI
  clear hI
  go_wp2_with fail
  refine HQ.out _ _ ⟨?_, ?_, fun i hi he => ?_⟩ ?_ ?_ HI2.out
  · try simp only [put_tmps]
    simp only [Array.size_setIfInBounds, bs]
  · first | (simp only [put_defers, bd]; done) | exact bd | rfl
  · try simp only [put_tmps]
    repeat rw [sl_ne _ (by omega)]
  · try simp only [put_tmps]
    repeat first | rw [sl_ne _ (by decide)] | rw [sl_eq _ (by simp only [Array.size_setIfInBounds, bs]; decide)]
    try exact sl_of (by rw [bs]; decide) (by assumption)
  · try simp only [put_tmps]
    repeat first | rw [sl_ne _ (by decide)] | rw [sl_eq _ (by simp only [Array.size_setIfInBounds, bs]; decide)]
    try exact sl_of (by rw [bs]; decide) (by assumption)
theorem o17 (A : Act) (w : World) (Q : Exit → Act → World → Prop) (g : Int) (bs : A.tmps.size = 185) (bd : A.defers = []) (f14 : sl A.tmps 14 = .int .i64 g)
    (hQ : ∀ A', NearD 63 63 63 A A' → sl A'.tmps 75 = .bool (g == 0) → Q .normal A' w) :
    Code.wp Try.prog (opR 17) Q A w := by
  replace f14 := sl_get f14
  have HQ := Lib.hid hQ
  clear hQ
  conv => arg 2; whnf
  go_wp2_with fail
  refine HQ.out _ ⟨?_, ?_, fun i hi he => ?_⟩ ?_ 
  · try simp only [put_tmps]
    simp only [Array.size_setIfInBounds, bs]
  · first | (simp only [put_defers, bd]; done) | exact bd | rfl
  · try simp only [put_tmps]
    repeat rw [sl_ne _ (by omega)]
  · try simp only [put_tmps]
    repeat first | rw [sl_ne _ (by decide)] | rw [sl_eq _ (by simp only [Array.size_setIfInBounds, bs]; decide)]
    try exact sl_of (by rw [bs]; decide) (by assumption)
theorem o28 (A : Act) (w : World) (Q : Exit → Act → World → Prop) (g : Int) (bs : A.tmps.size = 185) (bd : A.defers = []) (f16 : sl A.tmps 16 = .int .i64 g)
    (hQ : ∀ A', NearD 63 63 63 A A' → sl A'.tmps 138 = .bool (g == 0) → Q .normal A' w) :
    Code.wp Try.prog (opR 28) Q A w := by
  replace f16 := sl_get f16
  have HQ := Lib.hid hQ
  clear hQ
  conv => arg 2; whnf
  go_wp2_with fail
  refine HQ.out _ ⟨?_, ?_, fun i hi he => ?_⟩ ?_ 
  · try simp only [put_tmps]
    simp only [Array.size_setIfInBounds, bs]
  · first | (simp only [put_defers, bd]; done) | exact bd | rfl
  · try simp only [put_tmps]
    repeat rw [sl_ne _ (by omega)]
  · try simp only [put_tmps]
    repeat first | rw [sl_ne _ (by decide)] | rw [sl_eq _ (by simp only [Array.size_setIfInBounds, bs]; decide)]
    try exact sl_of (by rw [bs]; decide) (by assumption)
theorem o18 (A : Act) (w : World) (Q : Exit → Act → World → Prop) (bs : A.tmps.size = 185) (bd : A.defers = []) (gw : Nat) (l : Ls) (n ep now : Int) (he : 0 ≤ ep ∧ ep ≤ 4294967295) (hn : n = ep + 1) (hu : ¬ (0 ≤ l.h ∧ now < l.u)) (f7 : sl A.tmps 7 = .int .i64 now) (f8 : sl A.tmps 8 = .int .i64 ep) (f12 : sl A.tmps 12 = ptrB gw) (f13 : sl A.tmps 13 = .int .i64 n) (h12 : w.heap[gw]? = some (lsB l))
    (hQ : ∀ A', NearD 63 63 63 A A' → sl A'.tmps 90 = .bool false → Q .normal A' w) :
    Code.wp Try.prog (opR 18) Q A w := by
  have hun : undef = Value.tuple #[] := rfl
  have q3 : IntKind.i64.wrap (ep + 1) = ep + 1 := IntWalk.i64_in _ (by omega)
  obtain ⟨y0, y1, y2⟩ := ls_cells h12
  have q4 : (n != ep + 1) = false := by simpa using hn
  clear h12 hn
  replace f7 := sl_get f7
  replace f8 := sl_get f8
  replace f12 := sl_get f12
  replace f13 := sl_get f13
  have HQ := Lib.hid hQ
  clear hQ
  by_cases h0 : 0 ≤ l.h
  · have r0 : decide (l.h ≥ 0) = true := decide_eq_true h0
    have r9 : decide (0 ≤ l.h) = true := decide_eq_true h0
    have r1 : decide (now < l.u) = false := decide_eq_false (fun p => hu ⟨h0, p⟩)
    clear hu h0
    conv => arg 2; whnf
    go_wp2_with fail
    refine HQ.out _ ⟨?_, ?_, fun i hi he => ?_⟩ ?_ 
    · try simp only [put_tmps]
      simp only [Array.size_setIfInBounds, bs]
    · first | (simp only [put_defers, bd]; done) | exact bd | rfl
    · try simp only [put_tmps]
      repeat rw [sl_ne _ (by omega)]
    · try simp only [put_tmps]
      repeat first | rw [sl_ne _ (by decide)] | rw [sl_eq _ (by simp only [Array.size_setIfInBounds, bs]; decide)]
      try exact sl_of (by rw [bs]; decide) (by assumption)
  · have r0 : decide (l.h ≥ 0) = false := decide_eq_false h0
    have r9 : decide (0 ≤ l.h) = false := decide_eq_false h0
    clear hu h0
    conv => arg 2; whnf
    go_wp2_with fail
    refine HQ.out _ ⟨?_, ?_, fun i hi he => ?_⟩ ?_ 
    · try simp only [put_tmps]
      simp only [Array.size_setIfInBounds, bs]
    · first | (simp only [put_defers, bd]; done) | exact bd | rfl
    · try simp only [put_tmps]
      repeat rw [sl_ne _ (by omega)]
    · try simp only [put_tmps]
      repeat first | rw [sl_ne _ (by decide)] | rw [sl_eq _ (by simp only [Array.size_setIfInBounds, bs]; decide)]
      try exact sl_of (by rw [bs]; decide) (by assumption)
theorem o20 (A : Act) (w : World) (Q : Exit → Act → World → Prop) (n : Int) (bs : A.tmps.size = 185) (bd : A.defers = []) (f13 : sl A.tmps 13 = .int .i64 n)
    (hQ : ∀ A', NearD 63 8 9 A A' → sl A'.tmps 8 = .int .i64 n → Q .normal A' w) :
    Code.wp Try.prog (opR 20) Q A w := by
  replace f13 := sl_get f13
  have HQ := Lib.hid hQ
  clear hQ
  conv => arg 2; whnf
  go_wp2_with fail
  refine HQ.out _ ⟨?_, ?_, fun i hi he => ?_⟩ ?_ 
  · try simp only [put_tmps]
    simp only [Array.size_setIfInBounds, bs]
  · first | (simp only [put_defers, bd]; done) | exact bd | rfl
  · try simp only [put_tmps]
    repeat rw [sl_ne _ (by omega)]
  · try simp only [put_tmps]
    repeat first | rw [sl_ne _ (by decide)] | rw [sl_eq _ (by simp only [Array.size_setIfInBounds, bs]; decide)]
    try exact sl_of (by rw [bs]; decide) (by assumption)
theorem o21 (A : Act) (w : World) (Q : Exit → Act → World → Prop) (n : Int) (bs : A.tmps.size = 185) (bd : A.defers = []) (f11 : sl A.tmps 11 = .int .i64 n)
    (hQ : ∀ A', NearD 63 9 10 A A' → sl A'.tmps 9 = .int .i64 n → Q .normal A' w) :
    Code.wp Try.prog (opR 21) Q A w := by
  replace f11 := sl_get f11
  have HQ := Lib.hid hQ
  clear hQ
  conv => arg 2; whnf
  go_wp2_with fail
  refine HQ.out _ ⟨?_, ?_, fun i hi he => ?_⟩ ?_ 
  · try simp only [put_tmps]
    simp only [Array.size_setIfInBounds, bs]
  · first | (simp only [put_defers, bd]; done) | exact bd | rfl
  · try simp only [put_tmps]
    repeat rw [sl_ne _ (by omega)]
  · try simp only [put_tmps]
    repeat first | rw [sl_ne _ (by decide)] | rw [sl_eq _ (by simp only [Array.size_setIfInBounds, bs]; decide)]
    try exact sl_of (by rw [bs]; decide) (by assumption)
theorem o31 (A : Act) (w : World) (Q : Exit → Act → World → Prop) (bs : A.tmps.size = 185) (bd : A.defers = []) 
    (hQ : ∀ A', NearD 63 9 10 A A' → sl A'.tmps 9 = .int .i64 (-1) → Q .normal A' w) :
    Code.wp Try.prog (opR 31) Q A w := by
  have HQ := Lib.hid hQ
  clear hQ
  conv => arg 2; whnf
  go_wp2_with fail
  refine HQ.out _ ⟨?_, ?_, fun i hi he => ?_⟩ ?_ 
  · try simp only [put_tmps]
    simp only [Array.size_setIfInBounds, bs]
  · first | (simp only [put_defers, bd]; done) | exact bd | rfl
  · try simp only [put_tmps]
    repeat rw [sl_ne _ (by omega)]
  · try simp only [put_tmps]
    repeat first | rw [sl_ne _ (by decide)] | rw [sl_eq _ (by simp only [Array.size_setIfInBounds, bs]; decide)]
    try exact sl_of (by rw [bs]; decide) (by assumption)
theorem o23 (A : Act) (w : World) (Q : Exit → Act → World → Prop) (wx : World) (k n cap ba oa b : Nat) (a : ActE) (hlt : k < n) (hn : n ≤ 150) (HC : AcEC ba (oa + k * 4) a w)
    (L : LD A (.slice (some ⟨ba, oa, none⟩) n cap) (ptrB b)) (f10 : sl A.tmps 10 = .int .i64 k) (x : Sv) (now who ep : Int) (f7 : sl A.tmps 7 = .int .i64 now) (f8 : sl A.tmps 8 = .int .i64 ep) (f11 : sl A.tmps 11 = .int .i64 who) (HI : OB leaO wx [] (ptrB b) x w)
    (hQ : ∀ A' w', NearD 63 15 16 A A' → sl A'.tmps 15 = .int .i64 (renL x.s x.l now who (oneLess ep a.e)).2 → OB leaO wx [] (ptrB b) ⟨x.s, (renL x.s x.l now who (oneLess ep a.e)).1⟩ w' → Q .normal A' w') :
    Code.wp Try.prog (opR 23) Q A w := by
  have C := Lib.hid (ob_ren now who (oneLess ep a.e) HI)
  generalize hr : renL x.s x.l now who (oneLess ep a.e) = r at *
  clear hr
  unfold oneLess at C
  clear HI
  have i0k : (0 : Int) ≤ (k : Int) := by omega
  have i1k : (k : Int) < (n : Int) := by omega
  have i2k : (n : Int) ≤ 150 := by omega
  obtain ⟨g0, g1, g2, g3⟩ := HC
  obtain ⟨bs, bd, l1, l5⟩ := L
  have f1 := sl_get l1
  have f5 := sl_get l5
  clear l1 l5
  replace f10 := sl_get f10
  replace f7 := sl_get f7
  replace f8 := sl_get f8
  replace f11 := sl_get f11
  have HQ := Lib.hid hQ
  clear hQ
  conv => arg 2; whnf
  go_wp2_with fail
  refine C.out.mono ?_; clear g0 g1 g2 g3 C; rintro e w2 ⟨rfl, hI⟩
  have HI2 := Lib.hid hI
  clear hI
  go_wp2_with fail
  refine HQ.out _ _ ⟨?_, ?_, fun i hi he => ?_⟩ ?_ HI2.out
  · try simp only [put_tmps]
    simp only [Array.size_setIfInBounds, bs]
  · first | (simp only [put_defers, bd]; done) | exact bd | rfl
  · try simp only [put_tmps]
    repeat rw [sl_ne _ (by omega)]
  · try simp only [put_tmps]
    repeat first | rw [sl_ne _ (by decide)] | rw [sl_eq _ (by simp only [Array.size_setIfInBounds, bs]; decide)]
    try exact sl_of (by rw [bs]; decide) (by assumption)
theorem o27 (A : Act) (w : World) (Q : Exit → Act → World → Prop) (wx : World) (k n cap ba oa b : Nat) (a : ActE) (hlt : k < n) (hn : n ≤ 150) (HC : AcEC ba (oa + k * 4) a w)
    (L : LD A (.slice (some ⟨ba, oa, none⟩) n cap) (ptrB b)) (f10 : sl A.tmps 10 = .int .i64 k) (x : Sv) (now who ep : Int) (f7 : sl A.tmps 7 = .int .i64 now) (f8 : sl A.tmps 8 = .int .i64 ep) (f11 : sl A.tmps 11 = .int .i64 who) (HI : OB leaO wx [] (ptrB b) x w)
    (hQ : ∀ A' w', NearD 63 16 17 A A' → sl A'.tmps 16 = .int .i64 (relL x.s x.l now who (oneLess ep a.e)).2 → OB leaO wx [] (ptrB b) ⟨x.s, (relL x.s x.l now who (oneLess ep a.e)).1⟩ w' → Q .normal A' w') :
    Code.wp Try.prog (opR 27) Q A w := by
  have C := Lib.hid (ob_rel now who (oneLess ep a.e) HI)
  generalize hr : relL x.s x.l now who (oneLess ep a.e) = r at *
  clear hr
  unfold oneLess at C
  clear HI
  have i0k : (0 : Int) ≤ (k : Int) := by omega
  have i1k : (k : Int) < (n : Int) := by omega
  have i2k : (n : Int) ≤ 150 := by omega
  obtain ⟨g0, g1, g2, g3⟩ := HC
  obtain ⟨bs, bd, l1, l5⟩ := L
  have f1 := sl_get l1
  have f5 := sl_get l5
  clear l1 l5
  replace f10 := sl_get f10
  replace f7 := sl_get f7
  replace f8 := sl_get f8
  replace f11 := sl_get f11
  have HQ := Lib.hid hQ
  clear hQ
  conv => arg 2; whnf
  go_wp2_with fail
  refine C.out.mono ?_; clear g0 g1 g2 g3 C; rintro e w2 ⟨rfl, hI⟩
  have HI2 := Lib.hid hI
  clear hI
  go_wp2_with fail
  refine HQ.out _ _ ⟨?_, ?_, fun i hi he => ?_⟩ ?_ HI2.out
  · try simp only [put_tmps]
    simp only [Array.size_setIfInBounds, bs]
  · first | (simp only [put_defers, bd]; done) | exact bd | rfl
  · try simp only [put_tmps]
    repeat rw [sl_ne _ (by omega)]
  · try simp only [put_tmps]
    repeat first | rw [sl_ne _ (by decide)] | rw [sl_eq _ (by simp only [Array.size_setIfInBounds, bs]; decide)]
    try exact sl_of (by rw [bs]; decide) (by assumption)
theorem o24 (A : Act) (w : World) (Q : Exit → Act → World → Prop) (k n cap ba oa : Nat) (vs : Value) (a : ActE) (hlt : k < n) (hn : n ≤ 150) (HC : AcEC ba (oa + k * 4) a w)
    (L : LD A (.slice (some ⟨ba, oa, none⟩) n cap) vs) (f10 : sl A.tmps 10 = .int .i64 k) (who ld f : Int) (f9 : sl A.tmps 9 = .int .i64 ld) (f11 : sl A.tmps 11 = .int .i64 who) (f15 : sl A.tmps 15 = .int .i64 f) (hf : f = 0 → who = ld ∧ (bits .and .i64 a.e 1 == 1) = false) 
    (hQ : ∀ A', NearD 63 63 63 A A' → sl A'.tmps 122 = .bool false → Q .normal A' w) :
    Code.wp Try.prog (opR 24) Q A w := by
  have i0k : (0 : Int) ≤ (k : Int) := by omega
  have i1k : (k : Int) < (n : Int) := by omega
  have i2k : (n : Int) ≤ 150 := by omega
  obtain ⟨g0, g1, g2, g3⟩ := HC
  have hun : undef = Value.tuple #[] := rfl
  obtain ⟨bs, bd, l1, l5⟩ := L
  have f1 := sl_get l1
  have f5 := sl_get l5
  clear l1 l5
  replace f10 := sl_get f10
  replace f9 := sl_get f9
  replace f11 := sl_get f11
  replace f15 := sl_get f15
  have HQ := Lib.hid hQ
  clear hQ
  by_cases h0 : f = 0
  · obtain ⟨e1, e2⟩ := hf h0
    have e3 : (f == 0) = true := by simpa using h0
    have e4 : (who != ld) = false := by simpa using e1
    clear hf h0 e1
    conv => arg 2; whnf
    go_wp2_with fail
    refine HQ.out _ ⟨?_, ?_, fun i hi he => ?_⟩ ?_ 
    · try simp only [put_tmps]
      simp only [Array.size_setIfInBounds, bs]
    · first | (simp only [put_defers, bd]; done) | exact bd | rfl
    · try simp only [put_tmps]
      repeat rw [sl_ne _ (by omega)]
    · try simp only [put_tmps]
      repeat first | rw [sl_ne _ (by decide)] | rw [sl_eq _ (by simp only [Array.size_setIfInBounds, bs]; decide)]
      try exact sl_of (by rw [bs]; decide) (by assumption)
  · have e3 : (f == 0) = false := by simpa using h0
    clear hf h0
    conv => arg 2; whnf
    go_wp2_with fail
    refine HQ.out _ ⟨?_, ?_, fun i hi he => ?_⟩ ?_ 
    · try simp only [put_tmps]
      simp only [Array.size_setIfInBounds, bs]
    · first | (simp only [put_defers, bd]; done) | exact bd | rfl
    · try simp only [put_tmps]
      repeat rw [sl_ne _ (by omega)]
    · try simp only [put_tmps]
      repeat first | rw [sl_ne _ (by decide)] | rw [sl_eq _ (by simp only [Array.size_setIfInBounds, bs]; decide)]
      try exact sl_of (by rw [bs]; decide) (by assumption)
theorem o29 (A : Act) (w : World) (Q : Exit → Act → World → Prop) (k n cap ba oa : Nat) (vs : Value) (a : ActE) (hlt : k < n) (hn : n ≤ 150) (HC : AcEC ba (oa + k * 4) a w)
    (L : LD A (.slice (some ⟨ba, oa, none⟩) n cap) vs) (f10 : sl A.tmps 10 = .int .i64 k) (who ld : Int) (f9 : sl A.tmps 9 = .int .i64 ld) (f11 : sl A.tmps 11 = .int .i64 who) (hf : who = ld ∧ (bits .and .i64 a.e 1 == 1) = false) 
    (hQ : ∀ A', NearD 63 63 63 A A' → sl A'.tmps 150 = .bool false → Q .normal A' w) :
    Code.wp Try.prog (opR 29) Q A w := by
  have i0k : (0 : Int) ≤ (k : Int) := by omega
  have i1k : (k : Int) < (n : Int) := by omega
  have i2k : (n : Int) ≤ 150 := by omega
  obtain ⟨g0, g1, g2, g3⟩ := HC
  have hun : undef = Value.tuple #[] := rfl
  obtain ⟨bs, bd, l1, l5⟩ := L
  have f1 := sl_get l1
  have f5 := sl_get l5
  clear l1 l5
  replace f10 := sl_get f10
  replace f9 := sl_get f9
  replace f11 := sl_get f11
  have HQ := Lib.hid hQ
  clear hQ
  obtain ⟨e1, e2⟩ := hf
  have e4 : (who != ld) = false := by simpa using e1
  clear e1
  conv => arg 2; whnf
  go_wp2_with fail
  refine HQ.out _ ⟨?_, ?_, fun i hi he => ?_⟩ ?_ 
  · try simp only [put_tmps]
    simp only [Array.size_setIfInBounds, bs]
  · first | (simp only [put_defers, bd]; done) | exact bd | rfl
  · try simp only [put_tmps]
    repeat rw [sl_ne _ (by omega)]
  · try simp only [put_tmps]
    repeat first | rw [sl_ne _ (by decide)] | rw [sl_eq _ (by simp only [Array.size_setIfInBounds, bs]; decide)]
    try exact sl_of (by rw [bs]; decide) (by assumption)
theorem o32 (A : Act) (w : World) (Q : Exit → Act → World → Prop) (bs : A.tmps.size = 185) (bd : A.defers = []) 
    (hQ : ∀ A', NearD 17 17 17 A A' → sl A'.tmps 17 = .int .i64 0 → Q .normal A' w) :
    Code.wp Try.prog (opR 32) Q A w := by
  have HQ := Lib.hid hQ
  clear hQ
  conv => arg 2; whnf
  go_wp2_with fail
  refine HQ.out _ ⟨?_, ?_, fun i hi he => ?_⟩ ?_ 
  · try simp only [put_tmps]
    simp only [Array.size_setIfInBounds, bs]
  · first | (simp only [put_defers, bd]; done) | exact bd | rfl
  · try simp only [put_tmps]
    repeat rw [sl_ne _ (by omega)]
  · try simp only [put_tmps]
    repeat first | rw [sl_ne _ (by decide)] | rw [sl_eq _ (by simp only [Array.size_setIfInBounds, bs]; decide)]
    try exact sl_of (by rw [bs]; decide) (by assumption)
theorem o33 (A : Act) (w : World) (Q : Exit → Act → World → Prop) (bs : A.tmps.size = 185) (bd : A.defers = []) 
    (hQ : ∀ A', NearD 18 18 18 A A' → sl A'.tmps 18 = .int .i64 0 → Q .normal A' w) :
    Code.wp Try.prog (opR 33) Q A w := by
  have HQ := Lib.hid hQ
  clear hQ
  conv => arg 2; whnf
  go_wp2_with fail
  refine HQ.out _ ⟨?_, ?_, fun i hi he => ?_⟩ ?_ 
  · try simp only [put_tmps]
    simp only [Array.size_setIfInBounds, bs]
  · first | (simp only [put_defers, bd]; done) | exact bd | rfl
  · try simp only [put_tmps]
    repeat rw [sl_ne _ (by omega)]
  · try simp only [put_tmps]
    repeat first | rw [sl_ne _ (by decide)] | rw [sl_eq _ (by simp only [Array.size_setIfInBounds, bs]; decide)]
    try exact sl_of (by rw [bs]; decide) (by assumption)
theorem o36 (A : Act) (w : World) (Q : Exit → Act → World → Prop) (bs : A.tmps.size = 185) (bd : A.defers = []) 
    (hQ : ∀ A', NearD 19 19 19 A A' → sl A'.tmps 19 = .int .i64 0 → Q .normal A' w) :
    Code.wp Try.prog (opR 36) Q A w := by
  have HQ := Lib.hid hQ
  clear hQ
  conv => arg 2; whnf
  go_wp2_with fail
  refine HQ.out _ ⟨?_, ?_, fun i hi he => ?_⟩ ?_ 
  · try simp only [put_tmps]
    simp only [Array.size_setIfInBounds, bs]
  · first | (simp only [put_defers, bd]; done) | exact bd | rfl
  · try simp only [put_tmps]
    repeat rw [sl_ne _ (by omega)]
  · try simp only [put_tmps]
    repeat first | rw [sl_ne _ (by decide)] | rw [sl_eq _ (by simp only [Array.size_setIfInBounds, bs]; decide)]
    try exact sl_of (by rw [bs]; decide) (by assumption)
theorem o34t (A : Act) (w : World) (Q : Exit → Act → World → Prop) (k : Nat) (hd : decide (k < 4) = true) (bs : A.tmps.size = 185) (bd : A.defers = []) (f18 : sl A.tmps 18 = .int .i64 k)
    (hQ : ∀ A', NearD 20 20 20 A A' → sl A'.tmps 152 = .bool true → Q .normal A' w) :
    Code.wp Try.prog (opR 34) Q A w := by
  have hd2 : decide ((k : Int) < 4) = true := by rw [← hd]; exact decide_eq_decide.2 (by omega)
  replace f18 := sl_get f18
  have HQ := Lib.hid hQ
  clear hQ
  conv => arg 2; whnf
  go_wp2_with fail
  refine HQ.out _ ⟨?_, ?_, fun i hi he => ?_⟩ ?_ 
  · try simp only [put_tmps]
    simp only [Array.size_setIfInBounds, bs]
  · first | (simp only [put_defers, bd]; done) | exact bd | rfl
  · try simp only [put_tmps]
    repeat rw [sl_ne _ (by omega)]
  · try simp only [put_tmps]
    repeat first | rw [sl_ne _ (by decide)] | rw [sl_eq _ (by simp only [Array.size_setIfInBounds, bs]; decide)]
    try exact sl_of (by rw [bs]; decide) (by assumption)
theorem o37t (A : Act) (w : World) (Q : Exit → Act → World → Prop) (n ep : Int) (hd : decide (n ≤ ep) = true) (bs : A.tmps.size = 185) (bd : A.defers = []) (f8 : sl A.tmps 8 = .int .i64 ep) (f19 : sl A.tmps 19 = .int .i64 n)
    (hQ : ∀ A', NearD 20 20 20 A A' → sl A'.tmps 157 = .bool true → Q .normal A' w) :
    Code.wp Try.prog (opR 37) Q A w := by
  replace f8 := sl_get f8
  replace f19 := sl_get f19
  have HQ := Lib.hid hQ
  clear hQ
  conv => arg 2; whnf
  go_wp2_with fail
  refine HQ.out _ ⟨?_, ?_, fun i hi he => ?_⟩ ?_ 
  · try simp only [put_tmps]
    simp only [Array.size_setIfInBounds, bs]
  · first | (simp only [put_defers, bd]; done) | exact bd | rfl
  · try simp only [put_tmps]
    repeat rw [sl_ne _ (by omega)]
  · try simp only [put_tmps]
    repeat first | rw [sl_ne _ (by decide)] | rw [sl_eq _ (by simp only [Array.size_setIfInBounds, bs]; decide)]
    try exact sl_of (by rw [bs]; decide) (by assumption)
theorem o34f (A : Act) (w : World) (Q : Exit → Act → World → Prop) (k : Nat) (hd : decide (k < 4) = false) (bs : A.tmps.size = 185) (bd : A.defers = []) (f18 : sl A.tmps 18 = .int .i64 k)
    (hQ : ∀ A', NearD 20 20 20 A A' → sl A'.tmps 152 = .bool false → Q .normal A' w) :
    Code.wp Try.prog (opR 34) Q A w := by
  have hd2 : decide ((k : Int) < 4) = false := by rw [← hd]; exact decide_eq_decide.2 (by omega)
  replace f18 := sl_get f18
  have HQ := Lib.hid hQ
  clear hQ
  conv => arg 2; whnf
  go_wp2_with fail
  refine HQ.out _ ⟨?_, ?_, fun i hi he => ?_⟩ ?_ 
  · try simp only [put_tmps]
    simp only [Array.size_setIfInBounds, bs]
  · first | (simp only [put_defers, bd]; done) | exact bd | rfl
  · try simp only [put_tmps]
    repeat rw [sl_ne _ (by omega)]
  · try simp only [put_tmps]
    repeat first | rw [sl_ne _ (by decide)] | rw [sl_eq _ (by simp only [Array.size_setIfInBounds, bs]; decide)]
    try exact sl_of (by rw [bs]; decide) (by assumption)
theorem o37f (A : Act) (w : World) (Q : Exit → Act → World → Prop) (n ep : Int) (hd : decide (n ≤ ep) = false) (bs : A.tmps.size = 185) (bd : A.defers = []) (f8 : sl A.tmps 8 = .int .i64 ep) (f19 : sl A.tmps 19 = .int .i64 n)
    (hQ : ∀ A', NearD 20 20 20 A A' → sl A'.tmps 157 = .bool false → Q .normal A' w) :
    Code.wp Try.prog (opR 37) Q A w := by
  replace f8 := sl_get f8
  replace f19 := sl_get f19
  have HQ := Lib.hid hQ
  clear hQ
  conv => arg 2; whnf
  go_wp2_with fail
  refine HQ.out _ ⟨?_, ?_, fun i hi he => ?_⟩ ?_ 
  · try simp only [put_tmps]
    simp only [Array.size_setIfInBounds, bs]
  · first | (simp only [put_defers, bd]; done) | exact bd | rfl
  · try simp only [put_tmps]
    repeat rw [sl_ne _ (by omega)]
  · try simp only [put_tmps]
    repeat first | rw [sl_ne _ (by decide)] | rw [sl_eq _ (by simp only [Array.size_setIfInBounds, bs]; decide)]
    try exact sl_of (by rw [bs]; decide) (by assumption)
theorem o38 (A : Act) (w : World) (Q : Exit → Act → World → Prop) (n : Int) (h0 : 0 ≤ n) (h1 : n ≤ 4294967296) (bs : A.tmps.size = 185) (bd : A.defers = []) (f19 : sl A.tmps 19 = .int .i64 n)
    (hQ : ∀ A', NearD 20 19 20 A A' → sl A'.tmps 19 = .int .i64 (n + 1) → Q .normal A' w) :
    Code.wp Try.prog (opR 38) Q A w := by
  have q3 : IntKind.i64.wrap (n + 1) = n + 1 := IntWalk.i64_in _ (by omega)
  replace f19 := sl_get f19
  have HQ := Lib.hid hQ
  clear hQ
  conv => arg 2; whnf
  go_wp2_with fail
  refine HQ.out _ ⟨?_, ?_, fun i hi he => ?_⟩ ?_ 
  · try simp only [put_tmps]
    simp only [Array.size_setIfInBounds, bs]
  · first | (simp only [put_defers, bd]; done) | exact bd | rfl
  · try simp only [put_tmps]
    repeat rw [sl_ne _ (by omega)]
  · try simp only [put_tmps]
    repeat first | rw [sl_ne _ (by decide)] | rw [sl_eq _ (by simp only [Array.size_setIfInBounds, bs]; decide)]
    try exact sl_of (by rw [bs]; decide) (by assumption)
theorem o35 (A : Act) (w : World) (Q : Exit → Act → World → Prop) (n : Int) (h0 : 0 ≤ n) (h1 : n ≤ 4294967296) (bs : A.tmps.size = 185) (bd : A.defers = []) (f18 : sl A.tmps 18 = .int .i64 n)
    (hQ : ∀ A', NearD 20 18 19 A A' → sl A'.tmps 18 = .int .i64 (n + 1) → Q .normal A' w) :
    Code.wp Try.prog (opR 35) Q A w := by
  have q3 : IntKind.i64.wrap (n + 1) = n + 1 := IntWalk.i64_in _ (by omega)
  replace f18 := sl_get f18
  have HQ := Lib.hid hQ
  clear hQ
  conv => arg 2; whnf
  go_wp2_with fail
  refine HQ.out _ ⟨?_, ?_, fun i hi he => ?_⟩ ?_ 
  · try simp only [put_tmps]
    simp only [Array.size_setIfInBounds, bs]
  · first | (simp only [put_defers, bd]; done) | exact bd | rfl
  · try simp only [put_tmps]
    repeat rw [sl_ne _ (by omega)]
  · try simp only [put_tmps]
    repeat first | rw [sl_ne _ (by decide)] | rw [sl_eq _ (by simp only [Array.size_setIfInBounds, bs]; decide)]
    try exact sl_of (by rw [bs]; decide) (by assumption)
theorem o40 (A : Act) (w : World) (Q : Exit → Act → World → Prop) (n : Int) (h0 : 0 ≤ n) (h1 : n ≤ 4294967296) (bs : A.tmps.size = 185) (bd : A.defers = []) (f17 : sl A.tmps 17 = .int .i64 n)
    (hQ : ∀ A', NearD 20 17 18 A A' → sl A'.tmps 17 = .int .i64 (n + 1) → Q .normal A' w) :
    Code.wp Try.prog (opR 40) Q A w := by
  have q3 : IntKind.i64.wrap (n + 1) = n + 1 := IntWalk.i64_in _ (by omega)
  replace f17 := sl_get f17
  have HQ := Lib.hid hQ
  clear hQ
  conv => arg 2; whnf
  go_wp2_with fail
  refine HQ.out _ ⟨?_, ?_, fun i hi he => ?_⟩ ?_ 
  · try simp only [put_tmps]
    simp only [Array.size_setIfInBounds, bs]
  · first | (simp only [put_defers, bd]; done) | exact bd | rfl
  · try simp only [put_tmps]
    repeat rw [sl_ne _ (by omega)]
  · try simp only [put_tmps]
    repeat first | rw [sl_ne _ (by decide)] | rw [sl_eq _ (by simp only [Array.size_setIfInBounds, bs]; decide)]
    try exact sl_of (by rw [bs]; decide) (by assumption)
theorem o39 (A : Act) (w : World) (Q : Exit → Act → World → Prop) (wx : World) (b : Nat) (av : Value) (L : LD A av (ptrB b)) (x : Sv) (now k n : Int) (f7 : sl A.tmps 7 = .int .i64 now) (f18 : sl A.tmps 18 = .int .i64 k) (f19 : sl A.tmps 19 = .int .i64 n) (HI : OB leaO wx [] (ptrB b) x w)
    (hQ : ∀ A' w', NearD 20 20 20 A A' → sl A'.tmps 164 = .bool (leadsL x.l now k n) → OB leaO wx [] (ptrB b) x w' → Q .normal A' w') :
    Code.wp Try.prog (opR 39) Q A w := by
  have C := Lib.hid (ob_holds now k n HI)
  generalize leadsL x.l now k n = r at *
  clear HI
  obtain ⟨bs, bd, l1, l5⟩ := L
  have f1 := sl_get l1
  have f5 := sl_get l5
  clear l1 l5
  replace f7 := sl_get f7
  replace f18 := sl_get f18
  replace f19 := sl_get f19
  have HQ := Lib.hid hQ
  clear hQ
  conv => arg 2; whnf
  go_wp2_with fail
  refine C.out.mono ?_; clear C; rintro e w2 ⟨rfl, hI⟩
  have HI2 := Lib.hid hI
  clear hI
  go_wp2_with fail
  refine HQ.out _ _ ⟨?_, ?_, fun i hi he => ?_⟩ ?_ HI2.out
  · try simp only [put_tmps]
    simp only [Array.size_setIfInBounds, bs]
  · first | (simp only [put_defers, bd]; done) | exact bd | rfl
  · try simp only [put_tmps]
    repeat rw [sl_ne _ (by omega)]
  · try simp only [put_tmps]
    repeat first | rw [sl_ne _ (by decide)] | rw [sl_eq _ (by simp only [Array.size_setIfInBounds, bs]; decide)]
    try exact sl_of (by rw [bs]; decide) (by assumption)
theorem o41 (A : Act) (w : World) (Q : Exit → Act → World → Prop) (k n : Int) (bs : A.tmps.size = 185) (bd : A.defers = []) (f8 : sl A.tmps 8 = .int .i64 n) (f9 : sl A.tmps 9 = .int .i64 k) (f18 : sl A.tmps 18 = .int .i64 k) (f19 : sl A.tmps 19 = .int .i64 n)
    (hQ : ∀ A', NearD 20 20 20 A A' → sl A'.tmps 174 = .bool false → Q .normal A' w) :
    Code.wp Try.prog (opR 41) Q A w := by
  have e1 : (k != k) = false := by simp
  have e2 : (n != n) = false := by simp
  replace f8 := sl_get f8
  replace f9 := sl_get f9
  replace f18 := sl_get f18
  replace f19 := sl_get f19
  have HQ := Lib.hid hQ
  clear hQ
  conv => arg 2; whnf
  go_wp2_with fail
  refine HQ.out _ ⟨?_, ?_, fun i hi he => ?_⟩ ?_ 
  · try simp only [put_tmps]
    simp only [Array.size_setIfInBounds, bs]
  · first | (simp only [put_defers, bd]; done) | exact bd | rfl
  · try simp only [put_tmps]
    repeat rw [sl_ne _ (by omega)]
  · try simp only [put_tmps]
    repeat first | rw [sl_ne _ (by decide)] | rw [sl_eq _ (by simp only [Array.size_setIfInBounds, bs]; decide)]
    try exact sl_of (by rw [bs]; decide) (by assumption)
theorem o43 (A : Act) (w : World) (Q : Exit → Act → World → Prop) (wx : World) (b : Nat) (av : Value) (L : LD A av (ptrB b)) (x : Sv) (m : Int) (hm : m ≤ 1) (f17 : sl A.tmps 17 = .int .i64 m) (f8 : sl A.tmps 8 = .int .i64 x.l.e) (HI : OB leaO wx [] (ptrB b) x w)
    (hQ : ∀ A' w', NearD 17 17 17 A A' → sl A'.tmps 183 = .bool false → OB leaO wx [] (ptrB b) x w' → Q .normal A' w') :
    Code.wp Try.prog (opR 43) Q A w := by
  have C := Lib.hid (ob_get HI)
  have q1 : ∀ w : World, (Instr.field 29 (.agg #[.int .i64 x.l.h, .int .i64 x.l.e, .int .i64 x.l.u]) 1).run Try.prog w = .ok (.int .i64 x.l.e) w := fun _ => by kernel_rfl
  have e1 : decide (m > 1) = false := decide_eq_false (by omega)
  have e2 : decide (1 < m) = false := decide_eq_false (by omega)
  have e3 : (x.l.e != x.l.e) = false := by simp
  clear HI hm
  obtain ⟨bs, bd, l1, l5⟩ := L
  have f1 := sl_get l1
  have f5 := sl_get l5
  clear l1 l5
  replace f17 := sl_get f17
  replace f8 := sl_get f8
  have HQ := Lib.hid hQ
  clear hQ
  conv => arg 2; whnf
  go_wp2_with fail
  refine C.out.mono ?_; clear C; rintro e w2 ⟨rfl, hI⟩
  have HI2 := Lib.hid hI
  clear hI
  go_wp2_with fail
  refine HQ.out _ _ ⟨?_, ?_, fun i hi he => ?_⟩ ?_ HI2.out
  · try simp only [put_tmps]
    simp only [Array.size_setIfInBounds, bs]
  · first | (simp only [put_defers, bd]; done) | exact bd | rfl
  · try simp only [put_tmps]
    repeat rw [sl_ne _ (by omega)]
  · try simp only [put_tmps]
    repeat first | rw [sl_ne _ (by decide)] | rw [sl_eq _ (by simp only [Array.size_setIfInBounds, bs]; decide)]
    try exact sl_of (by rw [bs]; decide) (by assumption)
end Go.Proofs.Ytcoclpghimcnfaa
