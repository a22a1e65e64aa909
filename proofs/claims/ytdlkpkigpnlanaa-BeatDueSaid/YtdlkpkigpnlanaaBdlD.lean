/- The regions of BeatDue, a lemma each, the frame a variable. Conditions: as stated. -/
import Derived.Test.YtdlkpkigpnlanaaBdlA
namespace Go.Proofs.Ytdlkpkigpnlanaa
open Go.ChangeShapes Go.WideShapes Go.ChangeAt Go.RowKit
set_option linter.unusedVariables false
set_option maxRecDepth 100000
set_option linter.unusedSimpArgs false
set_option maxHeartbeats 4000000

theorem bd10t (A : Act) (w : World) (Q : Exit → Act → World → Prop) (k n cap : Nat) (a0 : Option Addr) (v : Value) (s : Int) (g8 g9 : Nat) (hd : decide (k < n) = true) (L : LD A (.slice a0 n cap) v s g8 g9) (f11 : sl A.tmps 11 = .int .i64 k)
    (hQ : ∀ A', NearD 21 21 21 A A' → sl A'.tmps 43 = .bool true → Q .normal A' w) :
    Code.wp Try.prog (dlR 10) Q A w := by
  have hd2 : decide ((k : Int) < (n : Int)) = true := by rw [← hd]; exact decide_eq_decide.2 (by omega)
  obtain ⟨bs, bd, l1, l5, l6, l8, l9⟩ := L
  have f1 := sl_get l1
  have f5 := sl_get l5
  have f6 := sl_get l6
  have f8 := sl_get l8
  have f9 := sl_get l9
  clear l1 l5 l6 l8 l9
  replace f11 := sl_get f11
  have HQ := Lib.hid hQ
  clear hQ
  conv => arg 2; whnf
  go_wp2_with fail
  refine HQ.out _ ⟨?_, ?_, fun i hi he => ?_⟩ ?_ 
  · try simp only [put_tmps]
    simp only [Array.size_setIfInBounds, bs]
  · first | (simp only [put_defers, bd]; done) | exact bd | rfl
  · try simp only [put_tmps]
    repeat rw [sl_ne _ (by omega)]
  · try simp only [put_tmps]
    repeat first | rw [sl_ne _ (by decide)] | rw [sl_eq _ (by simp only [Array.size_setIfInBounds, bs]; decide)]
    try exact sl_of (by rw [bs]; decide) (by assumption)
theorem bd10f (A : Act) (w : World) (Q : Exit → Act → World → Prop) (k n cap : Nat) (a0 : Option Addr) (v : Value) (s : Int) (g8 g9 : Nat) (hd : decide (k < n) = false) (L : LD A (.slice a0 n cap) v s g8 g9) (f11 : sl A.tmps 11 = .int .i64 k)
    (hQ : ∀ A', NearD 21 21 21 A A' → sl A'.tmps 43 = .bool false → Q .normal A' w) :
    Code.wp Try.prog (dlR 10) Q A w := by
  have hd2 : decide ((k : Int) < (n : Int)) = false := by rw [← hd]; exact decide_eq_decide.2 (by omega)
  obtain ⟨bs, bd, l1, l5, l6, l8, l9⟩ := L
  have f1 := sl_get l1
  have f5 := sl_get l5
  have f6 := sl_get l6
  have f8 := sl_get l8
  have f9 := sl_get l9
  clear l1 l5 l6 l8 l9
  replace f11 := sl_get f11
  have HQ := Lib.hid hQ
  clear hQ
  conv => arg 2; whnf
  go_wp2_with fail
  refine HQ.out _ ⟨?_, ?_, fun i hi he => ?_⟩ ?_ 
  · try simp only [put_tmps]
    simp only [Array.size_setIfInBounds, bs]
  · first | (simp only [put_defers, bd]; done) | exact bd | rfl
  · try simp only [put_tmps]
    repeat rw [sl_ne _ (by omega)]
  · try simp only [put_tmps]
    repeat first | rw [sl_ne _ (by decide)] | rw [sl_eq _ (by simp only [Array.size_setIfInBounds, bs]; decide)]
    try exact sl_of (by rw [bs]; decide) (by assumption)
theorem bd11 (A : Act) (w : World) (Q : Exit → Act → World → Prop) (k : Nat) (hk : k ≤ 200) (bs : A.tmps.size = 167) (bd : A.defers = []) (f11 : sl A.tmps 11 = .int .i64 k)
    (hQ : ∀ A', NearD 21 11 12 A A' → sl A'.tmps 11 = .int .i64 ((k : Int) + 1) → Q .normal A' w) :
    Code.wp Try.prog (dlR 11) Q A w := by
  have q3 : IntKind.i64.wrap ((k : Int) + 1) = (k : Int) + 1 := IntWalk.i64_in _ (by omega)
  replace f11 := sl_get f11
  have HQ := Lib.hid hQ
  clear hQ
  conv => arg 2; whnf
  go_wp2_with fail
  refine HQ.out _ ⟨?_, ?_, fun i hi he => ?_⟩ ?_ 
  · try simp only [put_tmps]
    simp only [Array.size_setIfInBounds, bs]
  · first | (simp only [put_defers, bd]; done) | exact bd | rfl
  · try simp only [put_tmps]
    repeat rw [sl_ne _ (by omega)]
  · try simp only [put_tmps]
    repeat first | rw [sl_ne _ (by decide)] | rw [sl_eq _ (by simp only [Array.size_setIfInBounds, bs]; decide)]
    try exact sl_of (by rw [bs]; decide) (by assumption)
theorem bd25 (A : Act) (w : World) (Q : Exit → Act → World → Prop) (k : Nat) (hk : k ≤ 200) (bs : A.tmps.size = 167) (bd : A.defers = []) (f16 : sl A.tmps 16 = .int .i64 k)
    (hQ : ∀ A', NearD 21 16 17 A A' → sl A'.tmps 16 = .int .i64 ((k : Int) + 1) → Q .normal A' w) :
    Code.wp Try.prog (dlR 25) Q A w := by
  have q3 : IntKind.i64.wrap ((k : Int) + 1) = (k : Int) + 1 := IntWalk.i64_in _ (by omega)
  replace f16 := sl_get f16
  have HQ := Lib.hid hQ
  clear hQ
  conv => arg 2; whnf
  go_wp2_with fail
  refine HQ.out _ ⟨?_, ?_, fun i hi he => ?_⟩ ?_ 
  · try simp only [put_tmps]
    simp only [Array.size_setIfInBounds, bs]
  · first | (simp only [put_defers, bd]; done) | exact bd | rfl
  · try simp only [put_tmps]
    repeat rw [sl_ne _ (by omega)]
  · try simp only [put_tmps]
    repeat first | rw [sl_ne _ (by decide)] | rw [sl_eq _ (by simp only [Array.size_setIfInBounds, bs]; decide)]
    try exact sl_of (by rw [bs]; decide) (by assumption)
theorem bd32 (A : Act) (w : World) (Q : Exit → Act → World → Prop) (k : Nat) (hk : k ≤ 200) (bs : A.tmps.size = 167) (bd : A.defers = []) (f18 : sl A.tmps 18 = .int .i64 k)
    (hQ : ∀ A', NearD 21 18 19 A A' → sl A'.tmps 18 = .int .i64 ((k : Int) + 1) → Q .normal A' w) :
    Code.wp Try.prog (dlR 32) Q A w := by
  have q3 : IntKind.i64.wrap ((k : Int) + 1) = (k : Int) + 1 := IntWalk.i64_in _ (by omega)
  replace f18 := sl_get f18
  have HQ := Lib.hid hQ
  clear hQ
  conv => arg 2; whnf
  go_wp2_with fail
  refine HQ.out _ ⟨?_, ?_, fun i hi he => ?_⟩ ?_ 
  · try simp only [put_tmps]
    simp only [Array.size_setIfInBounds, bs]
  · first | (simp only [put_defers, bd]; done) | exact bd | rfl
  · try simp only [put_tmps]
    repeat rw [sl_ne _ (by omega)]
  · try simp only [put_tmps]
    repeat first | rw [sl_ne _ (by decide)] | rw [sl_eq _ (by simp only [Array.size_setIfInBounds, bs]; decide)]
    try exact sl_of (by rw [bs]; decide) (by assumption)
theorem bd12 (A : Act) (w : World) (Q : Exit → Act → World → Prop) (k n cap ba oa : Nat) (v : Value) (s : Int) (g8 g9 : Nat) (a : ActE) (hlt : k < n) (hn : n ≤ 150) (HC : AcEC ba (oa + k * 4) a w)
    (L : LD A (.slice (some ⟨ba, oa, none⟩) n cap) v s g8 g9) (f11 : sl A.tmps 11 = .int .i64 k) (now : Int) (h0 : 0 ≤ now) (h1 : now ≤ 10000) (f10 : sl A.tmps 10 = .int .i64 now)
    (hQ : ∀ A' now', NearD 21 10 11 A A' → sl A'.tmps 10 = .int .i64 now' → now ≤ now' → now' ≤ now + 7 → Q .normal A' w) :
    Code.wp Try.prog (dlR 12) Q A w := by
  have i0k : (0 : Int) ≤ (k : Int) := by omega
  have i1k : (k : Int) < (n : Int) := by omega
  have i2k : (n : Int) ≤ 150 := by omega
  obtain ⟨g0, g1, g2, g3⟩ := HC
  have HX := Lib.hid (show now ≤ wrap64 (now + bits .and .i64 a.e 7) ∧ wrap64 (now + bits .and .i64 a.e 7) ≤ now + 7 by
    have := and7 a.e
    unfold wrap64
    omega)
  clear h0 h1
  obtain ⟨bs, bd, l1, l5, l6, l8, l9⟩ := L
  have f1 := sl_get l1
  have f5 := sl_get l5
  have f6 := sl_get l6
  have f8 := sl_get l8
  have f9 := sl_get l9
  clear l1 l5 l6 l8 l9
  replace f10 := sl_get f10
  replace f11 := sl_get f11
  have HQ := Lib.hid hQ
  clear hQ
  conv => arg 2; whnf
  go_wp2_with fail
  refine HQ.out _ (wrap64 (now + bits .and .i64 a.e 7)) ⟨?_, ?_, fun i hi he => ?_⟩ ?_ HX.out.1 HX.out.2
  · try simp only [put_tmps]
    simp only [Array.size_setIfInBounds, bs]
  · first | (simp only [put_defers, bd]; done) | exact bd | rfl
  · try simp only [put_tmps]
    repeat rw [sl_ne _ (by omega)]
  · try simp only [put_tmps]
    repeat first | rw [sl_ne _ (by decide)] | rw [sl_eq _ (by simp only [Array.size_setIfInBounds, bs]; decide)]
    try exact sl_of (by rw [bs]; decide) (by assumption)
theorem bd13 (A : Act) (w : World) (Q : Exit → Act → World → Prop) (k n cap ba oa : Nat) (v : Value) (s : Int) (g8 g9 : Nat) (a : ActE) (hlt : k < n) (hn : n ≤ 150) (HC : AcEC ba (oa + k * 4) a w)
    (L : LD A (.slice (some ⟨ba, oa, none⟩) n cap) v s g8 g9) (f11 : sl A.tmps 11 = .int .i64 k) 
    (hQ : ∀ A' kk, NearD 21 12 13 A A' → sl A'.tmps 12 = .int .i64 kk → 0 ≤ kk → kk ≤ 15 → Q .normal A' w) :
    Code.wp Try.prog (dlR 13) Q A w := by
  have i0k : (0 : Int) ≤ (k : Int) := by omega
  have i1k : (k : Int) < (n : Int) := by omega
  have i2k : (n : Int) ≤ 150 := by omega
  obtain ⟨g0, g1, g2, g3⟩ := HC
  have HX := Lib.hid (and15 a.n)
  obtain ⟨bs, bd, l1, l5, l6, l8, l9⟩ := L
  have f1 := sl_get l1
  have f5 := sl_get l5
  have f6 := sl_get l6
  have f8 := sl_get l8
  have f9 := sl_get l9
  clear l1 l5 l6 l8 l9
  replace f11 := sl_get f11
  have HQ := Lib.hid hQ
  clear hQ
  conv => arg 2; whnf
  go_wp2_with fail
  refine HQ.out _ (bits .and .i64 a.n 15) ⟨?_, ?_, fun i hi he => ?_⟩ ?_ HX.out.1 HX.out.2
  · try simp only [put_tmps]
    simp only [Array.size_setIfInBounds, bs]
  · first | (simp only [put_defers, bd]; done) | exact bd | rfl
  · try simp only [put_tmps]
    repeat rw [sl_ne _ (by omega)]
  · try simp only [put_tmps]
    repeat first | rw [sl_ne _ (by decide)] | rw [sl_eq _ (by simp only [Array.size_setIfInBounds, bs]; decide)]
    try exact sl_of (by rw [bs]; decide) (by assumption)
theorem bd14 (A : Act) (w : World) (Q : Exit → Act → World → Prop) (k n cap ba oa : Nat) (v : Value) (s : Int) (g8 g9 : Nat) (a : ActE) (hlt : k < n) (hn : n ≤ 150) (HC : AcEC ba (oa + k * 4) a w)
    (L : LD A (.slice (some ⟨ba, oa, none⟩) n cap) v s g8 g9) (f11 : sl A.tmps 11 = .int .i64 k) 
    (hQ : ∀ A', NearD 21 21 21 A A' → sl A'.tmps 65 = .bool (a.kind == 1) → Q .normal A' w) :
    Code.wp Try.prog (dlR 14) Q A w := by
  have i0k : (0 : Int) ≤ (k : Int) := by omega
  have i1k : (k : Int) < (n : Int) := by omega
  have i2k : (n : Int) ≤ 150 := by omega
  obtain ⟨g0, g1, g2, g3⟩ := HC
  obtain ⟨bs, bd, l1, l5, l6, l8, l9⟩ := L
  have f1 := sl_get l1
  have f5 := sl_get l5
  have f6 := sl_get l6
  have f8 := sl_get l8
  have f9 := sl_get l9
  clear l1 l5 l6 l8 l9
  replace f11 := sl_get f11
  have HQ := Lib.hid hQ
  clear hQ
  conv => arg 2; whnf
  go_wp2_with fail
  refine HQ.out _ ⟨?_, ?_, fun i hi he => ?_⟩ ?_ 
  · try simp only [put_tmps]
    simp only [Array.size_setIfInBounds, bs]
  · first | (simp only [put_defers, bd]; done) | exact bd | rfl
  · try simp only [put_tmps]
    repeat rw [sl_ne _ (by omega)]
  · try simp only [put_tmps]
    repeat first | rw [sl_ne _ (by decide)] | rw [sl_eq _ (by simp only [Array.size_setIfInBounds, bs]; decide)]
    try exact sl_of (by rw [bs]; decide) (by assumption)
theorem bd15 (A : Act) (w : World) (Q : Exit → Act → World → Prop) (k n cap ba oa : Nat) (v : Value) (s : Int) (g8 g9 : Nat) (a : ActE) (hlt : k < n) (hn : n ≤ 150) (HC : AcEC ba (oa + k * 4) a w)
    (L : LD A (.slice (some ⟨ba, oa, none⟩) n cap) v s g8 g9) (f11 : sl A.tmps 11 = .int .i64 k) 
    (hQ : ∀ A' m, NearD 21 13 14 A A' → sl A'.tmps 13 = .int .i64 m → 1 ≤ m → m ≤ 4 → Q .normal A' w) :
    Code.wp Try.prog (dlR 15) Q A w := by
  have i0k : (0 : Int) ≤ (k : Int) := by omega
  have i1k : (k : Int) < (n : Int) := by omega
  have i2k : (n : Int) ≤ 150 := by omega
  obtain ⟨g0, g1, g2, g3⟩ := HC
  have HX := Lib.hid (show 1 ≤ wrap64 (1 + bits .and .i64 a.m 3) ∧ wrap64 (1 + bits .and .i64 a.m 3) ≤ 4 by
    have := and3 a.m
    unfold wrap64
    omega)
  obtain ⟨bs, bd, l1, l5, l6, l8, l9⟩ := L
  have f1 := sl_get l1
  have f5 := sl_get l5
  have f6 := sl_get l6
  have f8 := sl_get l8
  have f9 := sl_get l9
  clear l1 l5 l6 l8 l9
  replace f11 := sl_get f11
  have HQ := Lib.hid hQ
  clear hQ
  conv => arg 2; whnf
  go_wp2_with fail
  refine HQ.out _ (wrap64 (1 + bits .and .i64 a.m 3)) ⟨?_, ?_, fun i hi he => ?_⟩ ?_ HX.out.1 HX.out.2
  · try simp only [put_tmps]
    simp only [Array.size_setIfInBounds, bs]
  · first | (simp only [put_defers, bd]; done) | exact bd | rfl
  · try simp only [put_tmps]
    repeat rw [sl_ne _ (by omega)]
  · try simp only [put_tmps]
    repeat first | rw [sl_ne _ (by decide)] | rw [sl_eq _ (by simp only [Array.size_setIfInBounds, bs]; decide)]
    try exact sl_of (by rw [bs]; decide) (by assumption)
theorem bd16 (A : Act) (w : World) (Q : Exit → Act → World → Prop) (wx : World) (av v : Value) (s : Int) (g8 g9 : Nat) (L : LD A av v s g8 g9) (x : Tv) (last inc : Int → Int) (kk m now : Int) (hk : inI kk) (f10 : sl A.tmps 10 = .int .i64 now) (f12 : sl A.tmps 12 = .int .i64 kk) (f13 : sl A.tmps 13 = .int .i64 m) (HI : OA wx v x g8 g9 last inc w)
    (hQ : ∀ A' w', NearD 21 14 15 A A' → sl A'.tmps 14 = .int .i64 (seenB x.s x.l kk m now).2 → OA wx v ⟨x.s, (seenB x.s x.l kk m now).1⟩ g8 g9 last inc w' → Q .normal A' w') :
    Code.wp Try.prog (dlR 16) Q A w := by
  have C := Lib.hid (ob_seen m now hk HI)
  generalize seenB x.s x.l kk m now = r at *
  clear HI hk
  obtain ⟨bs, bd, l1, l5, l6, l8, l9⟩ := L
  have f1 := sl_get l1
  have f5 := sl_get l5
  have f6 := sl_get l6
  have f8 := sl_get l8
  have f9 := sl_get l9
  clear l1 l5 l6 l8 l9
  replace f10 := sl_get f10
  replace f12 := sl_get f12
  replace f13 := sl_get f13
  have HQ := Lib.hid hQ
  clear hQ
  conv => arg 2; whnf
  go_wp2_with fail
  refine C.out.mono ?_; clear C; rintro e w2 ⟨rfl, hI⟩
  have HI2 := Lib.hid hI
  clear hI
  go_wp2_with fail
  refine HQ.out _ _ ⟨?_, ?_, fun i hi he => ?_⟩ ?_ HI2.out
  · try simp only [put_tmps]
    simp only [Array.size_setIfInBounds, bs]
  · first | (simp only [put_defers, bd]; done) | exact bd | rfl
  · try simp only [put_tmps]
    repeat rw [sl_ne _ (by omega)]
  · try simp only [put_tmps]
    repeat first | rw [sl_ne _ (by decide)] | rw [sl_eq _ (by simp only [Array.size_setIfInBounds, bs]; decide)]
    try exact sl_of (by rw [bs]; decide) (by assumption)
theorem bd17 (A : Act) (w : World) (Q : Exit → Act → World → Prop) (wx : World) (av v : Value) (s : Int) (g8 g9 : Nat) (L : LD A av v s g8 g9) (x : Tv) (last inc : Int → Int) (kk m f : Int) (b : Bool) (h0 : 0 ≤ kk) (h1 : kk ≤ 15) (hb : (f == 0) = b) (hb2 : decide (inc kk ≤ m) = b) (f12 : sl A.tmps 12 = .int .i64 kk) (f13 : sl A.tmps 13 = .int .i64 m) (f14 : sl A.tmps 14 = .int .i64 f) (HI : OA wx v x g8 g9 last inc w)
    (hQ : ∀ A', NearD 21 21 21 A A' → sl A'.tmps 85 = .bool false → Q .normal A' w) :
    Code.wp Try.prog (dlR 17) Q A w := by
  obtain ⟨y0, y1⟩ := oa_inc h0 h1 HI
  have hb3 : decide (m ≥ inc kk) = b := hb2
  have i1 : kk < 16 := by omega
  generalize inc kk = z at *
  clear HI
  obtain ⟨bs, bd, l1, l5, l6, l8, l9⟩ := L
  have f1 := sl_get l1
  have f5 := sl_get l5
  have f6 := sl_get l6
  have f8 := sl_get l8
  have f9 := sl_get l9
  clear l1 l5 l6 l8 l9
  replace f12 := sl_get f12
  replace f13 := sl_get f13
  replace f14 := sl_get f14
  have HQ := Lib.hid hQ
  clear hQ
  cases b
  all_goals
    conv => arg 2; whnf
    go_wp2_with fail
    refine HQ.out _ ⟨?_, ?_, fun i hi he => ?_⟩ ?_ 
    · try simp only [put_tmps]
      simp only [Array.size_setIfInBounds, bs]
    · first | (simp only [put_defers, bd]; done) | exact bd | rfl
    · try simp only [put_tmps]
      repeat rw [sl_ne _ (by omega)]
    · try simp only [put_tmps]
      repeat first | rw [sl_ne _ (by decide)] | rw [sl_eq _ (by simp only [Array.size_setIfInBounds, bs]; decide)]
      try exact sl_of (by rw [bs]; decide) (by assumption)
theorem bd19 (A : Act) (w : World) (Q : Exit → Act → World → Prop) (f : Int) (bs : A.tmps.size = 167) (bd : A.defers = []) (f14 : sl A.tmps 14 = .int .i64 f)
    (hQ : ∀ A', NearD 21 21 21 A A' → sl A'.tmps 87 = .bool (f == 0) → Q .normal A' w) :
    Code.wp Try.prog (dlR 19) Q A w := by
  replace f14 := sl_get f14
  have HQ := Lib.hid hQ
  clear hQ
  conv => arg 2; whnf
  go_wp2_with fail
  refine HQ.out _ ⟨?_, ?_, fun i hi he => ?_⟩ ?_ 
  · try simp only [put_tmps]
    simp only [Array.size_setIfInBounds, bs]
  · first | (simp only [put_defers, bd]; done) | exact bd | rfl
  · try simp only [put_tmps]
    repeat rw [sl_ne _ (by omega)]
  · try simp only [put_tmps]
    repeat first | rw [sl_ne _ (by decide)] | rw [sl_eq _ (by simp only [Array.size_setIfInBounds, bs]; decide)]
    try exact sl_of (by rw [bs]; decide) (by assumption)
theorem bd20 (A : Act) (w : World) (Q : Exit → Act → World → Prop) (wx : World) (av v : Value) (s : Int) (g8 g9 : Nat) (L : LD A av v s g8 g9) (x : Tv) (last inc : Int → Int) (kk m : Int) (h0 : 0 ≤ kk) (h1 : kk ≤ 15) (hne : g8 ≠ g9) (f12 : sl A.tmps 12 = .int .i64 kk) (f13 : sl A.tmps 13 = .int .i64 m) (HI : OA wx v x g8 g9 last inc w)
    (hQ : ∀ A' w', NearD 21 21 21 A A' → OA wx v x g8 g9 last (setZ inc kk m) w' → Q .normal A' w') :
    Code.wp Try.prog (dlR 20) Q A w := by
  obtain ⟨y0, y1⟩ := oa_inc h0 h1 HI
  have i1 : kk < 16 := by omega
  have HI2 := Lib.hid (oa_set9 m h0 h1 hne HI)
  clear HI
  obtain ⟨bs, bd, l1, l5, l6, l8, l9⟩ := L
  have f1 := sl_get l1
  have f5 := sl_get l5
  have f6 := sl_get l6
  have f8 := sl_get l8
  have f9 := sl_get l9
  clear l1 l5 l6 l8 l9
  replace f12 := sl_get f12
  replace f13 := sl_get f13
  have HQ := Lib.hid hQ
  clear hQ
  conv => arg 2; whnf
  go_wp2_with fail
  refine HQ.out _ _ ⟨?_, ?_, fun i hi he => ?_⟩  HI2.out
  · try simp only [put_tmps]
    simp only [Array.size_setIfInBounds, bs]
  · first | (simp only [put_defers, bd]; done) | exact bd | rfl
  · try simp only [put_tmps]
    repeat rw [sl_ne _ (by omega)]
theorem bd21 (A : Act) (w : World) (Q : Exit → Act → World → Prop) (wx : World) (av v : Value) (s : Int) (g8 g9 : Nat) (L : LD A av v s g8 g9) (x : Tv) (last inc : Int → Int) (kk now : Int) (h0 : 0 ≤ kk) (h1 : kk ≤ 15) (hne : g8 ≠ g9) (hs : 0 ≤ now + s ∧ now + s ≤ 100000) (f10 : sl A.tmps 10 = .int .i64 now) (f12 : sl A.tmps 12 = .int .i64 kk) (HI : OA wx v x g8 g9 last inc w)
    (hQ : ∀ A' w', NearD 21 21 21 A A' → OA wx v x g8 g9 (setZ last kk (now + s)) inc w' → Q .normal A' w') :
    Code.wp Try.prog (dlR 21) Q A w := by
  obtain ⟨y0, y1⟩ := oa_last h0 h1 HI
  have i1 : kk < 16 := by omega
  have q3 : IntKind.i64.wrap (now + s) = now + s := IntWalk.i64_in _ (by omega)
  have HI2 := Lib.hid (oa_set8 (now + s) h0 h1 hne HI)
  clear HI hs
  obtain ⟨bs, bd, l1, l5, l6, l8, l9⟩ := L
  have f1 := sl_get l1
  have f5 := sl_get l5
  have f6 := sl_get l6
  have f8 := sl_get l8
  have f9 := sl_get l9
  clear l1 l5 l6 l8 l9
  replace f10 := sl_get f10
  replace f12 := sl_get f12
  have HQ := Lib.hid hQ
  clear hQ
  conv => arg 2; whnf
  go_wp2_with fail
  refine HQ.out _ _ ⟨?_, ?_, fun i hi he => ?_⟩  HI2.out
  · try simp only [put_tmps]
    simp only [Array.size_setIfInBounds, bs]
  · first | (simp only [put_defers, bd]; done) | exact bd | rfl
  · try simp only [put_tmps]
    repeat rw [sl_ne _ (by omega)]
theorem bd22 (A : Act) (w : World) (Q : Exit → Act → World → Prop) (wx : World) (av v : Value) (s : Int) (g8 g9 : Nat) (L : LD A av v s g8 g9) (x : Tv) (last inc : Int → Int) (now : Int) (f10 : sl A.tmps 10 = .int .i64 now) (HI : OA wx v x g8 g9 last inc w)
    (hQ : ∀ A' w' A0 c B, NearD 21 15 16 A A' → sl A'.tmps 15 = .slice A0 (dueB 16 x.l now).1.length c → OD wx v ⟨x.s, (dueB 16 x.l now).2⟩ g8 g9 last inc B (.slice A0 (dueB 16 x.l now).1.length c) (dueB 16 x.l now).1 w' → Q .normal A' w') :
    Code.wp Try.prog (dlR 22) Q A w := by
  have C := Lib.hid (ob_due now HI)
  have hg : g8 < w.heap.size ∧ g9 < w.heap.size := ⟨HI.lt (k := g8) (o := arX last) (by simp), HI.lt (k := g9) (o := arX inc) (by simp)⟩
  generalize dueB 16 x.l now = r at *
  clear HI
  obtain ⟨bs, bd, l1, l5, l6, l8, l9⟩ := L
  have f1 := sl_get l1
  have f5 := sl_get l5
  have f6 := sl_get l6
  have f8 := sl_get l8
  have f9 := sl_get l9
  clear l1 l5 l6 l8 l9
  replace f10 := sl_get f10
  have HQ := Lib.hid hQ
  clear hQ
  conv => arg 2; whnf
  go_wp2_with fail
  refine C.out.mono ?_; clear C; rintro e w2 ⟨u, rfl, hr, hI⟩
  obtain ⟨A0, c0, rfl, _, _⟩ := rdB_form hr
  have HI2 := Lib.hid (show OD wx v ⟨x.s, r.2⟩ g8 g9 last inc w.heap.size (.slice A0 r.1.length c0) r.1 w2 from ⟨hI, hr, hg⟩)
  clear hI hr hg
  go_wp2_with fail
  refine HQ.out _ _ _ _ _ ⟨?_, ?_, fun i hi he => ?_⟩ ?_ HI2.out
  · try simp only [put_tmps]
    simp only [Array.size_setIfInBounds, bs]
  · first | (simp only [put_defers, bd]; done) | exact bd | rfl
  · try simp only [put_tmps]
    repeat rw [sl_ne _ (by omega)]
  · try simp only [put_tmps]
    repeat first | rw [sl_ne _ (by decide)] | rw [sl_eq _ (by simp only [Array.size_setIfInBounds, bs]; decide)]
    try exact sl_of (by rw [bs]; decide) (by assumption)
theorem bd23 (A : Act) (w : World) (Q : Exit → Act → World → Prop) (bs : A.tmps.size = 167) (bd : A.defers = []) 
    (hQ : ∀ A', NearD 21 16 17 A A' → sl A'.tmps 16 = .int .i64 0 → Q .normal A' w) :
    Code.wp Try.prog (dlR 23) Q A w := by
  have HQ := Lib.hid hQ
  clear hQ
  conv => arg 2; whnf
  go_wp2_with fail
  refine HQ.out _ ⟨?_, ?_, fun i hi he => ?_⟩ ?_ 
  · try simp only [put_tmps]
    simp only [Array.size_setIfInBounds, bs]
  · first | (simp only [put_defers, bd]; done) | exact bd | rfl
  · try simp only [put_tmps]
    repeat rw [sl_ne _ (by omega)]
  · try simp only [put_tmps]
    repeat first | rw [sl_ne _ (by decide)] | rw [sl_eq _ (by simp only [Array.size_setIfInBounds, bs]; decide)]
    try exact sl_of (by rw [bs]; decide) (by assumption)
theorem bd30 (A : Act) (w : World) (Q : Exit → Act → World → Prop) (bs : A.tmps.size = 167) (bd : A.defers = []) 
    (hQ : ∀ A', NearD 21 18 19 A A' → sl A'.tmps 18 = .int .i64 0 → Q .normal A' w) :
    Code.wp Try.prog (dlR 30) Q A w := by
  have HQ := Lib.hid hQ
  clear hQ
  conv => arg 2; whnf
  go_wp2_with fail
  refine HQ.out _ ⟨?_, ?_, fun i hi he => ?_⟩ ?_ 
  · try simp only [put_tmps]
    simp only [Array.size_setIfInBounds, bs]
  · first | (simp only [put_defers, bd]; done) | exact bd | rfl
  · try simp only [put_tmps]
    repeat rw [sl_ne _ (by omega)]
  · try simp only [put_tmps]
    repeat first | rw [sl_ne _ (by decide)] | rw [sl_eq _ (by simp only [Array.size_setIfInBounds, bs]; decide)]
    try exact sl_of (by rw [bs]; decide) (by assumption)
theorem bd24t (A : Act) (w : World) (Q : Exit → Act → World → Prop) (k n c : Nat) (A0 : Option Addr) (hd : decide (k < n) = true) (bs : A.tmps.size = 167) (bd : A.defers = []) (f15 : sl A.tmps 15 = .slice A0 n c) (f16 : sl A.tmps 16 = .int .i64 k)
    (hQ : ∀ A', NearD 21 21 21 A A' → sl A'.tmps 102 = .bool true → Q .normal A' w) :
    Code.wp Try.prog (dlR 24) Q A w := by
  have hd2 : decide ((k : Int) < (n : Int)) = true := by rw [← hd]; exact decide_eq_decide.2 (by omega)
  replace f15 := sl_get f15
  replace f16 := sl_get f16
  have HQ := Lib.hid hQ
  clear hQ
  conv => arg 2; whnf
  go_wp2_with fail
  refine HQ.out _ ⟨?_, ?_, fun i hi he => ?_⟩ ?_ 
  · try simp only [put_tmps]
    simp only [Array.size_setIfInBounds, bs]
  · first | (simp only [put_defers, bd]; done) | exact bd | rfl
  · try simp only [put_tmps]
    repeat rw [sl_ne _ (by omega)]
  · try simp only [put_tmps]
    repeat first | rw [sl_ne _ (by decide)] | rw [sl_eq _ (by simp only [Array.size_setIfInBounds, bs]; decide)]
    try exact sl_of (by rw [bs]; decide) (by assumption)
theorem bd31t (A : Act) (w : World) (Q : Exit → Act → World → Prop) (k : Nat) (hd : decide (k < 16) = true) (bs : A.tmps.size = 167) (bd : A.defers = []) (f18 : sl A.tmps 18 = .int .i64 k)
    (hQ : ∀ A', NearD 21 21 21 A A' → sl A'.tmps 138 = .bool true → Q .normal A' w) :
    Code.wp Try.prog (dlR 31) Q A w := by
  have hd2 : decide ((k : Int) < 16) = true := by rw [← hd]; exact decide_eq_decide.2 (by omega)
  replace f18 := sl_get f18
  have HQ := Lib.hid hQ
  clear hQ
  conv => arg 2; whnf
  go_wp2_with fail
  refine HQ.out _ ⟨?_, ?_, fun i hi he => ?_⟩ ?_ 
  · try simp only [put_tmps]
    simp only [Array.size_setIfInBounds, bs]
  · first | (simp only [put_defers, bd]; done) | exact bd | rfl
  · try simp only [put_tmps]
    repeat rw [sl_ne _ (by omega)]
  · try simp only [put_tmps]
    repeat first | rw [sl_ne _ (by decide)] | rw [sl_eq _ (by simp only [Array.size_setIfInBounds, bs]; decide)]
    try exact sl_of (by rw [bs]; decide) (by assumption)
theorem bd24f (A : Act) (w : World) (Q : Exit → Act → World → Prop) (k n c : Nat) (A0 : Option Addr) (hd : decide (k < n) = false) (bs : A.tmps.size = 167) (bd : A.defers = []) (f15 : sl A.tmps 15 = .slice A0 n c) (f16 : sl A.tmps 16 = .int .i64 k)
    (hQ : ∀ A', NearD 21 21 21 A A' → sl A'.tmps 102 = .bool false → Q .normal A' w) :
    Code.wp Try.prog (dlR 24) Q A w := by
  have hd2 : decide ((k : Int) < (n : Int)) = false := by rw [← hd]; exact decide_eq_decide.2 (by omega)
  replace f15 := sl_get f15
  replace f16 := sl_get f16
  have HQ := Lib.hid hQ
  clear hQ
  conv => arg 2; whnf
  go_wp2_with fail
  refine HQ.out _ ⟨?_, ?_, fun i hi he => ?_⟩ ?_ 
  · try simp only [put_tmps]
    simp only [Array.size_setIfInBounds, bs]
  · first | (simp only [put_defers, bd]; done) | exact bd | rfl
  · try simp only [put_tmps]
    repeat rw [sl_ne _ (by omega)]
  · try simp only [put_tmps]
    repeat first | rw [sl_ne _ (by decide)] | rw [sl_eq _ (by simp only [Array.size_setIfInBounds, bs]; decide)]
    try exact sl_of (by rw [bs]; decide) (by assumption)
theorem bd31f (A : Act) (w : World) (Q : Exit → Act → World → Prop) (k : Nat) (hd : decide (k < 16) = false) (bs : A.tmps.size = 167) (bd : A.defers = []) (f18 : sl A.tmps 18 = .int .i64 k)
    (hQ : ∀ A', NearD 21 21 21 A A' → sl A'.tmps 138 = .bool false → Q .normal A' w) :
    Code.wp Try.prog (dlR 31) Q A w := by
  have hd2 : decide ((k : Int) < 16) = false := by rw [← hd]; exact decide_eq_decide.2 (by omega)
  replace f18 := sl_get f18
  have HQ := Lib.hid hQ
  clear hQ
  conv => arg 2; whnf
  go_wp2_with fail
  refine HQ.out _ ⟨?_, ?_, fun i hi he => ?_⟩ ?_ 
  · try simp only [put_tmps]
    simp only [Array.size_setIfInBounds, bs]
  · first | (simp only [put_defers, bd]; done) | exact bd | rfl
  · try simp only [put_tmps]
    repeat rw [sl_ne _ (by omega)]
  · try simp only [put_tmps]
    repeat first | rw [sl_ne _ (by decide)] | rw [sl_eq _ (by simp only [Array.size_setIfInBounds, bs]; decide)]
    try exact sl_of (by rw [bs]; decide) (by assumption)
theorem bd26 (A : Act) (w : World) (Q : Exit → Act → World → Prop) (wx : World) (av v : Value) (s : Int) (g8 g9 : Nat) (L : LD A av v s g8 g9) (x : Tv) (last inc : Int → Int) (B : Nat) (A0 : Option Addr) (c : Nat) (ds : List Bt) (k : Nat) (hk : k < ds.length) (hn : ds.length ≤ 1000) (f15 : sl A.tmps 15 = .slice A0 ds.length c) (f16 : sl A.tmps 16 = .int .i64 k) (HI : OD wx v x g8 g9 last inc B (.slice A0 ds.length c) ds w)
    (hQ : ∀ A' w' gx, NearD 21 17 18 A A' → sl A'.tmps 17 = ptrB gx → OX wx v x g8 g9 last inc B (.slice A0 ds.length c) ds gx ds[k] w' → Q .normal A' w') :
    Code.wp Try.prog (dlR 26) Q A w := by
  obtain ⟨b0, o0, rfl, _, y0, y1, y2⟩ := rdB_at HI.row hk
  have i0k : (0 : Int) ≤ (k : Int) := by omega
  have i1k : (k : Int) < (ds.length : Int) := by omega
  have i2k : (ds.length : Int) ≤ 1000 := by omega
  have HI2 := Lib.hid (ox_new ds[k] HI)
  unfold btX at HI2
  generalize ds[k] = d at *
  clear HI
  obtain ⟨bs, bd, l1, l5, l6, l8, l9⟩ := L
  have f1 := sl_get l1
  have f5 := sl_get l5
  have f6 := sl_get l6
  have f8 := sl_get l8
  have f9 := sl_get l9
  clear l1 l5 l6 l8 l9
  replace f15 := sl_get f15
  replace f16 := sl_get f16
  have HQ := Lib.hid hQ
  clear hQ
  conv => arg 2; whnf
  go_wp2_with fail
  refine HQ.out _ _ _ ⟨?_, ?_, fun i hi he => ?_⟩ ?_ HI2.out
  · try simp only [put_tmps]
    simp only [Array.size_setIfInBounds, bs]
  · first | (simp only [put_defers, bd]; done) | exact bd | rfl
  · try simp only [put_tmps]
    repeat rw [sl_ne _ (by omega)]
  · try simp only [put_tmps]
    repeat first | rw [sl_ne _ (by decide)] | rw [sl_eq _ (by simp only [Array.size_setIfInBounds, bs]; decide)]
    try exact sl_of (by rw [bs]; decide) (by assumption)
theorem bd27 (A : Act) (w : World) (Q : Exit → Act → World → Prop) (wx : World) (av v : Value) (s : Int) (g8 g9 : Nat) (L : LD A av v s g8 g9) (x : Tv) (last inc : Int → Int) (B : Nat) (u : Value) (ds : List Bt) (gx : Nat) (d : Bt) (now : Int) (h0 : 0 ≤ d.n) (h1 : d.n ≤ 15) (hi : inc d.n = d.i) (hl : last d.n ≤ now) (f10 : sl A.tmps 10 = .int .i64 now) (f17 : sl A.tmps 17 = ptrB gx) (HI : OX wx v x g8 g9 last inc B u ds gx d w)
    (hQ : ∀ A' w', NearD 21 21 21 A A' → sl A'.tmps 133 = .bool false → OX wx v x g8 g9 last inc B u ds gx d w' → Q .normal A' w') :
    Code.wp Try.prog (dlR 27) Q A w := by
  have HI0 := Lib.hid HI.draws
  have HCE := Lib.hid (fun w' (h : OX wx v x g8 g9 last inc B u ds gx d w') => And.intro h.cells (And.intro (oa_inc h0 h1 h.od.ob) (oa_last h0 h1 h.od.ob)))
  rw [hi] at HCE
  have e1 : decide (d.n < 0) = false := decide_eq_false (by omega)
  have e2 : decide (15 < d.n) = false := decide_eq_false (by omega)
  have e3 : decide (d.n > 15) = false := e2
  have e4 : (d.i != d.i) = false := by simp
  have e5 : decide (now < last d.n) = false := decide_eq_false (by omega)
  have e6 : decide (last d.n > now) = false := e5
  have i1 : d.n < 16 := by omega
  generalize last d.n = ld at *
  clear HI hi hl
  obtain ⟨bs, bd, l1, l5, l6, l8, l9⟩ := L
  have f1 := sl_get l1
  have f5 := sl_get l5
  have f6 := sl_get l6
  have f8 := sl_get l8
  have f9 := sl_get l9
  clear l1 l5 l6 l8 l9
  replace f10 := sl_get f10
  replace f17 := sl_get f17
  have HQ := Lib.hid hQ
  clear hQ
  conv => arg 2; whnf
  refine wp_region_hold (fun w' => OX wx v x g8 g9 last inc B u ds gx d w') (by kernel_rfl) (by kernel_rfl) HI0.out ?_
  repeat
    first
    | (refine hold_val (v := ?_) ?_ ?_ ?_
       rotate_left
       · first
         | (simp [Region.wanted]; done)
         | (simp [Region.wanted, yielded, Act.put, bs]; done)
       · (intro w' hC
          obtain ⟨⟨_, _, _⟩, ⟨_, _⟩, ⟨_, _⟩⟩ := HCE.out w' hC
          clear hC
          go_simp
          try with_reducible rfl))
    | (refine hold_skip ?_ ?_
       · (first | (simp [Region.wanted, yielded, Act.put, bs]; done) | (simp [Region.wanted, yielded, Act.put, bs, undef]; done)))
  refine hold_nil (fun w3 hC => ?_)
  have HI3 := Lib.hid hC
  clear hC
  refine HQ.out _ _ ⟨?_, ?_, fun i hi he => ?_⟩ ?_ HI3.out
  · try simp only [put_tmps]
    simp only [Array.size_setIfInBounds, bs]
  · first | (simp only [put_defers, bd]; done) | exact bd | rfl
  · try simp only [put_tmps]
    repeat rw [sl_ne _ (by omega)]
  · try simp only [put_tmps]
    repeat first | rw [sl_ne _ (by decide)] | rw [sl_eq _ (by simp only [Array.size_setIfInBounds, bs]; decide)]
    try exact sl_of (by rw [bs]; decide) (by assumption)
theorem bd29 (A : Act) (w : World) (Q : Exit → Act → World → Prop) (wx : World) (av v : Value) (s : Int) (g8 g9 : Nat) (L : LD A av v s g8 g9) (x : Tv) (last inc : Int → Int) (B : Nat) (u : Value) (ds : List Bt) (gx : Nat) (d : Bt) (h0 : 0 ≤ d.n) (h1 : d.n ≤ 15) (hne : g8 ≠ g9) (f17 : sl A.tmps 17 = ptrB gx) (HI : OX wx v x g8 g9 last inc B u ds gx d w)
    (hQ : ∀ A' w', NearD 21 21 21 A A' → OD wx v x g8 g9 last (setZ inc d.n 0) B u ds w' → Q .normal A' w') :
    Code.wp Try.prog (dlR 29) Q A w := by
  obtain ⟨z0, z1, z2⟩ := HI.cells
  obtain ⟨y0, y1⟩ := oa_inc h0 h1 HI.od.ob
  have i1 : d.n < 16 := by omega
  have HI2 := Lib.hid (od_set9 0 h0 h1 hne HI.od)
  clear HI
  obtain ⟨bs, bd, l1, l5, l6, l8, l9⟩ := L
  have f1 := sl_get l1
  have f5 := sl_get l5
  have f6 := sl_get l6
  have f8 := sl_get l8
  have f9 := sl_get l9
  clear l1 l5 l6 l8 l9
  replace f17 := sl_get f17
  have HQ := Lib.hid hQ
  clear hQ
  conv => arg 2; whnf
  go_wp2_with fail
  refine HQ.out _ _ ⟨?_, ?_, fun i hi he => ?_⟩  HI2.out
  · try simp only [put_tmps]
    simp only [Array.size_setIfInBounds, bs]
  · first | (simp only [put_defers, bd]; done) | exact bd | rfl
  · try simp only [put_tmps]
    repeat rw [sl_ne _ (by omega)]
theorem bd33 (A : Act) (w : World) (Q : Exit → Act → World → Prop) (wx : World) (av v : Value) (s : Int) (g8 g9 : Nat) (L : LD A av v s g8 g9) (x : Tv) (last inc : Int → Int) (k : Nat) (hk : inI (k : Int)) (f18 : sl A.tmps 18 = .int .i64 k) (HI : OA wx v x g8 g9 last inc w)
    (hQ : ∀ A' w', NearD 21 19 21 A A' → sl A'.tmps 20 = .bool (beatB x.l (k : Int)).isSome → OA wx v x g8 g9 last inc w' → Q .normal A' w') :
    Code.wp Try.prog (dlR 33) Q A w := by
  have C := Lib.hid (ob_bget hk HI)
  unfold bt3 at C
  generalize btD (beatB x.l (k : Int)) = b at *
  generalize (beatB x.l (k : Int)).isSome = fd at *
  clear HI hk
  obtain ⟨bs, bd, l1, l5, l6, l8, l9⟩ := L
  have f1 := sl_get l1
  have f5 := sl_get l5
  have f6 := sl_get l6
  have f8 := sl_get l8
  have f9 := sl_get l9
  clear l1 l5 l6 l8 l9
  replace f18 := sl_get f18
  have HQ := Lib.hid hQ
  clear hQ
  conv => arg 2; whnf
  go_wp2_with fail
  refine C.out.mono ?_; clear C; rintro e w2 ⟨rfl, hI⟩
  have HI2 := Lib.hid (hI.new (btX b)).tail
  unfold btX at HI2
  clear hI
  go_wp2_with fail
  refine HQ.out _ _ ⟨?_, ?_, fun i hi he => ?_⟩ ?_ HI2.out
  · try simp only [put_tmps]
    simp only [Array.size_setIfInBounds, bs]
  · first | (simp only [put_defers, bd]; done) | exact bd | rfl
  · try simp only [put_tmps]
    repeat rw [sl_ne _ (by omega)]
  · try simp only [put_tmps]
    repeat first | rw [sl_ne _ (by decide)] | rw [sl_eq _ (by simp only [Array.size_setIfInBounds, bs]; decide)]
    try exact sl_of (by rw [bs]; decide) (by assumption)
theorem bd34 (A : Act) (w : World) (Q : Exit → Act → World → Prop) (wx : World) (av v : Value) (s : Int) (g8 g9 : Nat) (L : LD A av v s g8 g9) (x : Tv) (last inc : Int → Int) (k : Nat) (now : Int) (b : Bool) (hk : k < 16) (hb : decide (0 < inc (k : Int)) = b) (hl : b = true → now < last (k : Int)) (f10 : sl A.tmps 10 = .int .i64 now) (f18 : sl A.tmps 18 = .int .i64 k) (f20 : sl A.tmps 20 = .bool b) (HI : OA wx v x g8 g9 last inc w)
    (hQ : ∀ A', NearD 21 21 21 A A' → sl A'.tmps 165 = .bool false → Q .normal A' w) :
    Code.wp Try.prog (dlR 34) Q A w := by
  obtain ⟨y0, y1⟩ := oa_inc (j := (k : Int)) (by omega) (by omega) HI
  obtain ⟨z0, z1⟩ := oa_last (j := (k : Int)) (by omega) (by omega) HI
  have i0 : (0 : Int) ≤ (k : Int) := by omega
  have i1 : (k : Int) < 16 := by omega
  have hb3 : decide (inc (k : Int) > 0) = b := hb
  have hun : undef = Value.tuple #[] := rfl
  simp only [Int.toNat_natCast] at y0 y1 z0 z1
  generalize inc (k : Int) = z at *
  generalize last (k : Int) = ld at *
  clear HI hk
  obtain ⟨bs, bd, l1, l5, l6, l8, l9⟩ := L
  have f1 := sl_get l1
  have f5 := sl_get l5
  have f6 := sl_get l6
  have f8 := sl_get l8
  have f9 := sl_get l9
  clear l1 l5 l6 l8 l9
  replace f10 := sl_get f10
  replace f18 := sl_get f18
  replace f20 := sl_get f20
  have HQ := Lib.hid hQ
  clear hQ
  cases b
  · clear hl
    conv => arg 2; whnf
    go_wp2_with fail
    refine HQ.out _ ⟨?_, ?_, fun i hi he => ?_⟩ ?_ 
    · try simp only [put_tmps]
      simp only [Array.size_setIfInBounds, bs]
    · first | (simp only [put_defers, bd]; done) | exact bd | rfl
    · try simp only [put_tmps]
      repeat rw [sl_ne _ (by omega)]
    · try simp only [put_tmps]
      repeat first | rw [sl_ne _ (by decide)] | rw [sl_eq _ (by simp only [Array.size_setIfInBounds, bs]; decide)]
      try exact sl_of (by rw [bs]; decide) (by assumption)
  · have e1 : decide (ld ≤ now) = false := decide_eq_false (by have := hl rfl; omega)
    clear hl
    conv => arg 2; whnf
    go_wp2_with fail
    refine HQ.out _ ⟨?_, ?_, fun i hi he => ?_⟩ ?_ 
    · try simp only [put_tmps]
      simp only [Array.size_setIfInBounds, bs]
    · first | (simp only [put_defers, bd]; done) | exact bd | rfl
    · try simp only [put_tmps]
      repeat rw [sl_ne _ (by omega)]
    · try simp only [put_tmps]
      repeat first | rw [sl_ne _ (by decide)] | rw [sl_eq _ (by simp only [Array.size_setIfInBounds, bs]; decide)]
      try exact sl_of (by rw [bs]; decide) (by assumption)
end Go.Proofs.Ytdlkpkigpnlanaa
