/- The regions of BeatPlays, a lemma each, the frame a variable. Conditions: as stated. -/
import Derived.Test.YtdlkpkigpnlanaaBplA
namespace Go.Proofs.Ytdlkpkigpnlanaa
open Go.ChangeShapes Go.WideShapes Go.ChangeAt Go.RowKit
set_option linter.unusedVariables false
set_option maxRecDepth 100000
set_option linter.unusedSimpArgs false
set_option maxHeartbeats 4000000

theorem b12t (A : Act) (w : World) (Q : Exit → Act → World → Prop) (k n cap : Nat) (a0 : Option Addr) (nd : Int) (v : Value) (gx bz : Nat) (hd : decide (k < n) = true) (L : LD A (.slice a0 n cap) nd v gx bz) (f12 : sl A.tmps 12 = .int .i64 k)
    (hQ : ∀ A', NearD 23 23 23 A A' → sl A'.tmps 64 = .bool true → Q .normal A' w) :
    Code.wp Try.prog (bpR 12) Q A w := by
  have hd2 : decide ((k : Int) < (n : Int)) = true := by rw [← hd]; exact decide_eq_decide.2 (by omega)
  obtain ⟨bs, bd, l1, l2, l7, l9, l10, l11⟩ := L
  have f1 := sl_get l1
  have f2 := sl_get l2
  have f7 := sl_get l7
  have f9 := sl_get l9
  have f10 := sl_get l10
  have f11 := sl_get l11
  clear l1 l2 l7 l9 l10 l11
  replace f12 := sl_get f12
  have HQ := Lib.hid hQ
  clear hQ
  conv => arg 2; whnf
  go_wp2_with fail
  refine HQ.out _ ⟨?_, ?_, fun i hi he => ?_⟩ ?_ 
  · try simp only [put_tmps]
    simp only [Array.size_setIfInBounds, bs]
  · first | (simp only [put_defers, bd]; done) | exact bd | rfl
  · try simp only [put_tmps]
    repeat rw [sl_ne _ (by omega)]
  · try simp only [put_tmps]
    repeat first | rw [sl_ne _ (by decide)] | rw [sl_eq _ (by simp only [Array.size_setIfInBounds, bs]; decide)]
    try exact sl_of (by rw [bs]; decide) (by assumption)
theorem b12f (A : Act) (w : World) (Q : Exit → Act → World → Prop) (k n cap : Nat) (a0 : Option Addr) (nd : Int) (v : Value) (gx bz : Nat) (hd : decide (k < n) = false) (L : LD A (.slice a0 n cap) nd v gx bz) (f12 : sl A.tmps 12 = .int .i64 k)
    (hQ : ∀ A', NearD 23 23 23 A A' → sl A'.tmps 64 = .bool false → Q .normal A' w) :
    Code.wp Try.prog (bpR 12) Q A w := by
  have hd2 : decide ((k : Int) < (n : Int)) = false := by rw [← hd]; exact decide_eq_decide.2 (by omega)
  obtain ⟨bs, bd, l1, l2, l7, l9, l10, l11⟩ := L
  have f1 := sl_get l1
  have f2 := sl_get l2
  have f7 := sl_get l7
  have f9 := sl_get l9
  have f10 := sl_get l10
  have f11 := sl_get l11
  clear l1 l2 l7 l9 l10 l11
  replace f12 := sl_get f12
  have HQ := Lib.hid hQ
  clear hQ
  conv => arg 2; whnf
  go_wp2_with fail
  refine HQ.out _ ⟨?_, ?_, fun i hi he => ?_⟩ ?_ 
  · try simp only [put_tmps]
    simp only [Array.size_setIfInBounds, bs]
  · first | (simp only [put_defers, bd]; done) | exact bd | rfl
  · try simp only [put_tmps]
    repeat rw [sl_ne _ (by omega)]
  · try simp only [put_tmps]
    repeat first | rw [sl_ne _ (by decide)] | rw [sl_eq _ (by simp only [Array.size_setIfInBounds, bs]; decide)]
    try exact sl_of (by rw [bs]; decide) (by assumption)
theorem b13 (A : Act) (w : World) (Q : Exit → Act → World → Prop) (k : Nat) (hk : k ≤ 200) (bs : A.tmps.size = 238) (bd : A.defers = []) (f12 : sl A.tmps 12 = .int .i64 k)
    (hQ : ∀ A', NearD 23 12 13 A A' → sl A'.tmps 12 = .int .i64 ((k : Int) + 1) → Q .normal A' w) :
    Code.wp Try.prog (bpR 13) Q A w := by
  have q3 : IntKind.i64.wrap ((k : Int) + 1) = (k : Int) + 1 := IntWalk.i64_in _ (by omega)
  replace f12 := sl_get f12
  have HQ := Lib.hid hQ
  clear hQ
  conv => arg 2; whnf
  go_wp2_with fail
  refine HQ.out _ ⟨?_, ?_, fun i hi he => ?_⟩ ?_ 
  · try simp only [put_tmps]
    simp only [Array.size_setIfInBounds, bs]
  · first | (simp only [put_defers, bd]; done) | exact bd | rfl
  · try simp only [put_tmps]
    repeat rw [sl_ne _ (by omega)]
  · try simp only [put_tmps]
    repeat first | rw [sl_ne _ (by decide)] | rw [sl_eq _ (by simp only [Array.size_setIfInBounds, bs]; decide)]
    try exact sl_of (by rw [bs]; decide) (by assumption)
theorem b14 (A : Act) (w : World) (Q : Exit → Act → World → Prop) (wx : World) (k n cap ba oa bz gx : Nat) (v : Value) (nd : Int) (a : ActE) (x : Tv) (row u : Value) (ds : List Bt) (hlt : k < n) (hn : n ≤ 100) (HC : ∀ w', Below wx.heap.size wx w' → AcEC ba (oa + k * 4) a w')
    (L : LD A (.slice (some ⟨ba, oa, none⟩) n cap) nd v gx bz) (f12 : sl A.tmps 12 = .int .i64 k) (HI : TA wx [(gx, tbX x.s row)] v x bz row u x.l ds w)
    (hQ : ∀ A' w' ga, NearD 23 13 14 A A' → sl A'.tmps 13 = ptrB ga → ga ≠ gx → TA wx (B2 ga a gx x.s row) v x bz row u x.l ds w' → Q .normal A' w') :
    Code.wp Try.prog (bpR 14) Q A w := by
  have i0k : (0 : Int) ≤ (k : Int) := by omega
  have i1k : (k : Int) < (n : Int) := by omega
  have i2k : (n : Int) ≤ 100 := by omega
  obtain ⟨g0, g1, g2, g3⟩ := HC w HI.bel
  obtain ⟨hnew, hne⟩ := ta_new1 a HI
  have HN := Lib.hid hnew
  have HNE := Lib.hid hne
  clear hnew hne HC HI
  obtain ⟨bs, bd, l1, l2, l7, l9, l10, l11⟩ := L
  have f1 := sl_get l1
  have f2 := sl_get l2
  have f7 := sl_get l7
  have f9 := sl_get l9
  have f10 := sl_get l10
  have f11 := sl_get l11
  clear l1 l2 l7 l9 l10 l11
  replace f12 := sl_get f12
  have HQ := Lib.hid hQ
  clear hQ
  conv => arg 2; whnf
  go_wp2_with fail
  refine HQ.out _ _ _ ⟨?_, ?_, fun i hi he => ?_⟩ ?_ HNE.out HN.out
  · try simp only [put_tmps]
    simp only [Array.size_setIfInBounds, bs]
  · first | (simp only [put_defers, bd]; done) | exact bd | rfl
  · try simp only [put_tmps]
    repeat rw [sl_ne _ (by omega)]
  · try simp only [put_tmps]
    repeat first | rw [sl_ne _ (by decide)] | rw [sl_eq _ (by simp only [Array.size_setIfInBounds, bs]; decide)]
    try exact sl_of (by rw [bs]; decide) (by assumption)
theorem b15 (A : Act) (w : World) (Q : Exit → Act → World → Prop) (wx : World) (bz gx ga : Nat) (av v : Value) (nd : Int) (a : ActE) (L : LD A av nd v gx bz) (f13 : sl A.tmps 13 = ptrB ga) (x : Tv) (row u : Value) (ds : List Bt) (HI : TA wx (B2 ga a gx x.s row) v x bz row u x.l ds w) 
    (hQ : ∀ A', NearD 23 23 23 A A' → sl A'.tmps 72 = .int .i64 a.kind → Q .normal A' w) :
    Code.wp Try.prog (bpR 15) Q A w := by
  obtain ⟨g0, g1, g2, g3⟩ := ta_act HI
  clear HI
  obtain ⟨bs, bd, l1, l2, l7, l9, l10, l11⟩ := L
  have f1 := sl_get l1
  have f2 := sl_get l2
  have f7 := sl_get l7
  have f9 := sl_get l9
  have f10 := sl_get l10
  have f11 := sl_get l11
  clear l1 l2 l7 l9 l10 l11
  replace f13 := sl_get f13
  have HQ := Lib.hid hQ
  clear hQ
  conv => arg 2; whnf
  go_wp2_with fail
  refine HQ.out _ ⟨?_, ?_, fun i hi he => ?_⟩ ?_ 
  · try simp only [put_tmps]
    simp only [Array.size_setIfInBounds, bs]
  · first | (simp only [put_defers, bd]; done) | exact bd | rfl
  · try simp only [put_tmps]
    repeat rw [sl_ne _ (by omega)]
  · try simp only [put_tmps]
    repeat first | rw [sl_ne _ (by decide)] | rw [sl_eq _ (by simp only [Array.size_setIfInBounds, bs]; decide)]
    try exact sl_of (by rw [bs]; decide) (by assumption)
theorem b20 (A : Act) (w : World) (Q : Exit → Act → World → Prop) (kd : Int) (bs : A.tmps.size = 238) (bd : A.defers = []) (f72 : sl A.tmps 72 = .int .i64 kd)
    (hQ : ∀ A', NearD 102 102 102 A A' → sl A'.tmps 102 = .bool (kd == 1) → Q .normal A' w) :
    Code.wp Try.prog (bpR 20) Q A w := by
  replace f72 := sl_get f72
  have HQ := Lib.hid hQ
  clear hQ
  conv => arg 2; whnf
  go_wp2_with fail
  refine HQ.out _ ⟨?_, ?_, fun i hi he => ?_⟩ ?_ 
  · try simp only [put_tmps]
    simp only [Array.size_setIfInBounds, bs]
  · first | (simp only [put_defers, bd]; done) | exact bd | rfl
  · try simp only [put_tmps]
    repeat rw [sl_ne _ (by omega)]
  · try simp only [put_tmps]
    repeat first | rw [sl_ne _ (by decide)] | rw [sl_eq _ (by simp only [Array.size_setIfInBounds, bs]; decide)]
    try exact sl_of (by rw [bs]; decide) (by assumption)
theorem b25 (A : Act) (w : World) (Q : Exit → Act → World → Prop) (kd : Int) (bs : A.tmps.size = 238) (bd : A.defers = []) (f72 : sl A.tmps 72 = .int .i64 kd)
    (hQ : ∀ A', NearD 102 102 102 A A' → sl A'.tmps 148 = .bool (kd == 2) → Q .normal A' w) :
    Code.wp Try.prog (bpR 25) Q A w := by
  replace f72 := sl_get f72
  have HQ := Lib.hid hQ
  clear hQ
  conv => arg 2; whnf
  go_wp2_with fail
  refine HQ.out _ ⟨?_, ?_, fun i hi he => ?_⟩ ?_ 
  · try simp only [put_tmps]
    simp only [Array.size_setIfInBounds, bs]
  · first | (simp only [put_defers, bd]; done) | exact bd | rfl
  · try simp only [put_tmps]
    repeat rw [sl_ne _ (by omega)]
  · try simp only [put_tmps]
    repeat first | rw [sl_ne _ (by decide)] | rw [sl_eq _ (by simp only [Array.size_setIfInBounds, bs]; decide)]
    try exact sl_of (by rw [bs]; decide) (by assumption)
theorem b21 (A : Act) (w : World) (Q : Exit → Act → World → Prop) (wx : World) (bz gx ga : Nat) (av v : Value) (nd : Int) (a : ActE) (L : LD A av nd v gx bz) (f13 : sl A.tmps 13 = ptrB ga) (x : Tv) (row u : Value) (ds : List Bt) (HI : TA wx (B2 ga a gx x.s row) v x bz row u x.l ds w) (hl : x.l.length ≤ 1000) 
    (hQ : ∀ A' w' r gn, NearD 23 14 16 A A' → sl A'.tmps 14 = ptrB gn → sl A'.tmps 15 = .int .i64 (seenB x.s x.l a.n a.m a.e).2 → TA wx ((gn, tbX x.s r) :: (B2 ga a gx x.s row)) v x bz r u (seenB x.s x.l a.n a.m a.e).1 ds w' → Q .normal A' w') :
    Code.wp Try.prog (bpR 21) Q A w := by
  have C := Lib.hid (td_seen x.s a.n a.m a.e (by omega) HI)
  generalize seenB x.s x.l a.n a.m a.e = r0 at *
  obtain ⟨g0, g1, g2, g3⟩ := ta_act HI
  obtain ⟨y0, y1, _, _⟩ := ta_tab HI
  clear HI
  unfold tbV at C
  obtain ⟨bs, bd, l1, l2, l7, l9, l10, l11⟩ := L
  have f1 := sl_get l1
  have f2 := sl_get l2
  have f7 := sl_get l7
  have f9 := sl_get l9
  have f10 := sl_get l10
  have f11 := sl_get l11
  clear l1 l2 l7 l9 l10 l11
  replace f13 := sl_get f13
  have HQ := Lib.hid hQ
  clear hQ
  conv => arg 2; whnf
  go_wp2_with fail
  refine C.out.mono ?_; clear g0 g1 g2 g3 y0 y1 C; rintro e w2 ⟨r, rfl, hI⟩
  obtain ⟨K0, hr0⟩ := TA.rd1 hI
  obtain ⟨A0, c0, rfl, _, _⟩ := rdB_form hr0
  clear hr0
  have HI2 := Lib.hid (hI.new (tbX x.s (.slice A0 r0.1.length c0)))
  unfold tbX at HI2
  clear hI
  go_wp2_with fail
  refine HQ.out _ _ _ _ ⟨?_, ?_, fun i hi he => ?_⟩ ?_ ?_ HI2.out
  · try simp only [put_tmps]
    simp only [Array.size_setIfInBounds, bs]
  · first | (simp only [put_defers, bd]; done) | exact bd | rfl
  · try simp only [put_tmps]
    repeat rw [sl_ne _ (by omega)]
  · try simp only [put_tmps]
    repeat first | rw [sl_ne _ (by decide)] | rw [sl_eq _ (by simp only [Array.size_setIfInBounds, bs]; decide)]
    try exact sl_of (by rw [bs]; decide) (by assumption)
  · try simp only [put_tmps]
    repeat first | rw [sl_ne _ (by decide)] | rw [sl_eq _ (by simp only [Array.size_setIfInBounds, bs]; decide)]
    try exact sl_of (by rw [bs]; decide) (by assumption)
theorem b26 (A : Act) (w : World) (Q : Exit → Act → World → Prop) (wx : World) (bz gx ga : Nat) (av v : Value) (nd : Int) (a : ActE) (L : LD A av nd v gx bz) (f13 : sl A.tmps 13 = ptrB ga) (x : Tv) (row u : Value) (ds : List Bt) (HI : TA wx (B2 ga a gx x.s row) v x bz row u x.l ds w) (hl : x.l.length ≤ 1000) 
    (hQ : ∀ A' w' r gn, NearD 23 16 18 A A' → sl A'.tmps 16 = ptrB gn → sl A'.tmps 17 = .bool (dropB x.l a.n a.m).2 → TA wx ((gn, tbX x.s r) :: (B2 ga a gx x.s row)) v x bz r u (dropB x.l a.n a.m).1 ds w' → Q .normal A' w') :
    Code.wp Try.prog (bpR 26) Q A w := by
  have C := Lib.hid (td_drop x.s a.n a.m (by omega) HI)
  generalize dropB x.l a.n a.m = r0 at *
  obtain ⟨g0, g1, g2, g3⟩ := ta_act HI
  obtain ⟨y0, y1, _, _⟩ := ta_tab HI
  clear HI
  unfold tbV at C
  obtain ⟨bs, bd, l1, l2, l7, l9, l10, l11⟩ := L
  have f1 := sl_get l1
  have f2 := sl_get l2
  have f7 := sl_get l7
  have f9 := sl_get l9
  have f10 := sl_get l10
  have f11 := sl_get l11
  clear l1 l2 l7 l9 l10 l11
  replace f13 := sl_get f13
  have HQ := Lib.hid hQ
  clear hQ
  conv => arg 2; whnf
  go_wp2_with fail
  refine C.out.mono ?_; clear g0 g1 g2 g3 y0 y1 C; rintro e w2 ⟨r, rfl, hI⟩
  obtain ⟨K0, hr0⟩ := TA.rd1 hI
  obtain ⟨A0, c0, rfl, _, _⟩ := rdB_form hr0
  clear hr0
  have HI2 := Lib.hid (hI.new (tbX x.s (.slice A0 r0.1.length c0)))
  unfold tbX at HI2
  clear hI
  go_wp2_with fail
  refine HQ.out _ _ _ _ ⟨?_, ?_, fun i hi he => ?_⟩ ?_ ?_ HI2.out
  · try simp only [put_tmps]
    simp only [Array.size_setIfInBounds, bs]
  · first | (simp only [put_defers, bd]; done) | exact bd | rfl
  · try simp only [put_tmps]
    repeat rw [sl_ne _ (by omega)]
  · try simp only [put_tmps]
    repeat first | rw [sl_ne _ (by decide)] | rw [sl_eq _ (by simp only [Array.size_setIfInBounds, bs]; decide)]
    try exact sl_of (by rw [bs]; decide) (by assumption)
  · try simp only [put_tmps]
    repeat first | rw [sl_ne _ (by decide)] | rw [sl_eq _ (by simp only [Array.size_setIfInBounds, bs]; decide)]
    try exact sl_of (by rw [bs]; decide) (by assumption)
theorem b16 (A : Act) (w : World) (Q : Exit → Act → World → Prop) (wx : World) (bz gx ga : Nat) (av v : Value) (nd : Int) (a : ActE) (L : LD A av nd v gx bz) (f13 : sl A.tmps 13 = ptrB ga) (x : Tv) (row u : Value) (ds : List Bt) (HI : TA wx (B2 ga a gx x.s row) v x bz row u x.l ds w) (hl : x.l.length ≤ 1000) 
    (hQ : ∀ A' w' r o gn, NearD 23 18 20 A A' → sl A'.tmps 18 = ptrB gn → sl A'.tmps 19 = o → TA wx ((gn, tbX x.s r) :: (B2 ga a gx x.s row)) v x bz r o (dueB 16 x.l a.e).2 (dueB 16 x.l a.e).1 w' → Q .normal A' w') :
    Code.wp Try.prog (bpR 16) Q A w := by
  have C := Lib.hid (td_due x.s a.e (by omega) HI)
  generalize dueB 16 x.l a.e = r0 at *
  obtain ⟨g0, g1, g2, g3⟩ := ta_act HI
  obtain ⟨y0, y1, _, _⟩ := ta_tab HI
  clear HI
  unfold tbV at C
  obtain ⟨bs, bd, l1, l2, l7, l9, l10, l11⟩ := L
  have f1 := sl_get l1
  have f2 := sl_get l2
  have f7 := sl_get l7
  have f9 := sl_get l9
  have f10 := sl_get l10
  have f11 := sl_get l11
  clear l1 l2 l7 l9 l10 l11
  replace f13 := sl_get f13
  have HQ := Lib.hid hQ
  clear hQ
  conv => arg 2; whnf
  go_wp2_with fail
  refine C.out.mono ?_; clear g0 g1 g2 g3 y0 y1 C; rintro e w2 ⟨r, o, rfl, hI⟩
  obtain ⟨K0, hr0⟩ := TA.rd1 hI
  obtain ⟨A0, c0, rfl, _, _⟩ := rdB_form hr0
  clear hr0
  have HI2 := Lib.hid (hI.new (tbX x.s (.slice A0 r0.2.length c0)))
  unfold tbX at HI2
  clear hI
  go_wp2_with fail
  refine HQ.out _ _ _ o _ ⟨?_, ?_, fun i hi he => ?_⟩ ?_ ?_ HI2.out
  · try simp only [put_tmps]
    simp only [Array.size_setIfInBounds, bs]
  · first | (simp only [put_defers, bd]; done) | exact bd | rfl
  · try simp only [put_tmps]
    repeat rw [sl_ne _ (by omega)]
  · try simp only [put_tmps]
    repeat first | rw [sl_ne _ (by decide)] | rw [sl_eq _ (by simp only [Array.size_setIfInBounds, bs]; decide)]
    try exact sl_of (by rw [bs]; decide) (by assumption)
  · try simp only [put_tmps]
    repeat first | rw [sl_ne _ (by decide)] | rw [sl_eq _ (by simp only [Array.size_setIfInBounds, bs]; decide)]
    try exact sl_of (by rw [bs]; decide) (by assumption)
theorem b22 (A : Act) (w : World) (Q : Exit → Act → World → Prop) (wx : World) (bz gx ga : Nat) (av v : Value) (nd : Int) (a : ActE) (L : LD A av nd v gx bz) (f13 : sl A.tmps 13 = ptrB ga) (x : Tv) (row r u : Value) (l3 ds : List Bt) (gn : Nat) (hne : ga ≠ gx) (f14 : sl A.tmps 14 = ptrB gn) (HI : TA wx ((gn, tbX x.s r) :: (B2 ga a gx x.s row)) v x bz r u l3 ds w) 
    (hQ : ∀ A' w', NearD 23 23 23 A A' → TA wx (B2 ga a gx x.s r) v x bz r u l3 ds w' → Q .normal A' w') :
    Code.wp Try.prog (bpR 22) Q A w := by
  obtain ⟨K0, hr0⟩ := TA.rd1 HI
  obtain ⟨A0, c0, rfl, _, _⟩ := rdB_form hr0
  clear hr0
  have HI2 := Lib.hid (ta_copy HI hne)
  obtain ⟨n0, n1, y0, y1, z0, z1⟩ := ta_nxt HI
  clear HI hne
  obtain ⟨bs, bd, l1, l2, l7, l9, l10, l11⟩ := L
  have f1 := sl_get l1
  have f2 := sl_get l2
  have f7 := sl_get l7
  have f9 := sl_get l9
  have f10 := sl_get l10
  have f11 := sl_get l11
  clear l1 l2 l7 l9 l10 l11
  replace f13 := sl_get f13
  replace f14 := sl_get f14
  have HQ := Lib.hid hQ
  clear hQ
  conv => arg 2; whnf
  go_wp2_with fail
  refine HQ.out _ _ ⟨?_, ?_, fun i hi he => ?_⟩  HI2.out
  · try simp only [put_tmps]
    simp only [Array.size_setIfInBounds, bs]
  · first | (simp only [put_defers, bd]; done) | exact bd | rfl
  · try simp only [put_tmps]
    repeat rw [sl_ne _ (by omega)]
theorem b27 (A : Act) (w : World) (Q : Exit → Act → World → Prop) (wx : World) (bz gx ga : Nat) (av v : Value) (nd : Int) (a : ActE) (L : LD A av nd v gx bz) (f13 : sl A.tmps 13 = ptrB ga) (x : Tv) (row r u : Value) (l3 ds : List Bt) (gn : Nat) (hne : ga ≠ gx) (f16 : sl A.tmps 16 = ptrB gn) (HI : TA wx ((gn, tbX x.s r) :: (B2 ga a gx x.s row)) v x bz r u l3 ds w) 
    (hQ : ∀ A' w', NearD 23 23 23 A A' → TA wx (B2 ga a gx x.s r) v x bz r u l3 ds w' → Q .normal A' w') :
    Code.wp Try.prog (bpR 27) Q A w := by
  obtain ⟨K0, hr0⟩ := TA.rd1 HI
  obtain ⟨A0, c0, rfl, _, _⟩ := rdB_form hr0
  clear hr0
  have HI2 := Lib.hid (ta_copy HI hne)
  obtain ⟨n0, n1, y0, y1, z0, z1⟩ := ta_nxt HI
  clear HI hne
  obtain ⟨bs, bd, l1, l2, l7, l9, l10, l11⟩ := L
  have f1 := sl_get l1
  have f2 := sl_get l2
  have f7 := sl_get l7
  have f9 := sl_get l9
  have f10 := sl_get l10
  have f11 := sl_get l11
  clear l1 l2 l7 l9 l10 l11
  replace f13 := sl_get f13
  replace f16 := sl_get f16
  have HQ := Lib.hid hQ
  clear hQ
  conv => arg 2; whnf
  go_wp2_with fail
  refine HQ.out _ _ ⟨?_, ?_, fun i hi he => ?_⟩  HI2.out
  · try simp only [put_tmps]
    simp only [Array.size_setIfInBounds, bs]
  · first | (simp only [put_defers, bd]; done) | exact bd | rfl
  · try simp only [put_tmps]
    repeat rw [sl_ne _ (by omega)]
theorem b17 (A : Act) (w : World) (Q : Exit → Act → World → Prop) (wx : World) (bz gx ga : Nat) (av v : Value) (nd : Int) (a : ActE) (L : LD A av nd v gx bz) (f13 : sl A.tmps 13 = ptrB ga) (x : Tv) (row r u : Value) (l3 ds : List Bt) (gn : Nat) (hne : ga ≠ gx) (f18 : sl A.tmps 18 = ptrB gn) (HI : TA wx ((gn, tbX x.s r) :: (B2 ga a gx x.s row)) v x bz r u l3 ds w) 
    (hQ : ∀ A' w', NearD 23 23 23 A A' → TA wx (B2 ga a gx x.s r) v x bz r u l3 ds w' → Q .normal A' w') :
    Code.wp Try.prog (bpR 17) Q A w := by
  obtain ⟨K0, hr0⟩ := TA.rd1 HI
  obtain ⟨A0, c0, rfl, _, _⟩ := rdB_form hr0
  clear hr0
  have HI2 := Lib.hid (ta_copy HI hne)
  obtain ⟨n0, n1, y0, y1, z0, z1⟩ := ta_nxt HI
  clear HI hne
  obtain ⟨bs, bd, l1, l2, l7, l9, l10, l11⟩ := L
  have f1 := sl_get l1
  have f2 := sl_get l2
  have f7 := sl_get l7
  have f9 := sl_get l9
  have f10 := sl_get l10
  have f11 := sl_get l11
  clear l1 l2 l7 l9 l10 l11
  replace f13 := sl_get f13
  replace f18 := sl_get f18
  have HQ := Lib.hid hQ
  clear hQ
  conv => arg 2; whnf
  go_wp2_with fail
  refine HQ.out _ _ ⟨?_, ?_, fun i hi he => ?_⟩  HI2.out
  · try simp only [put_tmps]
    simp only [Array.size_setIfInBounds, bs]
  · first | (simp only [put_defers, bd]; done) | exact bd | rfl
  · try simp only [put_tmps]
    repeat rw [sl_ne _ (by omega)]
theorem b23 (A : Act) (w : World) (Q : Exit → Act → World → Prop) (wx : World) (bz gx ga : Nat) (av v : Value) (nd : Int) (a : ActE) (L : LD A av nd v gx bz) (f13 : sl A.tmps 13 = ptrB ga) (x : Tv) (row u : Value) (l3 ds : List Bt) (hin : inI a.n) (f15 : sl A.tmps 15 = .int .i64 (seenB x.s x.l a.n a.m a.e).2) (HI : TA wx (B2 ga a gx x.s row) v x bz row u l3 ds w) 
    (hQ : ∀ A' w', NearD 23 23 23 A A' → sl A'.tmps 147 = .bool false → TA wx (B2 ga a gx x.s row) v ⟨x.s, (seenB x.s x.l a.n a.m a.e).1⟩ bz row u l3 ds w' → Q .normal A' w') :
    Code.wp Try.prog (bpR 23) Q A w := by
  have C1 := Lib.hid (tc_seen a.m a.e hin HI)
  have C2 := Lib.hid (fun w' (h : TA wx (B2 ga a gx x.s row) v ⟨x.s, (seenB x.s x.l a.n a.m a.e).1⟩ bz row u l3 ds w') => tc_seenN a.m a.e hin h)
  have C3 := Lib.hid (fun w' (h : TA wx (B2 ga a gx x.s row) v ⟨x.s, (seenB x.s x.l a.n a.m a.e).1⟩ bz row u l3 ds w') => tc_seenZ a.m a.e hin h)
  generalize seenB x.s x.l a.n a.m a.e = r0 at *
  have e5 : (r0.2 != r0.2) = false := by simp
  obtain ⟨g0, g1, g2, g3⟩ := ta_act HI
  clear HI hin
  obtain ⟨bs, bd, l1, l2, l7, l9, l10, l11⟩ := L
  have f1 := sl_get l1
  have f2 := sl_get l2
  have f7 := sl_get l7
  have f9 := sl_get l9
  have f10 := sl_get l10
  have f11 := sl_get l11
  clear l1 l2 l7 l9 l10 l11
  replace f13 := sl_get f13
  replace f15 := sl_get f15
  have HQ := Lib.hid hQ
  clear hQ
  conv => arg 2; whnf
  go_wp2_with fail
  refine C1.out.mono ?_; clear g0 g1 g2 g3 C1; rintro e w2 ⟨rfl, hI⟩
  obtain ⟨g0, g1, g2, g3⟩ := ta_act hI
  go_wp2_with fail
  refine (C2.out _ hI).mono ?_; clear hI g0 g1 g2 g3 C2; rintro e w3 ⟨rfl, hI⟩
  obtain ⟨g0, g1, g2, g3⟩ := ta_act hI
  go_wp2_with fail
  refine (C3.out _ hI).mono ?_; clear hI g0 g1 g2 g3 C3; rintro e w4 ⟨rfl, hI⟩
  obtain ⟨g0, g1, g2, g3⟩ := ta_act hI
  go_wp2_with fail
  have HI2 := Lib.hid hI
  clear hI
  refine HQ.out _ _ ⟨?_, ?_, fun i hi he => ?_⟩ ?_ HI2.out
  · try simp only [put_tmps]
    simp only [Array.size_setIfInBounds, bs]
  · first | (simp only [put_defers, bd]; done) | exact bd | rfl
  · try simp only [put_tmps]
    repeat rw [sl_ne _ (by omega)]
  · try simp only [put_tmps]
    repeat first | rw [sl_ne _ (by decide)] | rw [sl_eq _ (by simp only [Array.size_setIfInBounds, bs]; decide)]
    try exact sl_of (by rw [bs]; decide) (by assumption)
theorem b28 (A : Act) (w : World) (Q : Exit → Act → World → Prop) (wx : World) (bz gx ga : Nat) (av v : Value) (nd : Int) (a : ActE) (L : LD A av nd v gx bz) (f13 : sl A.tmps 13 = ptrB ga) (x : Tv) (row u : Value) (l3 ds : List Bt) (hin : inI a.n) (f17 : sl A.tmps 17 = .bool (dropB x.l a.n a.m).2) (HI : TA wx (B2 ga a gx x.s row) v x bz row u l3 ds w) 
    (hQ : ∀ A' w', NearD 23 23 23 A A' → sl A'.tmps 183 = .bool false → TA wx (B2 ga a gx x.s row) v ⟨x.s, (dropB x.l a.n a.m).1⟩ bz row u l3 ds w' → Q .normal A' w') :
    Code.wp Try.prog (bpR 28) Q A w := by
  have C1 := Lib.hid (tc_drop a.m hin HI)
  have C2 := Lib.hid (fun w' (h : TA wx (B2 ga a gx x.s row) v ⟨x.s, (dropB x.l a.n a.m).1⟩ bz row u l3 ds w') => tc_dropN a.m hin h)
  have C3 := Lib.hid (fun w' (h : TA wx (B2 ga a gx x.s row) v ⟨x.s, (dropB x.l a.n a.m).1⟩ bz row u l3 ds w') => tc_dropZ a.m hin h)
  generalize dropB x.l a.n a.m = r0 at *
  have e5 : (r0.2 != r0.2) = false := by simp
  obtain ⟨g0, g1, g2, g3⟩ := ta_act HI
  clear HI hin
  obtain ⟨bs, bd, l1, l2, l7, l9, l10, l11⟩ := L
  have f1 := sl_get l1
  have f2 := sl_get l2
  have f7 := sl_get l7
  have f9 := sl_get l9
  have f10 := sl_get l10
  have f11 := sl_get l11
  clear l1 l2 l7 l9 l10 l11
  replace f13 := sl_get f13
  replace f17 := sl_get f17
  have HQ := Lib.hid hQ
  clear hQ
  conv => arg 2; whnf
  go_wp2_with fail
  refine C1.out.mono ?_; clear g0 g1 g2 g3 C1; rintro e w2 ⟨rfl, hI⟩
  obtain ⟨g0, g1, g2, g3⟩ := ta_act hI
  go_wp2_with fail
  refine (C2.out _ hI).mono ?_; clear hI g0 g1 g2 g3 C2; rintro e w3 ⟨rfl, hI⟩
  obtain ⟨g0, g1, g2, g3⟩ := ta_act hI
  go_wp2_with fail
  refine (C3.out _ hI).mono ?_; clear hI g0 g1 g2 g3 C3; rintro e w4 ⟨rfl, hI⟩
  obtain ⟨g0, g1, g2, g3⟩ := ta_act hI
  go_wp2_with fail
  have HI2 := Lib.hid hI
  clear hI
  refine HQ.out _ _ ⟨?_, ?_, fun i hi he => ?_⟩ ?_ HI2.out
  · try simp only [put_tmps]
    simp only [Array.size_setIfInBounds, bs]
  · first | (simp only [put_defers, bd]; done) | exact bd | rfl
  · try simp only [put_tmps]
    repeat rw [sl_ne _ (by omega)]
  · try simp only [put_tmps]
    repeat first | rw [sl_ne _ (by decide)] | rw [sl_eq _ (by simp only [Array.size_setIfInBounds, bs]; decide)]
    try exact sl_of (by rw [bs]; decide) (by assumption)
def C18 (wx : World) (bs : List (Nat × Obj)) (v : Value) (x x2 : Tv) (bz : Nat) (row u : Value) (l3 ds : List Bt) : Nat → World → Prop
  | 0, w => TA wx bs v x bz row u l3 ds w
  | _ + 1, w => TA wx bs v x2 bz row u l3 ds w
def R18 (ds : List Bt) (o : Value) (p : Nat) (w : World) : Prop := p ≤ 1 → ∃ K, RdB w K o ds
def E18 (o : Value) (p : Nat) (w : World) : Prop := ∃ A c, o = .slice A 0 c
theorem c18_act {wx : World} {v : Value} {x x2 : Tv} {bz ga gx : Nat} {a : ActE} {s : Int} {row u r0 : Value} {l3 ds : List Bt} {w : World} : ∀ {p : Nat}, C18 wx (B2 ga a gx s r0) v x x2 bz row u l3 ds p w → w.cell? ⟨ga, 0, none⟩ = some (.int .i64 a.kind) ∧ w.cell? ⟨ga, 1, none⟩ = some (.int .i64 a.n) ∧ w.cell? ⟨ga, 2, none⟩ = some (.int .i64 a.m) ∧ w.cell? ⟨ga, 3, none⟩ = some (.int .i64 a.e)
  | 0, h => ta_act h
  | _ + 1, h => ta_act h
theorem b18 (A : Act) (w : World) (Q : Exit → Act → World → Prop) (wx : World) (bz gx ga : Nat) (av v : Value) (nd : Int) (a : ActE) (L : LD A av nd v gx bz) (f13 : sl A.tmps 13 = ptrB ga) (x : Tv) (row o : Value) (l3 : List Bt) (hd : (dueB 16 x.l a.e).1.length ≤ 1000) (f19 : sl A.tmps 19 = o) (HI : TA wx (B2 ga a gx x.s row) v x bz row o l3 (dueB 16 x.l a.e).1 w) 
    (hQ : ∀ A' w', NearD 23 23 23 A A' → sl A'.tmps 101 = .bool false → TA wx (B2 ga a gx x.s row) v ⟨x.s, (dueB 16 x.l a.e).2⟩ bz row o l3 (dueB 16 x.l a.e).1 w' → Q .normal A' w') :
    Code.wp Try.prog (bpR 18) Q A w := by
  have HI0 := Lib.hid HI.draws
  have U1 := Lib.hid (fun w' (h : TA wx (B2 ga a gx x.s row) v x bz row o l3 (dueB 16 x.l a.e).1 w') => tc_due a.e h)
  generalize (dueB 16 x.l a.e).1 = d1 at *
  generalize (dueB 16 x.l a.e).2 = d2 at *
  have SM := Lib.hid (fun w' o1 (h : TA wx (B2 ga a gx x.s row) v ⟨x.s, d2⟩ bz row o l3 d1 w') (hr : ∃ K, RdB w' K o1 d1) => show Calls _ _ _ _ (fun e w2 => e = _ ∧ TA wx (B2 ga a gx x.s row) v ⟨x.s, d2⟩ bz row o l3 d1 w2) from by
    obtain ⟨K1, h1⟩ := hr
    obtain ⟨K2, h2⟩ := h.rd2
    exact (bsame_any o1 o d1 K1 K2 w' (by omega) h1 h2).mono fun e w2 ⟨he, hb⟩ => ⟨he, h.below hb⟩)
  have N1 := Lib.hid (fun w' (h : TA wx (B2 ga a gx x.s row) v ⟨x.s, d2⟩ bz row o l3 d1 w') => tc_dueN a.e h)
  have Z1 := Lib.hid (fun w' (h : TA wx (B2 ga a gx x.s row) v ⟨x.s, d2⟩ bz row o l3 d1 w') => tc_dueZ a.e h)
  have HCE := Lib.hid (fun p w' (h : (C18 wx (B2 ga a gx x.s row) v x ⟨x.s, d2⟩ bz row o l3 d1) p w') => c18_act h)
  have q0 : IntKind.i64.wrap (0 : Int) = 0 := by decide
  obtain ⟨bs, bd, l1, l2, l7, l9, l10, l11⟩ := L
  have f1 := sl_get l1
  have f2 := sl_get l2
  have f7 := sl_get l7
  have f9 := sl_get l9
  have f10 := sl_get l10
  have f11 := sl_get l11
  clear l1 l2 l7 l9 l10 l11
  replace f13 := sl_get f13
  replace f19 := sl_get f19
  have HQ := Lib.hid hQ
  clear hQ
  clear HI hd
  conv => arg 2; whnf
  refine wp_region_holdP [3, 5, 11, 16] (C18 wx (B2 ga a gx x.s row) v x ⟨x.s, d2⟩ bz row o l3 d1) (by kernel_rfl) (by kernel_rfl) HI0.out ?_
  repeat
    first
    | (refine holdP_val (v := ?_) (by rfl) ?_ ?_ ?_
       rotate_left
       · first
         | (simp [Region.wanted]; done)
         | (simp [Region.wanted, yielded, Act.put, bs]; done)
       · (intro p w' hC
          obtain ⟨_, _, _, _⟩ := (by first | exact HCE.out p w' hC | exact HCE.out p w' hC.1 | exact HCE.out p w' hC.1.1 | exact HCE.out p w' hC.1.1.1 : _ ∧ _ ∧ _ ∧ _)
          clear hC
          go_simp
          try with_reducible rfl))
    | (refine holdP_valB (v := .int .i64 0) 2 11 (by rfl) (by kernel_rfl) (by rfl) ?_ ?_ ?_
       · first
         | (simp [Region.wanted]; done)
         | (simp [Region.wanted, yielded, Act.put, bs]; done)
       · (intro p w' hp hC
          obtain ⟨A1, c1, rfl⟩ := (by first | exact hC.2 hp | exact hC.1.2 hp : E18 _ p w')
          go_simp
          done))
    | (refine holdP_valB (v := .int .i64 0) 3 16 (by rfl) (by kernel_rfl) (by rfl) ?_ ?_ ?_
       · first
         | (simp [Region.wanted]; done)
         | (simp [Region.wanted, yielded, Act.put, bs]; done)
       · (intro p w' hp hC
          obtain ⟨A1, c1, rfl⟩ := (hC.2 hp : E18 _ p w')
          go_simp
          done))
    | (refine holdP_some 0 (R18 d1) rfl ?_ ?_ (fun w' hC => (U1.out w' hC).mono fun e w2 ⟨o1, he, h1, h2⟩ => ⟨o1, he, h1, fun _ => h2⟩) (fun o1 => ?_)
       · first
         | (simp [Region.wanted]; done)
         | (simp [Region.wanted, yielded, Act.put, bs]; done)
       · (intro w' hC; obtain ⟨_, _, _, _⟩ := HCE.out _ w' hC; go_simp; done))
    | (refine holdP_call 1 rfl ?_ ?_ (fun w' hC => (SM.out w' _ hC.1 (hC.2 (by omega) (by omega))).mono fun e w2 ⟨he, h1⟩ => ⟨he, h1, fun _ hp => absurd hp (by omega)⟩) ?_
       · first
         | (simp [Region.wanted]; done)
         | (simp [Region.wanted, yielded, Act.put, bs]; done)
       · (intro w' hC; go_simp; done))
    | (refine holdP_some 2 E18 rfl ?_ ?_ (fun w' hC => (N1.out w' hC.1).mono fun e w2 ⟨o1, he, h1, h2⟩ => ⟨o1, he, ⟨h1, fun _ hp => absurd hp (by omega)⟩, h2⟩) (fun o2 => ?_)
       · first
         | (simp [Region.wanted]; done)
         | (simp [Region.wanted, yielded, Act.put, bs]; done)
       · (intro w' hC; obtain ⟨_, _, _, _⟩ := HCE.out _ w' hC.1; go_simp; done))
    | (refine holdP_some 3 E18 rfl ?_ ?_ (fun w' hC => (Z1.out w' hC.1.1).mono fun e w2 ⟨o1, he, h1, h2⟩ => ⟨o1, he, ⟨⟨h1, fun _ hp => absurd hp (by omega)⟩, fun _ => hC.2 (by omega)⟩, h2⟩) (fun o3 => ?_)
       · first
         | (simp [Region.wanted]; done)
         | (simp [Region.wanted, yielded, Act.put, bs]; done)
       · (intro w' hC; obtain ⟨_, _, _, _⟩ := HCE.out _ w' hC.1.1; go_simp; done))
  refine holdP_nil (fun w3 hC => ?_)
  have HI3 := Lib.hid hC.1.1.1
  clear hC U1 SM N1 Z1 HI0 HCE
  refine HQ.out _ _ ⟨?_, ?_, fun i hi he => ?_⟩ ?_ HI3.out
  · try simp only [put_tmps]
    simp only [Array.size_setIfInBounds, bs]
  · first | (simp only [put_defers, bd]; done) | exact bd | rfl
  · try simp only [put_tmps]
    repeat rw [sl_ne _ (by omega)]
  · try simp only [put_tmps]
    repeat first | rw [sl_ne _ (by decide)] | rw [sl_eq _ (by simp only [Array.size_setIfInBounds, bs]; decide)]
    try exact sl_of (by rw [bs]; decide) (by assumption)
theorem b30 (A : Act) (w : World) (Q : Exit → Act → World → Prop) (wx : World) (bz gx ga : Nat) (av v : Value) (nd : Int) (a : ActE) (L : LD A av nd v gx bz) (f13 : sl A.tmps 13 = ptrB ga) (x : Tv) (row u : Value) (ds : List Bt) (HI : TA wx (B2 ga a gx x.s row) v x bz row u x.l ds w) (hin : inI nd) 
    (hQ : ∀ A' w' gb, NearD 23 20 22 A A' → sl A'.tmps 20 = ptrB gb → sl A'.tmps 21 = .bool (beatB x.l nd).isSome → TA wx ((gb, btX (btD (beatB x.l nd))) :: (B2 ga a gx x.s row)) v x bz row u x.l ds w' → Q .normal A' w') :
    Code.wp Try.prog (bpR 30) Q A w := by
  have C := Lib.hid (tc_get hin HI)
  unfold bt3 at C
  generalize btD (beatB x.l nd) = b at *
  generalize (beatB x.l nd).isSome = fd at *
  clear HI hin
  obtain ⟨bs, bd, l1, l2, l7, l9, l10, l11⟩ := L
  have f1 := sl_get l1
  have f2 := sl_get l2
  have f7 := sl_get l7
  have f9 := sl_get l9
  have f10 := sl_get l10
  have f11 := sl_get l11
  clear l1 l2 l7 l9 l10 l11
  replace f13 := sl_get f13
  have HQ := Lib.hid hQ
  clear hQ
  conv => arg 2; whnf
  go_wp2_with fail
  refine C.out.mono ?_; clear C; rintro e w2 ⟨rfl, hI⟩
  have HI2 := Lib.hid (hI.new (btX b))
  unfold btX at HI2
  clear hI
  go_wp2_with fail
  refine HQ.out _ _ _ ⟨?_, ?_, fun i hi he => ?_⟩ ?_ ?_ HI2.out
  · try simp only [put_tmps]
    simp only [Array.size_setIfInBounds, bs]
  · first | (simp only [put_defers, bd]; done) | exact bd | rfl
  · try simp only [put_tmps]
    repeat rw [sl_ne _ (by omega)]
  · try simp only [put_tmps]
    repeat first | rw [sl_ne _ (by decide)] | rw [sl_eq _ (by simp only [Array.size_setIfInBounds, bs]; decide)]
    try exact sl_of (by rw [bs]; decide) (by assumption)
  · try simp only [put_tmps]
    repeat first | rw [sl_ne _ (by decide)] | rw [sl_eq _ (by simp only [Array.size_setIfInBounds, bs]; decide)]
    try exact sl_of (by rw [bs]; decide) (by assumption)
theorem b31 (A : Act) (w : World) (Q : Exit → Act → World → Prop) (wx : World) (bz gx ga : Nat) (av v : Value) (nd : Int) (a : ActE) (L : LD A av nd v gx bz) (f13 : sl A.tmps 13 = ptrB ga) (x : Tv) (row u : Value) (ds : List Bt) (p : Nat × Obj) (hl : x.l.length ≤ 1000) (HI : TA wx (p :: (B2 ga a gx x.s row)) v x bz row u x.l ds w) 
    (hQ : ∀ A', NearD 23 22 23 A A' → sl A'.tmps 22 = .int .i64 (findZB x.l nd) → Q .normal A' w) :
    Code.wp Try.prog (bpR 31) Q A w := by
  have C := Lib.hid (td_find nd (by omega) HI)
  obtain ⟨y0, y1, _, _⟩ := ta_tab HI.tail
  generalize findZB x.l nd = fz at *
  clear HI
  obtain ⟨bs, bd, l1, l2, l7, l9, l10, l11⟩ := L
  have f1 := sl_get l1
  have f2 := sl_get l2
  have f7 := sl_get l7
  have f9 := sl_get l9
  have f10 := sl_get l10
  have f11 := sl_get l11
  clear l1 l2 l7 l9 l10 l11
  replace f13 := sl_get f13
  have HQ := Lib.hid hQ
  clear hQ
  conv => arg 2; whnf
  go_wp2_with fail
  refine C.out.mono ?_; clear C; rintro e w2 ⟨rfl, rfl⟩
  go_wp2_with fail
  refine HQ.out _ ⟨?_, ?_, fun i hi he => ?_⟩ ?_ 
  · try simp only [put_tmps]
    simp only [Array.size_setIfInBounds, bs]
  · first | (simp only [put_defers, bd]; done) | exact bd | rfl
  · try simp only [put_tmps]
    repeat rw [sl_ne _ (by omega)]
  · try simp only [put_tmps]
    repeat first | rw [sl_ne _ (by decide)] | rw [sl_eq _ (by simp only [Array.size_setIfInBounds, bs]; decide)]
    try exact sl_of (by rw [bs]; decide) (by assumption)
def R32 (l : List Bt) (o : Value) (p : Nat) (w : World) : Prop := p ≤ 1 → ∃ K, RdB w K o l
theorem ta_b3 {wL : World} {v : Value} {x : Tv} {bz : Nat} {row u row' : Value} {l3 ds : List Bt} {w : World} {gb : Nat} {b : Bt} {ga gx : Nat} {a : ActE} {s : Int} (h : TA wL ((gb, btX b) :: B2 ga a gx s row) v x bz row' u l3 ds w) : w.cell? ⟨gb, 0, none⟩ = some (.int .i64 b.n) ∧ w.cell? ⟨gb, 1, none⟩ = some (.int .i64 b.i) ∧ w.cell? ⟨gb, 2, none⟩ = some (.int .i64 b.u) ∧ w.cell? ⟨gx, 1, none⟩ = some row :=
  ⟨by rw [blk_cell h.get]; rfl, by rw [blk_cell h.get]; rfl, by rw [blk_cell h.get]; rfl, by rw [blk_cell h.get3]; rfl⟩
theorem b32 (A : Act) (w : World) (Q : Exit → Act → World → Prop) (wx : World) (bz gx ga : Nat) (av v : Value) (nd : Int) (a : ActE) (L : LD A av nd v gx bz) (f13 : sl A.tmps 13 = ptrB ga) (x : Tv) (row u : Value) (ds : List Bt) (gb : Nat) (hl : x.l.length ≤ 1000) (f20 : sl A.tmps 20 = ptrB gb) (f21 : sl A.tmps 21 = .bool (beatB x.l nd).isSome) (f22 : sl A.tmps 22 = .int .i64 (findZB x.l nd)) (HI : TA wx ((gb, btX (btD (beatB x.l nd))) :: (B2 ga a gx x.s row)) v x bz row u x.l ds w) 
    (hQ : ∀ A' w', NearD 23 23 23 A A' → sl A'.tmps 226 = .bool false → TA wx (B2 ga a gx x.s row) v x bz row u x.l ds w' → Q .normal A' w') :
    Code.wp Try.prog (bpR 32) Q A w := by
  have HI0 := Lib.hid HI.draws
  have AL := Lib.hid (fun w' (h : TA wx ((gb, btX (btD (beatB x.l nd))) :: (B2 ga a gx x.s row)) v x bz row u x.l ds w') => tc_all h)
  have SM := Lib.hid (fun w' o1 (h : TA wx ((gb, btX (btD (beatB x.l nd))) :: (B2 ga a gx x.s row)) v x bz row u x.l ds w') (hr : ∃ K, RdB w' K o1 x.l) => show Calls _ _ _ _ (fun e w2 => e = _ ∧ TA wx ((gb, btX (btD (beatB x.l nd))) :: (B2 ga a gx x.s row)) v x bz row u x.l ds w2) from by
    obtain ⟨K1, h1⟩ := hr
    obtain ⟨K2, h2⟩ := h.rd1
    exact (bsame_any o1 row x.l K1 K2 w' (by omega) h1 h2).mono fun e w2 ⟨he, hb⟩ => ⟨he, h.below hb⟩)
  have hun : undef = Value.tuple #[] := rfl
  rcases findB_beat x.l nd with ⟨h1, h2⟩ | ⟨k, hk, h1, _, h2⟩
  · have hz : findZB x.l nd = -1 := by unfold findZB; rw [h1]
    rw [h2] at HI0 AL SM f21
    rw [hz] at f22
    have HCE := Lib.hid (fun w' (h : TA wx ((gb, btX (btD none)) :: (B2 ga a gx x.s row)) v x bz row u x.l ds w') => ta_b3 h)
    have EQ : ∀ w : World, (Op.equalIn 10000 51 (.agg #[.int .i64 0, .int .i64 0, .int .i64 0]) (.agg #[.int .i64 0, .int .i64 0, .int .i64 0])).run Try.prog w = .ok true w := fun w => eqB_run w ⟨0, 0, 0⟩
    simp only [btD, Option.getD_none, Option.isSome_none] at HI0 AL SM HCE f21
    clear h1 h2 hz HI
    obtain ⟨bs, bd, l1, l2, l7, l9, l10, l11⟩ := L
    have f1 := sl_get l1
    have f2 := sl_get l2
    have f7 := sl_get l7
    have f9 := sl_get l9
    have f10 := sl_get l10
    have f11 := sl_get l11
    clear l1 l2 l7 l9 l10 l11
    replace f13 := sl_get f13
    replace f20 := sl_get f20
    replace f21 := sl_get f21
    replace f22 := sl_get f22
    have HQ := Lib.hid hQ
    clear hQ
    conv => arg 2; whnf
    refine wp_region_holdP [27, 30] (fun _ w' => TA wx ((gb, btX ⟨0, 0, 0⟩) :: (B2 ga a gx x.s row)) v x bz row u x.l ds w') (by kernel_rfl) (by kernel_rfl) HI0.out ?_
    repeat
      first
      | (refine holdP_val (v := ?_) (by rfl) ?_ ?_ ?_
         rotate_left
         · first
           | (simp [Region.wanted]; done)
           | (simp [Region.wanted, yielded, Act.put, bs]; done)
         · (intro p w' hC
            obtain ⟨_, _, _, _⟩ := (by first | exact HCE.out w' hC | exact HCE.out w' hC.1 : _ ∧ _ ∧ _ ∧ _)
            clear hC
            go_simp
            try with_reducible rfl))
      | (refine holdP_skip (by rfl) ?_ ?_
         · (first | (simp [Region.wanted, yielded, Act.put, bs]; done) | (simp [Region.wanted, yielded, Act.put, bs, undef]; done)))
      | (refine holdP_some 0 (R32 x.l) rfl ?_ ?_ (fun w' hC => (AL.out w' hC).mono fun e w2 ⟨o1, he, h1, h2⟩ => ⟨o1, he, h1, fun _ => h2⟩) (fun o1 => ?_)
         · first
           | (simp [Region.wanted]; done)
           | (simp [Region.wanted, yielded, Act.put, bs]; done)
         · (intro w' hC; go_simp; done))
      | (refine holdP_call 1 rfl ?_ ?_ (fun w' hC => (SM.out w' _ hC.1 (hC.2 (by omega) (by omega))).mono fun e w2 ⟨he, h1⟩ => ⟨he, h1, fun _ hp => absurd hp (by omega)⟩) ?_
         · first
           | (simp [Region.wanted]; done)
           | (simp [Region.wanted, yielded, Act.put, bs]; done)
         · (intro w' hC; go_simp; done))
    refine holdP_nil (fun w3 hC => ?_)
    have HI3 := Lib.hid (TB.tail hC.1)
    clear hC AL SM HI0 HCE
    refine HQ.out _ _ ⟨?_, ?_, fun i hi he => ?_⟩ ?_ HI3.out
    · try simp only [put_tmps]
      simp only [Array.size_setIfInBounds, bs]
    · first | (simp only [put_defers, bd]; done) | exact bd | rfl
    · try simp only [put_tmps]
      repeat rw [sl_ne _ (by omega)]
    · try simp only [put_tmps]
      repeat first | rw [sl_ne _ (by decide)] | rw [sl_eq _ (by simp only [Array.size_setIfInBounds, bs]; decide)]
      try exact sl_of (by rw [bs]; decide) (by assumption)
  · have hz : findZB x.l nd = (k : Int) := by unfold findZB; rw [h1]
    rw [h2] at HI0 AL SM f21
    rw [hz] at f22
    obtain ⟨K0, hr0⟩ := HI.rd1
    obtain ⟨A0, c0, hrow, hc0, hc1⟩ := rdB_form hr0
    rw [hrow] at hr0
    obtain ⟨b0, o0, hA0, _⟩ := rdB_at hr0 hk
    rw [hA0] at hrow
    subst hrow
    clear hr0 hA0
    have HCE := Lib.hid (fun w' (h : TA wx ((gb, btX (btD (some x.l[k]))) :: (B2 ga a gx x.s (.slice (some ⟨b0, o0, none⟩) x.l.length c0))) v x bz (.slice (some ⟨b0, o0, none⟩) x.l.length c0) u x.l ds w') => And.intro (ta_b3 h) (show w'.cell? ⟨b0, o0 + k * 3, none⟩ = some (.int .i64 x.l[k].n) ∧ w'.cell? ⟨b0, o0 + k * 3 + 1, none⟩ = some (.int .i64 x.l[k].i) ∧ w'.cell? ⟨b0, o0 + k * 3 + 2, none⟩ = some (.int .i64 x.l[k].u) from by
      obtain ⟨K3, h3⟩ := TA.rd1 h
      obtain ⟨b1, o1, e1, _, q1, q2, q3⟩ := rdB_at h3 hk
      cases e1
      exact ⟨q1, q2, q3⟩))
    have EQ : ∀ w : World, (Op.equalIn 10000 51 (.agg #[.int .i64 x.l[k].n, .int .i64 x.l[k].i, .int .i64 x.l[k].u]) (.agg #[.int .i64 x.l[k].n, .int .i64 x.l[k].i, .int .i64 x.l[k].u])).run Try.prog w = .ok true w := fun w => eqB_run w x.l[k]
    simp only [btD, Option.getD_some, Option.isSome_some] at HI0 AL SM HCE f21
    have d0 : decide ((0 : Int) ≤ (k : Int)) = true := decide_eq_true (by omega)
    have d1 : decide ((k : Int) ≥ 0) = true := decide_eq_true (by omega)
    have i0k : (0 : Int) ≤ (k : Int) := by omega
    have i1k : (k : Int) < (x.l.length : Int) := by omega
    have i2k : (x.l.length : Int) ≤ 1000 := by omega
    generalize x.l[k] = bt at *
    clear h1 h2 hz HI
    obtain ⟨bs, bd, l1, l2, l7, l9, l10, l11⟩ := L
    have f1 := sl_get l1
    have f2 := sl_get l2
    have f7 := sl_get l7
    have f9 := sl_get l9
    have f10 := sl_get l10
    have f11 := sl_get l11
    clear l1 l2 l7 l9 l10 l11
    replace f13 := sl_get f13
    replace f20 := sl_get f20
    replace f21 := sl_get f21
    replace f22 := sl_get f22
    have HQ := Lib.hid hQ
    clear hQ
    conv => arg 2; whnf
    refine wp_region_holdP [27, 30] (fun _ w' => TA wx ((gb, btX bt) :: (B2 ga a gx x.s (.slice (some ⟨b0, o0, none⟩) x.l.length c0))) v x bz (.slice (some ⟨b0, o0, none⟩) x.l.length c0) u x.l ds w') (by kernel_rfl) (by kernel_rfl) HI0.out ?_
    repeat
      first
      | (refine holdP_val (v := ?_) (by rfl) ?_ ?_ ?_
         rotate_left
         · first
           | (simp [Region.wanted]; done)
           | (simp [Region.wanted, yielded, Act.put, bs]; done)
         · (intro p w' hC
            obtain ⟨⟨_, _, _, _⟩, _, _, _⟩ := (by first | exact HCE.out w' hC | exact HCE.out w' hC.1 : (_ ∧ _ ∧ _ ∧ _) ∧ _ ∧ _ ∧ _)
            clear hC
            go_simp
            try with_reducible rfl))
      | (refine holdP_skip (by rfl) ?_ ?_
         · (first | (simp [Region.wanted, yielded, Act.put, bs]; done) | (simp [Region.wanted, yielded, Act.put, bs, undef]; done)))
      | (refine holdP_some 0 (R32 x.l) rfl ?_ ?_ (fun w' hC => (AL.out w' hC).mono fun e w2 ⟨o1, he, h1, h2⟩ => ⟨o1, he, h1, fun _ => h2⟩) (fun o1 => ?_)
         · first
           | (simp [Region.wanted]; done)
           | (simp [Region.wanted, yielded, Act.put, bs]; done)
         · (intro w' hC; go_simp; done))
      | (refine holdP_call 1 rfl ?_ ?_ (fun w' hC => (SM.out w' _ hC.1 (hC.2 (by omega) (by omega))).mono fun e w2 ⟨he, h1⟩ => ⟨he, h1, fun _ hp => absurd hp (by omega)⟩) ?_
         · first
           | (simp [Region.wanted]; done)
           | (simp [Region.wanted, yielded, Act.put, bs]; done)
         · (intro w' hC; go_simp; done))
    refine holdP_nil (fun w3 hC => ?_)
    have HI3 := Lib.hid (TB.tail hC.1)
    clear hC AL SM HI0 HCE
    refine HQ.out _ _ ⟨?_, ?_, fun i hi he => ?_⟩ ?_ HI3.out
    · try simp only [put_tmps]
      simp only [Array.size_setIfInBounds, bs]
    · first | (simp only [put_defers, bd]; done) | exact bd | rfl
    · try simp only [put_tmps]
      repeat rw [sl_ne _ (by omega)]
    · try simp only [put_tmps]
      repeat first | rw [sl_ne _ (by decide)] | rw [sl_eq _ (by simp only [Array.size_setIfInBounds, bs]; decide)]
      try exact sl_of (by rw [bs]; decide) (by assumption)
end Go.Proofs.Ytdlkpkigpnlanaa
