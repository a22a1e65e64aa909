/- The regions of WheelPlays, a lemma each, the frame a variable. Conditions: as stated. -/
import Derived.Test.YtpdlpnfaclpgbaaWplA
namespace Go.Proofs.Ytpdlpnfaclpgbaa
open Go.ChangeShapes Go.WideShapes Go.ChangeAt Go.RowKit
set_option linter.unusedVariables false
set_option maxRecDepth 100000
set_option linter.unusedSimpArgs false
set_option maxHeartbeats 4000000

theorem p11 (A : Act) (w : World) (Q : Exit → Act → World → Prop) (wx : World) (bh bz g : Nat) (G : Nat → Prop) (id : Int) (av : Value) (act : ActD) (L : LD A av id (ptrB bh) (ptrB bz)) (row : Value) (l : List Tm) (hl : l.length ≤ 1000) (f7 : sl A.tmps 7 = row) (f9 : sl A.tmps 9 = ptrB g) (HI : TI wx G g act (ptrB bh) l (ptrB bz) l row l w) 
    (hQ : ∀ A' w' u r G', NearD 24 12 14 A A' → sl A'.tmps 12 = u → sl A'.tmps 13 = r → TD wx G' g act (ptrB bh) l (ptrB bz) l r (leftW l act.m) u (dueW l act.m) w' → Q .normal A' w') :
    Code.wp Try.prog (wpR 11) Q A w := by
  obtain ⟨y0, y1, y2⟩ := HI.cells
  have CT := Lib.hid (ti_tdue act.m (by omega) HI)
  obtain ⟨bs, bd, l0, l1, l5, l6⟩ := L
  have f0 := sl_get l0
  have f1 := sl_get l1
  have f5 := sl_get l5
  have f6 := sl_get l6
  clear l0 l1 l5 l6
  replace f7 := sl_get f7
  replace f9 := sl_get f9
  have HQ := Lib.hid hQ
  clear hQ
  clear HI
  conv => arg 2; whnf
  go_wp2_with fail
  refine CT.out.mono ?_; rintro e w2 ⟨u2, r2, rfl, G2, hI2⟩
  have HI2 := Lib.hid hI2
  clear CT hI2
  go_wp2_with fail
  refine HQ.out _ _ u2 r2 G2 ⟨?_, ?_, fun i hi he => ?_⟩ ?_ ?_ HI2.out
  · try simp only [put_tmps]
    simp only [Array.size_setIfInBounds, bs]
  · first | (simp only [put_defers, bd]; done) | exact bd | rfl
  · try simp only [put_tmps]
    repeat rw [sl_ne _ (by omega)]
  · try simp only [put_tmps]
    repeat first | rw [sl_ne _ (by decide)] | rw [sl_eq _ (by simp only [Array.size_setIfInBounds, bs]; decide)]
  · try simp only [put_tmps]
    repeat first | rw [sl_ne _ (by decide)] | rw [sl_eq _ (by simp only [Array.size_setIfInBounds, bs]; decide)]
theorem p12 (A : Act) (w : World) (Q : Exit → Act → World → Prop) (wx : World) (bh bz g : Nat) (G : Nat → Prop) (id : Int) (av : Value) (act : ActD) (L : LD A av id (ptrB bh) (ptrB bz)) (r u : Value) (l l3 : List Tm) (hl : l.length ≤ 1000) (f9 : sl A.tmps 9 = ptrB g) (f12 : sl A.tmps 12 = u) (HD : TD wx G g act (ptrB bh) l (ptrB bz) l r l3 u (dueW l act.m) w)
    (hQ : ∀ A' w', NearD 24 24 24 A A' → sl A'.tmps 69 = .bool false → TI wx G g act (ptrB bh) (leftW l act.m) (ptrB bz) (leftW l act.m) r l3 w' → Q .normal A' w') :
    Code.wp Try.prog (wpR 12) Q A w := by
  have hlu : (dueW l act.m).length ≤ 1000 := by have := dueW_len l act.m; have := dueN_le l act.m; omega
  obtain ⟨y0, y1, y2⟩ := HD.1.cells
  have CH := Lib.hid (td_dueh act.m (by omega) HD)
  have CZ := Lib.hid (fun w2 (h : TD wx G g act (ptrB bh) (leftW l act.m) (ptrB bz) l r l3 u (dueW l act.m) w2) => td_duez act.m (by omega) h)
  have S1 := Lib.hid (fun v K (w2 : World) l1 l2 (hr : RdI w2 K v (dueW l act.m)) (h : TD wx G g act (ptrB bh) l1 (ptrB bz) l2 r l3 u (dueW l act.m) w2) => td_same (by omega) hr h)
  obtain ⟨bs, bd, l0, l1, l5, l6⟩ := L
  have f0 := sl_get l0
  have f1 := sl_get l1
  have f5 := sl_get l5
  have f6 := sl_get l6
  clear l0 l1 l5 l6
  replace f9 := sl_get f9
  replace f12 := sl_get f12
  have HQ := Lib.hid hQ
  clear hQ
  clear HD
  conv => arg 2; whnf
  go_wp2_with fail
  refine CH.out.mono ?_; rintro e w2 ⟨u2, rfl, hr2, hI2⟩
  have S2 := Lib.hid (S1.out _ _ _ _ _ hr2 hI2)
  clear hr2 hI2 CH
  go_wp2_with fail
  refine S2.out.mono ?_; rintro e w3 ⟨rfl, hI3⟩
  have C3 := Lib.hid (CZ.out _ hI3)
  obtain ⟨y0, y1, y2⟩ := hI3.1.cells
  clear hI3 S2 CZ
  go_wp2_with fail
  refine C3.out.mono ?_; rintro e w4 ⟨u4, rfl, hr4, hI4⟩
  have S4 := Lib.hid (S1.out _ _ _ _ _ hr4 hI4)
  clear hr4 hI4 C3 S1 y0 y1 y2
  go_wp2_with fail
  refine S4.out.mono ?_; rintro e w5 ⟨rfl, hI5⟩
  have HI5 := Lib.hid hI5.1
  clear hI5 S4
  go_wp2_with fail
  refine HQ.out _ _ ⟨?_, ?_, fun i hi he => ?_⟩ ?_ HI5.out
  · try simp only [put_tmps]
    simp only [Array.size_setIfInBounds, bs]
  · first | (simp only [put_defers, bd]; done) | exact bd | rfl
  · try simp only [put_tmps]
    repeat rw [sl_ne _ (by omega)]
  · try simp only [put_tmps]
    repeat first | rw [sl_ne _ (by decide)] | rw [sl_eq _ (by simp only [Array.size_setIfInBounds, bs]; decide)]
theorem p24 (A : Act) (w : World) (Q : Exit → Act → World → Prop) (wx : World) (bh bz g : Nat) (G : Nat → Prop) (id : Int) (av : Value) (act : ActD) (L : LD A av id (ptrB bh) (ptrB bz)) (row : Value) (l : List Tm) (hid : inI id) (HI : TI wx G g act (ptrB bh) l (ptrB bz) l row l w) 
    (hQ : ∀ A' w', NearD 24 14 16 A A' → sl A'.tmps 14 = .int .i64 ((tickW l id).getD 0) → sl A'.tmps 15 = .bool (tickW l id).isSome → TI wx G g act (ptrB bh) l (ptrB bz) l row l w' → Q .normal A' w') :
    Code.wp Try.prog (wpR 24) Q A w := by
  have CT := Lib.hid (ti_at hid HI)
  generalize (tickW l id).isSome = tq at *
  generalize (tickW l id).getD 0 = tv at *
  obtain ⟨bs, bd, l0, l1, l5, l6⟩ := L
  have f0 := sl_get l0
  have f1 := sl_get l1
  have f5 := sl_get l5
  have f6 := sl_get l6
  clear l0 l1 l5 l6
  have HQ := Lib.hid hQ
  clear hQ
  clear HI
  conv => arg 2; whnf
  go_wp2_with fail
  refine CT.out.mono ?_; rintro e w2 ⟨rfl, hI2⟩
  have HI2 := Lib.hid hI2
  clear CT hI2
  go_wp2_with fail
  refine HQ.out _ _ ⟨?_, ?_, fun i hi he => ?_⟩ ?_ ?_ HI2.out
  · try simp only [put_tmps]
    simp only [Array.size_setIfInBounds, bs]
  · first | (simp only [put_defers, bd]; done) | exact bd | rfl
  · try simp only [put_tmps]
    repeat rw [sl_ne _ (by omega)]
  · try simp only [put_tmps]
    repeat first | rw [sl_ne _ (by decide)] | rw [sl_eq _ (by simp only [Array.size_setIfInBounds, bs]; decide)]
  · try simp only [put_tmps]
    repeat first | rw [sl_ne _ (by decide)] | rw [sl_eq _ (by simp only [Array.size_setIfInBounds, bs]; decide)]
theorem p25 (A : Act) (w : World) (Q : Exit → Act → World → Prop) (wx : World) (bh bz g : Nat) (G : Nat → Prop) (id : Int) (av : Value) (act : ActD) (L : LD A av id (ptrB bh) (ptrB bz)) (row : Value) (l : List Tm) (hl : l.length ≤ 1000) (f7 : sl A.tmps 7 = row) (HI : TI wx G g act (ptrB bh) l (ptrB bz) l row l w) 
    (hQ : ∀ A', NearD 24 16 17 A A' → sl A'.tmps 16 = .int .i64 (findZ l id) → Q .normal A' w) :
    Code.wp Try.prog (wpR 25) Q A w := by
  have CT := Lib.hid (ti_find id (by omega) HI)
  generalize findZ l id = fz at *
  obtain ⟨bs, bd, l0, l1, l5, l6⟩ := L
  have f0 := sl_get l0
  have f1 := sl_get l1
  have f5 := sl_get l5
  have f6 := sl_get l6
  clear l0 l1 l5 l6
  replace f7 := sl_get f7
  have HQ := Lib.hid hQ
  clear hQ
  clear HI
  conv => arg 2; whnf
  go_wp2_with fail
  refine CT.out.mono ?_; rintro e w2 ⟨rfl, rfl⟩
  clear CT
  go_wp2_with fail
  refine HQ.out _ ⟨?_, ?_, fun i hi he => ?_⟩ ?_ 
  · try simp only [put_tmps]
    simp only [Array.size_setIfInBounds, bs]
  · first | (simp only [put_defers, bd]; done) | exact bd | rfl
  · try simp only [put_tmps]
    repeat rw [sl_ne _ (by omega)]
  · try simp only [put_tmps]
    repeat first | rw [sl_ne _ (by decide)] | rw [sl_eq _ (by simp only [Array.size_setIfInBounds, bs]; decide)]
theorem p26 (A : Act) (w : World) (Q : Exit → Act → World → Prop) (wx : World) (bh bz g : Nat) (G : Nat → Prop) (id : Int) (av : Value) (act : ActD) (L : LD A av id (ptrB bh) (ptrB bz)) (row : Value) (l : List Tm) (HI : TI wx G g act (ptrB bh) l (ptrB bz) l row l w) 
    (hQ : ∀ A' w', NearD 24 17 19 A A' → sl A'.tmps 17 = .int .i64 (nextW l) → sl A'.tmps 18 = .bool (!l.isEmpty) → TI wx G g act (ptrB bh) l (ptrB bz) l row l w' → Q .normal A' w') :
    Code.wp Try.prog (wpR 26) Q A w := by
  have CT := Lib.hid (ti_next HI)
  generalize (!l.isEmpty) = tq at *
  generalize nextW l = tv at *
  obtain ⟨bs, bd, l0, l1, l5, l6⟩ := L
  have f0 := sl_get l0
  have f1 := sl_get l1
  have f5 := sl_get l5
  have f6 := sl_get l6
  clear l0 l1 l5 l6
  have HQ := Lib.hid hQ
  clear hQ
  clear HI
  conv => arg 2; whnf
  go_wp2_with fail
  refine CT.out.mono ?_; rintro e w2 ⟨rfl, hI2⟩
  have HI2 := Lib.hid hI2
  clear CT hI2
  go_wp2_with fail
  refine HQ.out _ _ ⟨?_, ?_, fun i hi he => ?_⟩ ?_ ?_ HI2.out
  · try simp only [put_tmps]
    simp only [Array.size_setIfInBounds, bs]
  · first | (simp only [put_defers, bd]; done) | exact bd | rfl
  · try simp only [put_tmps]
    repeat rw [sl_ne _ (by omega)]
  · try simp only [put_tmps]
    repeat first | rw [sl_ne _ (by decide)] | rw [sl_eq _ (by simp only [Array.size_setIfInBounds, bs]; decide)]
  · try simp only [put_tmps]
    repeat first | rw [sl_ne _ (by decide)] | rw [sl_eq _ (by simp only [Array.size_setIfInBounds, bs]; decide)]
end Go.Proofs.Ytpdlpnfaclpgbaa
