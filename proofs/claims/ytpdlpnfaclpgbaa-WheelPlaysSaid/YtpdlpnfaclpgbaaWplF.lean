/- The regions of WheelPlays, a lemma each, the frame a variable. Conditions: as stated. -/
import Derived.Test.YtpdlpnfaclpgbaaWplA
namespace Go.Proofs.Ytpdlpnfaclpgbaa
open Go.ChangeShapes Go.WideShapes Go.ChangeAt Go.RowKit
set_option linter.unusedVariables false
set_option maxRecDepth 100000
set_option linter.unusedSimpArgs false
set_option maxHeartbeats 4000000

theorem p17 (A : Act) (w : World) (Q : Exit → Act → World → Prop) (wx : World) (bh bz g : Nat) (G : Nat → Prop) (id : Int) (av : Value) (act : ActD) (L : LD A av id (ptrB bh) (ptrB bz)) (row : Value) (l : List Tm) (hl : l.length ≤ 1000) (hok : act.ok) (f9 : sl A.tmps 9 = ptrB g) (f11 : sl A.tmps 11 = .bool (mayW act.m)) (HI : TI wx G g act (ptrB bh) l (ptrB bz) l row l w) 
    (hQ : ∀ A' w', NearD 24 24 24 A A' → sl A'.tmps 98 = .bool false → TI wx G g act (ptrB bh) (setW l ⟨act.n, act.m⟩) (ptrB bz) (setW l ⟨act.n, act.m⟩) row l w' → Q .normal A' w') :
    Code.wp Try.prog (wpR 17) Q A w := by
  obtain ⟨y0, y1, y2⟩ := HI.cells
  have CH := Lib.hid (ti_seth hok.1 hok.2 (by omega) HI)
  have CZ := Lib.hid (fun w2 l1 (h : TI wx G g act (ptrB bh) l1 (ptrB bz) l row l w2) => ti_setz hok.1 hok.2 (by omega) h)
  generalize mayW act.m = mw at *
  obtain ⟨bs, bd, l0, l1, l5, l6⟩ := L
  have f0 := sl_get l0
  have f1 := sl_get l1
  have f5 := sl_get l5
  have f6 := sl_get l6
  clear l0 l1 l5 l6
  replace f9 := sl_get f9
  replace f11 := sl_get f11
  have HQ := Lib.hid hQ
  clear hQ
  clear HI
  conv => arg 2; whnf
  cases mw
  all_goals
    go_wp2_with fail
    refine CH.out.mono ?_; rintro e w2 ⟨rfl, hI2⟩
    have C2 := Lib.hid (CZ.out _ _ hI2)
    obtain ⟨y0, y1, y2⟩ := hI2.cells
    clear hI2 CH CZ
    go_wp2_with fail
    refine C2.out.mono ?_; rintro e w3 ⟨rfl, hI3⟩
    have HI3 := Lib.hid hI3
    clear hI3 C2 y0 y1 y2
    go_wp2_with fail
    refine HQ.out _ _ ⟨?_, ?_, fun i hi he => ?_⟩ ?_ HI3.out
    · try simp only [put_tmps]
      simp only [Array.size_setIfInBounds, bs]
    · first | (simp only [put_defers, bd]; done) | exact bd | rfl
    · try simp only [put_tmps]
      repeat rw [sl_ne _ (by omega)]
    · try simp only [put_tmps]
      repeat first | rw [sl_ne _ (by decide)] | rw [sl_eq _ (by simp only [Array.size_setIfInBounds, bs]; decide)]
theorem p19 (A : Act) (w : World) (Q : Exit → Act → World → Prop) (wx : World) (bh bz g : Nat) (G : Nat → Prop) (id : Int) (av : Value) (act : ActD) (L : LD A av id (ptrB bh) (ptrB bz)) (row : Value) (l l1 : List Tm) (hl : l.length ≤ 1000) (f7 : sl A.tmps 7 = row) (f9 : sl A.tmps 9 = ptrB g) (HI : TI wx G g act (ptrB bh) l1 (ptrB bz) l1 row l w) 
    (hQ : ∀ A' w' row', NearD 24 7 8 A A' → sl A'.tmps 7 = row' → TI wx G g act (ptrB bh) l1 (ptrB bz) l1 row' (setW l ⟨act.n, act.m⟩) w' → Q .normal A' w') :
    Code.wp Try.prog (wpR 19) Q A w := by
  obtain ⟨y0, y1, y2⟩ := HI.cells
  have CT := Lib.hid (ti_tset act.n act.m (by omega) HI)
  obtain ⟨bs, bd, l0, l1, l5, l6⟩ := L
  have f0 := sl_get l0
  have f1 := sl_get l1
  have f5 := sl_get l5
  have f6 := sl_get l6
  clear l0 l1 l5 l6
  replace f7 := sl_get f7
  replace f9 := sl_get f9
  have HQ := Lib.hid hQ
  clear hQ
  clear HI
  conv => arg 2; whnf
  go_wp2_with fail
  refine CT.out.mono ?_; rintro e w2 ⟨v2, rfl, hI2⟩
  have HI2 := Lib.hid hI2
  clear CT hI2
  go_wp2_with fail
  refine HQ.out _ _ v2 ⟨?_, ?_, fun i hi he => ?_⟩ ?_ HI2.out
  · try simp only [put_tmps]
    simp only [Array.size_setIfInBounds, bs]
  · first | (simp only [put_defers, bd]; done) | exact bd | rfl
  · try simp only [put_tmps]
    repeat rw [sl_ne _ (by omega)]
  · try simp only [put_tmps]
    repeat first | rw [sl_ne _ (by decide)] | rw [sl_eq _ (by simp only [Array.size_setIfInBounds, bs]; decide)]
theorem p23 (A : Act) (w : World) (Q : Exit → Act → World → Prop) (wx : World) (bh bz g : Nat) (G : Nat → Prop) (id : Int) (av : Value) (act : ActD) (L : LD A av id (ptrB bh) (ptrB bz)) (row : Value) (l l1 : List Tm) (hl : l.length ≤ 1000) (f7 : sl A.tmps 7 = row) (f9 : sl A.tmps 9 = ptrB g) (HI : TI wx G g act (ptrB bh) l1 (ptrB bz) l1 row l w) 
    (hQ : ∀ A' w' row', NearD 24 7 8 A A' → sl A'.tmps 7 = row' → TI wx G g act (ptrB bh) l1 (ptrB bz) l1 row' (dropW l act.n) w' → Q .normal A' w') :
    Code.wp Try.prog (wpR 23) Q A w := by
  obtain ⟨y0, y1, y2⟩ := HI.cells
  have CT := Lib.hid (ti_tdrop act.n (by omega) HI)
  obtain ⟨bs, bd, l0, l1, l5, l6⟩ := L
  have f0 := sl_get l0
  have f1 := sl_get l1
  have f5 := sl_get l5
  have f6 := sl_get l6
  clear l0 l1 l5 l6
  replace f7 := sl_get f7
  replace f9 := sl_get f9
  have HQ := Lib.hid hQ
  clear hQ
  clear HI
  conv => arg 2; whnf
  go_wp2_with fail
  refine CT.out.mono ?_; rintro e w2 ⟨v2, rfl, hI2⟩
  have HI2 := Lib.hid hI2
  clear CT hI2
  go_wp2_with fail
  refine HQ.out _ _ v2 ⟨?_, ?_, fun i hi he => ?_⟩ ?_ HI2.out
  · try simp only [put_tmps]
    simp only [Array.size_setIfInBounds, bs]
  · first | (simp only [put_defers, bd]; done) | exact bd | rfl
  · try simp only [put_tmps]
    repeat rw [sl_ne _ (by omega)]
  · try simp only [put_tmps]
    repeat first | rw [sl_ne _ (by decide)] | rw [sl_eq _ (by simp only [Array.size_setIfInBounds, bs]; decide)]
theorem p21 (A : Act) (w : World) (Q : Exit → Act → World → Prop) (wx : World) (bh bz g : Nat) (G : Nat → Prop) (id : Int) (av : Value) (act : ActD) (L : LD A av id (ptrB bh) (ptrB bz)) (row : Value) (l : List Tm) (hl : l.length ≤ 1000) (hok : act.ok) (f9 : sl A.tmps 9 = ptrB g) (f10 : sl A.tmps 10 = .int .i64 (findZ l act.n)) (HI : TI wx G g act (ptrB bh) l (ptrB bz) l row l w) 
    (hQ : ∀ A' w', NearD 24 24 24 A A' → sl A'.tmps 123 = .bool false → TI wx G g act (ptrB bh) (dropW l act.n) (ptrB bz) (dropW l act.n) row l w' → Q .normal A' w') :
    Code.wp Try.prog (wpR 21) Q A w := by
  obtain ⟨y0, y1, y2⟩ := HI.cells
  have CH := Lib.hid (ti_droph hok.1 HI)
  have CZ := Lib.hid (fun w2 l1 (h : TI wx G g act (ptrB bh) l1 (ptrB bz) l row l w2) => ti_dropz hok.1 h)
  have HF := find_has l act.n
  generalize (tickW l act.n).isSome = ts at *
  generalize findZ l act.n = fz at *
  obtain ⟨bs, bd, l0, l1, l5, l6⟩ := L
  have f0 := sl_get l0
  have f1 := sl_get l1
  have f5 := sl_get l5
  have f6 := sl_get l6
  clear l0 l1 l5 l6
  replace f9 := sl_get f9
  replace f10 := sl_get f10
  have HQ := Lib.hid hQ
  clear hQ
  clear HI
  conv => arg 2; whnf
  cases ts
  all_goals
    go_wp2_with fail
    refine CH.out.mono ?_; rintro e w2 ⟨rfl, hI2⟩
    have C2 := Lib.hid (CZ.out _ _ hI2)
    obtain ⟨y0, y1, y2⟩ := hI2.cells
    clear hI2 CH CZ
    go_wp2_with fail
    refine C2.out.mono ?_; rintro e w3 ⟨rfl, hI3⟩
    have HI3 := Lib.hid hI3
    clear hI3 C2 y0 y1 y2
    go_wp2_with fail
    refine HQ.out _ _ ⟨?_, ?_, fun i hi he => ?_⟩ ?_ HI3.out
    · try simp only [put_tmps]
      simp only [Array.size_setIfInBounds, bs]
    · first | (simp only [put_defers, bd]; done) | exact bd | rfl
    · try simp only [put_tmps]
      repeat rw [sl_ne _ (by omega)]
    · try simp only [put_tmps]
      repeat first | rw [sl_ne _ (by decide)] | rw [sl_eq _ (by simp only [Array.size_setIfInBounds, bs]; decide)]
end Go.Proofs.Ytpdlpnfaclpgbaa
