/- The regions of WheelPlays, a lemma each, the frame a variable. Conditions: as stated. -/
import Derived.Test.YtpdlpnfaclpgbaaWplA
namespace Go.Proofs.Ytpdlpnfaclpgbaa
open Go.ChangeShapes Go.WideShapes Go.ChangeAt Go.RowKit
set_option linter.unusedVariables false
set_option maxRecDepth 100000
set_option linter.unusedSimpArgs false
set_option maxHeartbeats 4000000

theorem p6t (A : Act) (w : World) (Q : Exit → Act → World → Prop) (k n cap : Nat) (a0 : Option Addr) (id : Int) (vh vz : Value) (hd : decide (k < n) = true) (L : LD A (.slice a0 n cap) id vh vz) (f8 : sl A.tmps 8 = .int .i64 k)
    (hQ : ∀ A', NearD 24 24 24 A A' → sl A'.tmps 34 = .bool true → Q .normal A' w) :
    Code.wp Try.prog (wpR 6) Q A w := by
  have hd2 : decide ((k : Int) < (n : Int)) = true := by rw [← hd]; exact decide_eq_decide.2 (by omega)
  obtain ⟨bs, bd, l0, l1, l5, l6⟩ := L
  have f0 := sl_get l0
  have f1 := sl_get l1
  have f5 := sl_get l5
  have f6 := sl_get l6
  clear l0 l1 l5 l6
  replace f8 := sl_get f8
  have HQ := Lib.hid hQ
  clear hQ
  conv => arg 2; whnf
  go_wp2_with fail
  refine HQ.out _ ⟨?_, ?_, fun i hi he => ?_⟩ ?_ 
  · try simp only [put_tmps]
    simp only [Array.size_setIfInBounds, bs]
  · first | (simp only [put_defers, bd]; done) | exact bd | rfl
  · try simp only [put_tmps]
    repeat rw [sl_ne _ (by omega)]
  · try simp only [put_tmps]
    repeat first | rw [sl_ne _ (by decide)] | rw [sl_eq _ (by simp only [Array.size_setIfInBounds, bs]; decide)]
theorem p6f (A : Act) (w : World) (Q : Exit → Act → World → Prop) (k n cap : Nat) (a0 : Option Addr) (id : Int) (vh vz : Value) (hd : decide (k < n) = false) (L : LD A (.slice a0 n cap) id vh vz) (f8 : sl A.tmps 8 = .int .i64 k)
    (hQ : ∀ A', NearD 24 24 24 A A' → sl A'.tmps 34 = .bool false → Q .normal A' w) :
    Code.wp Try.prog (wpR 6) Q A w := by
  have hd2 : decide ((k : Int) < (n : Int)) = false := by rw [← hd]; exact decide_eq_decide.2 (by omega)
  obtain ⟨bs, bd, l0, l1, l5, l6⟩ := L
  have f0 := sl_get l0
  have f1 := sl_get l1
  have f5 := sl_get l5
  have f6 := sl_get l6
  clear l0 l1 l5 l6
  replace f8 := sl_get f8
  have HQ := Lib.hid hQ
  clear hQ
  conv => arg 2; whnf
  go_wp2_with fail
  refine HQ.out _ ⟨?_, ?_, fun i hi he => ?_⟩ ?_ 
  · try simp only [put_tmps]
    simp only [Array.size_setIfInBounds, bs]
  · first | (simp only [put_defers, bd]; done) | exact bd | rfl
  · try simp only [put_tmps]
    repeat rw [sl_ne _ (by omega)]
  · try simp only [put_tmps]
    repeat first | rw [sl_ne _ (by decide)] | rw [sl_eq _ (by simp only [Array.size_setIfInBounds, bs]; decide)]
theorem p7 (A : Act) (w : World) (Q : Exit → Act → World → Prop) (k : Nat) (hk : k ≤ 200) (bs : A.tmps.size = 248) (bd : A.defers = []) (f8 : sl A.tmps 8 = .int .i64 k)
    (hQ : ∀ A', NearD 24 8 9 A A' → sl A'.tmps 8 = .int .i64 ((k : Int) + 1) → Q .normal A' w) :
    Code.wp Try.prog (wpR 7) Q A w := by
  have q3 : IntKind.i64.wrap ((k : Int) + 1) = (k : Int) + 1 := IntWalk.i64_in _ (by omega)
  replace f8 := sl_get f8
  have HQ := Lib.hid hQ
  clear hQ
  conv => arg 2; whnf
  go_wp2_with fail
  refine HQ.out _ ⟨?_, ?_, fun i hi he => ?_⟩ ?_ 
  · try simp only [put_tmps]
    simp only [Array.size_setIfInBounds, bs]
  · first | (simp only [put_defers, bd]; done) | exact bd | rfl
  · try simp only [put_tmps]
    repeat rw [sl_ne _ (by omega)]
  · try simp only [put_tmps]
    repeat first | rw [sl_ne _ (by decide)] | rw [sl_eq _ (by simp only [Array.size_setIfInBounds, bs]; decide)]
theorem p8 (A : Act) (w : World) (Q : Exit → Act → World → Prop) (wx : World) (k n cap ba oa bh bz : Nat) (id : Int) (act : ActD) (row : Value) (l : List Tm) (hlt : k < n) (hn : n ≤ 100) (HC : ∀ w', Below wx.heap.size wx w' → ActC ba (oa + k * 3) act w')
    (L : LD A (.slice (some ⟨ba, oa, none⟩) n cap) id (ptrB bh) (ptrB bz)) (f8 : sl A.tmps 8 = .int .i64 k) (HI : Two0 wx (ptrB bh) l (ptrB bz) l row l w)
    (hQ : ∀ A' w', NearD 24 9 10 A A' → sl A'.tmps 9 = ptrB w.heap.size → TI wx (fun k => k = w.heap.size) w.heap.size act (ptrB bh) l (ptrB bz) l row l w' → Q .normal A' w') :
    Code.wp Try.prog (wpR 8) Q A w := by
  obtain ⟨j0, j1, j2⟩ := HC w HI.bel
  have HS := Lib.hid (show actB (w.alloc (.cells #[.int .i64 act.kind, .int .i64 act.n, .int .i64 act.m] 32)) w.heap.size act from blk_new w _)
  have HT := Lib.hid (ti_start HI ((Below.refl _ w).alloc (Nat.le_refl _) _) HS.out)
  have i0k : (0 : Int) ≤ (k : Int) := by omega
  have i1k : (k : Int) < (n : Int) := by omega
  have i2k : (n : Int) ≤ 100 := by omega
  obtain ⟨bs, bd, l0, l1, l5, l6⟩ := L
  have f0 := sl_get l0
  have f1 := sl_get l1
  have f5 := sl_get l5
  have f6 := sl_get l6
  clear l0 l1 l5 l6
  replace f8 := sl_get f8
  have HQ := Lib.hid hQ
  clear hQ
  clear HI HC HS
  conv => arg 2; whnf
  go_wp2_with fail
  refine HQ.out _ _ ⟨?_, ?_, fun i hi he => ?_⟩ ?_ HT.out
  · try simp only [put_tmps]
    simp only [Array.size_setIfInBounds, bs]
  · first | (simp only [put_defers, bd]; done) | exact bd | rfl
  · try simp only [put_tmps]
    repeat rw [sl_ne _ (by omega)]
  · try simp only [put_tmps]
    repeat first | rw [sl_ne _ (by decide)] | rw [sl_eq _ (by simp only [Array.size_setIfInBounds, bs]; decide)]
theorem p9 (A : Act) (w : World) (Q : Exit → Act → World → Prop) (wx : World) (bh bz g : Nat) (G : Nat → Prop) (id : Int) (av : Value) (act : ActD) (L : LD A av id (ptrB bh) (ptrB bz)) (row : Value) (l : List Tm) (hl : l.length ≤ 1000) (f7 : sl A.tmps 7 = row) (f9 : sl A.tmps 9 = ptrB g) (HI : TI wx G g act (ptrB bh) l (ptrB bz) l row l w) 
    (hQ : ∀ A', NearD 24 10 11 A A' → sl A'.tmps 10 = .int .i64 (findZ l act.n) → Q .normal A' w) :
    Code.wp Try.prog (wpR 9) Q A w := by
  obtain ⟨y0, y1, y2⟩ := HI.cells
  have CT := Lib.hid (ti_find act.n (by omega) HI)
  generalize findZ l act.n = fz at *
  obtain ⟨bs, bd, l0, l1, l5, l6⟩ := L
  have f0 := sl_get l0
  have f1 := sl_get l1
  have f5 := sl_get l5
  have f6 := sl_get l6
  clear l0 l1 l5 l6
  replace f7 := sl_get f7
  replace f9 := sl_get f9
  have HQ := Lib.hid hQ
  clear hQ
  clear HI
  conv => arg 2; whnf
  go_wp2_with fail
  refine CT.out.mono ?_; rintro e w2 ⟨rfl, rfl⟩
  clear CT
  go_wp2_with fail
  refine HQ.out _ ⟨?_, ?_, fun i hi he => ?_⟩ ?_ 
  · try simp only [put_tmps]
    simp only [Array.size_setIfInBounds, bs]
  · first | (simp only [put_defers, bd]; done) | exact bd | rfl
  · try simp only [put_tmps]
    repeat rw [sl_ne _ (by omega)]
  · try simp only [put_tmps]
    repeat first | rw [sl_ne _ (by decide)] | rw [sl_eq _ (by simp only [Array.size_setIfInBounds, bs]; decide)]
theorem p10 (A : Act) (w : World) (Q : Exit → Act → World → Prop) (wx : World) (bh bz g : Nat) (G : Nat → Prop) (id : Int) (av : Value) (act : ActD) (L : LD A av id (ptrB bh) (ptrB bz)) (row : Value) (l : List Tm) (f9 : sl A.tmps 9 = ptrB g) (HI : TI wx G g act (ptrB bh) l (ptrB bz) l row l w) 
    (hQ : ∀ A', NearD 24 24 24 A A' → sl A'.tmps 46 = .int .i64 act.kind → Q .normal A' w) :
    Code.wp Try.prog (wpR 10) Q A w := by
  obtain ⟨y0, y1, y2⟩ := HI.cells
  obtain ⟨bs, bd, l0, l1, l5, l6⟩ := L
  have f0 := sl_get l0
  have f1 := sl_get l1
  have f5 := sl_get l5
  have f6 := sl_get l6
  clear l0 l1 l5 l6
  replace f9 := sl_get f9
  have HQ := Lib.hid hQ
  clear hQ
  clear HI
  conv => arg 2; whnf
  go_wp2_with fail
  refine HQ.out _ ⟨?_, ?_, fun i hi he => ?_⟩ ?_ 
  · try simp only [put_tmps]
    simp only [Array.size_setIfInBounds, bs]
  · first | (simp only [put_defers, bd]; done) | exact bd | rfl
  · try simp only [put_tmps]
    repeat rw [sl_ne _ (by omega)]
  · try simp only [put_tmps]
    repeat first | rw [sl_ne _ (by decide)] | rw [sl_eq _ (by simp only [Array.size_setIfInBounds, bs]; decide)]
theorem p15 (A : Act) (w : World) (Q : Exit → Act → World → Prop) (kind : Int) (b : Bool) (hb : (kind == 1) = b) (bs : A.tmps.size = 248) (bd : A.defers = []) (f46 : sl A.tmps 46 = .int .i64 kind)
    (hQ : ∀ A', NearD 47 47 47 A A' → sl A'.tmps 71 = .bool b → Q .normal A' w) :
    Code.wp Try.prog (wpR 15) Q A w := by
  replace f46 := sl_get f46
  have HQ := Lib.hid hQ
  clear hQ
  conv => arg 2; whnf
  go_wp2_with fail
  refine HQ.out _ ⟨?_, ?_, fun i hi he => ?_⟩ ?_ 
  · try simp only [put_tmps]
    simp only [Array.size_setIfInBounds, bs]
  · first | (simp only [put_defers, bd]; done) | exact bd | rfl
  · try simp only [put_tmps]
    repeat rw [sl_ne _ (by omega)]
  · try simp only [put_tmps]
    repeat first | rw [sl_ne _ (by decide)] | rw [sl_eq _ (by simp only [Array.size_setIfInBounds, bs]; decide)]
theorem p20 (A : Act) (w : World) (Q : Exit → Act → World → Prop) (kind : Int) (b : Bool) (hb : (kind == 2) = b) (bs : A.tmps.size = 248) (bd : A.defers = []) (f46 : sl A.tmps 46 = .int .i64 kind)
    (hQ : ∀ A', NearD 47 47 47 A A' → sl A'.tmps 106 = .bool b → Q .normal A' w) :
    Code.wp Try.prog (wpR 20) Q A w := by
  replace f46 := sl_get f46
  have HQ := Lib.hid hQ
  clear hQ
  conv => arg 2; whnf
  go_wp2_with fail
  refine HQ.out _ ⟨?_, ?_, fun i hi he => ?_⟩ ?_ 
  · try simp only [put_tmps]
    simp only [Array.size_setIfInBounds, bs]
  · first | (simp only [put_defers, bd]; done) | exact bd | rfl
  · try simp only [put_tmps]
    repeat rw [sl_ne _ (by omega)]
  · try simp only [put_tmps]
    repeat first | rw [sl_ne _ (by decide)] | rw [sl_eq _ (by simp only [Array.size_setIfInBounds, bs]; decide)]
theorem p14 (A : Act) (w : World) (Q : Exit → Act → World → Prop) (r : Value) (bs : A.tmps.size = 248) (bd : A.defers = []) (f13 : sl A.tmps 13 = r)
    (hQ : ∀ A', NearD 24 7 8 A A' → sl A'.tmps 7 = r → Q .normal A' w) :
    Code.wp Try.prog (wpR 14) Q A w := by
  replace f13 := sl_get f13
  have HQ := Lib.hid hQ
  clear hQ
  conv => arg 2; whnf
  go_wp2_with fail
  refine HQ.out _ ⟨?_, ?_, fun i hi he => ?_⟩ ?_ 
  · try simp only [put_tmps]
    simp only [Array.size_setIfInBounds, bs]
  · first | (simp only [put_defers, bd]; done) | exact bd | rfl
  · try simp only [put_tmps]
    repeat rw [sl_ne _ (by omega)]
  · try simp only [put_tmps]
    repeat first | rw [sl_ne _ (by decide)] | rw [sl_eq _ (by simp only [Array.size_setIfInBounds, bs]; decide)]
theorem p16 (A : Act) (w : World) (Q : Exit → Act → World → Prop) (wx : World) (bh bz g : Nat) (G : Nat → Prop) (id : Int) (av : Value) (act : ActD) (L : LD A av id (ptrB bh) (ptrB bz)) (row : Value) (l : List Tm) (f9 : sl A.tmps 9 = ptrB g) (HI : TI wx G g act (ptrB bh) l (ptrB bz) l row l w) 
    (hQ : ∀ A', NearD 24 11 12 A A' → sl A'.tmps 11 = .bool (mayW act.m) → Q .normal A' w) :
    Code.wp Try.prog (wpR 16) Q A w := by
  obtain ⟨y0, y1, y2⟩ := HI.cells
  have HM := Lib.hid (show mayW act.m = (decide (0 ≤ act.m) && decide (act.m ≤ 1099511627776)) from rfl)
  obtain ⟨bs, bd, l0, l1, l5, l6⟩ := L
  have f0 := sl_get l0
  have f1 := sl_get l1
  have f5 := sl_get l5
  have f6 := sl_get l6
  clear l0 l1 l5 l6
  replace f9 := sl_get f9
  have HQ := Lib.hid hQ
  clear hQ
  clear HI
  conv => arg 2; whnf
  cases hd1 : decide ((0 : Int) ≤ act.m)
  all_goals cases hd2 : decide (act.m ≤ (1099511627776 : Int))
  all_goals
    go_wp2_with fail
    rw [hd1, hd2] at HM
    simp only [Bool.and_true, Bool.and_false] at HM
    rw [HM.out] at HQ
    refine HQ.out _ ⟨?_, ?_, fun i hi he => ?_⟩ ?_ 
    · try simp only [put_tmps]
      simp only [Array.size_setIfInBounds, bs]
    · first | (simp only [put_defers, bd]; done) | exact bd | rfl
    · try simp only [put_tmps]
      repeat rw [sl_ne _ (by omega)]
    · try simp only [put_tmps]
      repeat first | rw [sl_ne _ (by decide)] | rw [sl_eq _ (by simp only [Array.size_setIfInBounds, bs]; decide)]
end Go.Proofs.Ytpdlpnfaclpgbaa
