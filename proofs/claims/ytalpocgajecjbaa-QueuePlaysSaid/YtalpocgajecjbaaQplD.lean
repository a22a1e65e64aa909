/- The regions of QueuePlays, a lemma each, the frame a variable. Conditions: as stated. -/
import Derived.Test.YtalpocgajecjbaaQplA
namespace Go.Proofs.Ytalpocgajecjbaa
open Go.ChangeShapes Go.WideShapes Go.ChangeAt Go.RowKit
set_option linter.unusedVariables false
set_option maxRecDepth 100000
set_option linter.unusedSimpArgs false
set_option maxHeartbeats 4000000

theorem q6t (A : Act) (w : World) (Q : Exit → Act → World → Prop) (k n cap : Nat) (a0 : Option Addr) (id : Int) (bh bz : Nat) (hd : decide (k < n) = true) (L : LQ A (.slice a0 n cap) id bh bz) (f8 : sl A.tmps 8 = .int .i64 k)
    (hQ : ∀ A', NearQ 30 242 A A' → sl A'.tmps 35 = .bool true → Q .normal A' w) :
    Code.wp Try.prog (qpR 6) Q A w := by
  have hd2 : decide ((k : Int) < (n : Int)) = true := by rw [← hd]; exact decide_eq_decide.2 (by omega)
  have HL0 := Lib.hid L
  obtain ⟨bs, bd, l0, l1, l5, l6⟩ := L
  have f0 := sl_get l0
  have f1 := sl_get l1
  have f5 := sl_get l5
  have f6 := sl_get l6
  clear l0 l1 l5 l6
  replace f8 := sl_get f8
  have HQ := Lib.hid hQ
  clear hQ
  conv => arg 2; whnf
  go_wp2_with fail
  refine HQ.out _ ⟨?_, ?_, fun i hi he => ?_⟩ ?_ 
  · try simp only [put_tmps]
    simp only [Array.size_setIfInBounds, bs]
  · first | (simp only [put_defers, bd]; done) | exact bd | rfl
  · try simp only [put_tmps]
    repeat rw [sl_ne _ (by omega)]
  · try simp only [put_tmps]
    repeat first | rw [sl_ne _ (by decide)] | rw [sl_eq _ (by simp only [Array.size_setIfInBounds, bs]; decide)]
theorem q6f (A : Act) (w : World) (Q : Exit → Act → World → Prop) (k n cap : Nat) (a0 : Option Addr) (id : Int) (bh bz : Nat) (hd : decide (k < n) = false) (L : LQ A (.slice a0 n cap) id bh bz) (f8 : sl A.tmps 8 = .int .i64 k)
    (hQ : ∀ A', NearQ 30 242 A A' → sl A'.tmps 35 = .bool false → Q .normal A' w) :
    Code.wp Try.prog (qpR 6) Q A w := by
  have hd2 : decide ((k : Int) < (n : Int)) = false := by rw [← hd]; exact decide_eq_decide.2 (by omega)
  have HL0 := Lib.hid L
  obtain ⟨bs, bd, l0, l1, l5, l6⟩ := L
  have f0 := sl_get l0
  have f1 := sl_get l1
  have f5 := sl_get l5
  have f6 := sl_get l6
  clear l0 l1 l5 l6
  replace f8 := sl_get f8
  have HQ := Lib.hid hQ
  clear hQ
  conv => arg 2; whnf
  go_wp2_with fail
  refine HQ.out _ ⟨?_, ?_, fun i hi he => ?_⟩ ?_ 
  · try simp only [put_tmps]
    simp only [Array.size_setIfInBounds, bs]
  · first | (simp only [put_defers, bd]; done) | exact bd | rfl
  · try simp only [put_tmps]
    repeat rw [sl_ne _ (by omega)]
  · try simp only [put_tmps]
    repeat first | rw [sl_ne _ (by decide)] | rw [sl_eq _ (by simp only [Array.size_setIfInBounds, bs]; decide)]
theorem q7 (A : Act) (w : World) (Q : Exit → Act → World → Prop) (k : Nat) (hk : k ≤ 100) (bs : A.tmps.size = 242) (bd : A.defers = []) (f8 : sl A.tmps 8 = .int .i64 k)
    (hQ : ∀ A', NearQ 30 8 A A' → sl A'.tmps 8 = .int .i64 ((k : Int) + 1) → Q .normal A' w) :
    Code.wp Try.prog (qpR 7) Q A w := by
  have q3 : IntKind.i64.wrap ((k : Int) + 1) = (k : Int) + 1 := IntWalk.i64_in _ (by omega)
  replace f8 := sl_get f8
  have HQ := Lib.hid hQ
  clear hQ
  conv => arg 2; whnf
  go_wp2_with fail
  refine HQ.out _ ⟨?_, ?_, fun i hi he => ?_⟩ ?_ 
  · try simp only [put_tmps]
    simp only [Array.size_setIfInBounds, bs]
  · first | (simp only [put_defers, bd]; done) | exact bd | rfl
  · try simp only [put_tmps]
    repeat rw [sl_ne _ (by omega)]
  · try simp only [put_tmps]
    repeat first | rw [sl_ne _ (by decide)] | rw [sl_eq _ (by simp only [Array.size_setIfInBounds, bs]; decide)]
theorem q8 (A : Act) (w : World) (Q : Exit → Act → World → Prop) (wx : World) (k n cap ba oa bh bz : Nat) (id : Int) (act : ActQ) (hlt : k < n) (hn : n ≤ 80) (HC : ∀ w', Below wx.heap.size wx w' → ActJ ba (oa + k * 9) act w')
    (L : LQ A (.slice (some ⟨ba, oa, none⟩) n cap) id bh bz) (f8 : sl A.tmps 8 = .int .i64 k) (hb : Below wx.heap.size wx w)
    (hQ : ∀ A', NearQ 9 242 A A' → sl A'.tmps 9 = ptrB w.heap.size → Q .normal A' (jv w act.j)) :
    Code.wp Try.prog (qpR 8) Q A w := by
  obtain ⟨p0, j0, j1, j2, j3, j4, j5, j6, j7⟩ := HC w hb
  have i0k : (0 : Int) ≤ (k : Int) := by omega
  have i1k : (k : Int) < (n : Int) := by omega
  have i2k : (n : Int) ≤ 80 := by omega
  have hz := jz_blk w
  obtain ⟨z0, z1, z2, z3, z4, z5, z6, z7⟩ := z8_of hz
  obtain ⟨e0, e1, e2, e3, e4, e5, e6, e7⟩ := hz.free
  clear hz
  have HL0 := Lib.hid L
  obtain ⟨bs, bd, l0, l1, l5, l6⟩ := L
  have f0 := sl_get l0
  have f1 := sl_get l1
  have f5 := sl_get l5
  have f6 := sl_get l6
  clear l0 l1 l5 l6
  replace f8 := sl_get f8
  have HQ := Lib.hid hQ
  clear hQ
  conv => arg 2; whnf
  go_wp2_with fail
  refine HQ.out _ ⟨?_, ?_, fun i hi he => ?_⟩ ?_ 
  · try simp only [put_tmps]
    simp only [Array.size_setIfInBounds, bs]
  · first | (simp only [put_defers, bd]; done) | exact bd | rfl
  · try simp only [put_tmps]
    repeat rw [sl_ne _ (by omega)]
  · try simp only [put_tmps]
    repeat first | rw [sl_ne _ (by decide)] | rw [sl_eq _ (by simp only [Array.size_setIfInBounds, bs]; decide)]
theorem q10 (A : Act) (w : World) (Q : Exit → Act → World → Prop) (wx : World) (k n cap ba oa bh bz : Nat) (id : Int) (act : ActQ) (hlt : k < n) (hn : n ≤ 80) (HC : ∀ w', Below wx.heap.size wx w' → ActJ ba (oa + k * 9) act w')
    (L : LQ A (.slice (some ⟨ba, oa, none⟩) n cap) id bh bz) (f8 : sl A.tmps 8 = .int .i64 k) (hb : Below wx.heap.size wx w)
    (hQ : ∀ A', NearQ 50 242 A A' → sl A'.tmps 54 = .int .i64 act.kind → Q .normal A' w) :
    Code.wp Try.prog (qpR 10) Q A w := by
  obtain ⟨p0, j0, j1, j2, j3, j4, j5, j6, j7⟩ := HC w hb
  have i0k : (0 : Int) ≤ (k : Int) := by omega
  have i1k : (k : Int) < (n : Int) := by omega
  have i2k : (n : Int) ≤ 80 := by omega
  have HL0 := Lib.hid L
  obtain ⟨bs, bd, l0, l1, l5, l6⟩ := L
  have f0 := sl_get l0
  have f1 := sl_get l1
  have f5 := sl_get l5
  have f6 := sl_get l6
  clear l0 l1 l5 l6
  replace f8 := sl_get f8
  have HQ := Lib.hid hQ
  clear hQ
  clear j0 j1 j2 j3 j4 j5 j6 j7
  conv => arg 2; whnf
  go_wp2_with fail
  refine HQ.out _ ⟨?_, ?_, fun i hi he => ?_⟩ ?_ 
  · try simp only [put_tmps]
    simp only [Array.size_setIfInBounds, bs]
  · first | (simp only [put_defers, bd]; done) | exact bd | rfl
  · try simp only [put_tmps]
    repeat rw [sl_ne _ (by omega)]
  · try simp only [put_tmps]
    repeat first | rw [sl_ne _ (by decide)] | rw [sl_eq _ (by simp only [Array.size_setIfInBounds, bs]; decide)]
theorem q12 (A : Act) (w : World) (Q : Exit → Act → World → Prop) (wx : World) (k n cap ba oa bh bz : Nat) (id : Int) (act : ActQ) (hlt : k < n) (hn : n ≤ 80) (HC : ∀ w', Below wx.heap.size wx w' → ActJ ba (oa + k * 9) act w')
    (L : LQ A (.slice (some ⟨ba, oa, none⟩) n cap) id bh bz) (f8 : sl A.tmps 8 = .int .i64 k) (hb : Below wx.heap.size wx w) (b : Bool) (hkb : (act.kind == 3) = b)
    (hQ : ∀ A', NearQ 55 242 A A' → sl A'.tmps 65 = .bool b → Q .normal A' w) :
    Code.wp Try.prog (qpR 12) Q A w := by
  obtain ⟨p0, j0, j1, j2, j3, j4, j5, j6, j7⟩ := HC w hb
  have i0k : (0 : Int) ≤ (k : Int) := by omega
  have i1k : (k : Int) < (n : Int) := by omega
  have i2k : (n : Int) ≤ 80 := by omega
  have HL0 := Lib.hid L
  obtain ⟨bs, bd, l0, l1, l5, l6⟩ := L
  have f0 := sl_get l0
  have f1 := sl_get l1
  have f5 := sl_get l5
  have f6 := sl_get l6
  clear l0 l1 l5 l6
  replace f8 := sl_get f8
  have HQ := Lib.hid hQ
  clear hQ
  clear j0 j1 j2 j3 j4 j5 j6 j7
  conv => arg 2; whnf
  go_wp2_with fail
  refine HQ.out _ ⟨?_, ?_, fun i hi he => ?_⟩ ?_ 
  · try simp only [put_tmps]
    simp only [Array.size_setIfInBounds, bs]
  · first | (simp only [put_defers, bd]; done) | exact bd | rfl
  · try simp only [put_tmps]
    repeat rw [sl_ne _ (by omega)]
  · try simp only [put_tmps]
    repeat first | rw [sl_ne _ (by decide)] | rw [sl_eq _ (by simp only [Array.size_setIfInBounds, bs]; decide)]
theorem q17tt (A : Act) (w : World) (Q : Exit → Act → World → Prop) (wx : World) (k n cap ba oa bh bz : Nat) (id : Int) (act : ActQ) (hlt : k < n) (hn : n ≤ 80) (HC : ∀ w', Below wx.heap.size wx w' → ActJ ba (oa + k * 9) act w')
    (L : LQ A (.slice (some ⟨ba, oa, none⟩) n cap) id bh bz) (f8 : sl A.tmps 8 = .int .i64 k) (hb : Below wx.heap.size wx w) (hkb : (act.kind == 3) = true) (f13 : sl A.tmps 13 = .bool true)
    (hQ : ∀ A', NearQ 90 242 A A' → sl A'.tmps 105 = .bool true → Q .normal A' w) :
    Code.wp Try.prog (qpR 17) Q A w := by
  obtain ⟨p0, j0, j1, j2, j3, j4, j5, j6, j7⟩ := HC w hb
  have i0k : (0 : Int) ≤ (k : Int) := by omega
  have i1k : (k : Int) < (n : Int) := by omega
  have i2k : (n : Int) ≤ 80 := by omega
  have HL0 := Lib.hid L
  obtain ⟨bs, bd, l0, l1, l5, l6⟩ := L
  have f0 := sl_get l0
  have f1 := sl_get l1
  have f5 := sl_get l5
  have f6 := sl_get l6
  clear l0 l1 l5 l6
  replace f8 := sl_get f8
  replace f13 := sl_get f13
  have HQ := Lib.hid hQ
  clear hQ
  clear j0 j1 j2 j3 j4 j5 j6 j7
  conv => arg 2; whnf
  go_wp2_with fail
  refine HQ.out _ ⟨?_, ?_, fun i hi he => ?_⟩ ?_ 
  · try simp only [put_tmps]
    simp only [Array.size_setIfInBounds, bs]
  · first | (simp only [put_defers, bd]; done) | exact bd | rfl
  · try simp only [put_tmps]
    repeat rw [sl_ne _ (by omega)]
  · try simp only [put_tmps]
    repeat first | rw [sl_ne _ (by decide)] | rw [sl_eq _ (by simp only [Array.size_setIfInBounds, bs]; decide)]
theorem q17tf (A : Act) (w : World) (Q : Exit → Act → World → Prop) (wx : World) (k n cap ba oa bh bz : Nat) (id : Int) (act : ActQ) (hlt : k < n) (hn : n ≤ 80) (HC : ∀ w', Below wx.heap.size wx w' → ActJ ba (oa + k * 9) act w')
    (L : LQ A (.slice (some ⟨ba, oa, none⟩) n cap) id bh bz) (f8 : sl A.tmps 8 = .int .i64 k) (hb : Below wx.heap.size wx w) (hkb : (act.kind == 3) = true) (f13 : sl A.tmps 13 = .bool false)
    (hQ : ∀ A', NearQ 90 242 A A' → sl A'.tmps 105 = .bool false → Q .normal A' w) :
    Code.wp Try.prog (qpR 17) Q A w := by
  obtain ⟨p0, j0, j1, j2, j3, j4, j5, j6, j7⟩ := HC w hb
  have i0k : (0 : Int) ≤ (k : Int) := by omega
  have i1k : (k : Int) < (n : Int) := by omega
  have i2k : (n : Int) ≤ 80 := by omega
  have HL0 := Lib.hid L
  obtain ⟨bs, bd, l0, l1, l5, l6⟩ := L
  have f0 := sl_get l0
  have f1 := sl_get l1
  have f5 := sl_get l5
  have f6 := sl_get l6
  clear l0 l1 l5 l6
  replace f8 := sl_get f8
  replace f13 := sl_get f13
  have HQ := Lib.hid hQ
  clear hQ
  clear j0 j1 j2 j3 j4 j5 j6 j7
  conv => arg 2; whnf
  go_wp2_with fail
  refine HQ.out _ ⟨?_, ?_, fun i hi he => ?_⟩ ?_ 
  · try simp only [put_tmps]
    simp only [Array.size_setIfInBounds, bs]
  · first | (simp only [put_defers, bd]; done) | exact bd | rfl
  · try simp only [put_tmps]
    repeat rw [sl_ne _ (by omega)]
  · try simp only [put_tmps]
    repeat first | rw [sl_ne _ (by decide)] | rw [sl_eq _ (by simp only [Array.size_setIfInBounds, bs]; decide)]
theorem q17ft (A : Act) (w : World) (Q : Exit → Act → World → Prop) (wx : World) (k n cap ba oa bh bz : Nat) (id : Int) (act : ActQ) (hlt : k < n) (hn : n ≤ 80) (HC : ∀ w', Below wx.heap.size wx w' → ActJ ba (oa + k * 9) act w')
    (L : LQ A (.slice (some ⟨ba, oa, none⟩) n cap) id bh bz) (f8 : sl A.tmps 8 = .int .i64 k) (hb : Below wx.heap.size wx w) (hkb : (act.kind == 3) = false) (f13 : sl A.tmps 13 = .bool true)
    (hQ : ∀ A', NearQ 90 242 A A' → sl A'.tmps 105 = .bool false → Q .normal A' w) :
    Code.wp Try.prog (qpR 17) Q A w := by
  obtain ⟨p0, j0, j1, j2, j3, j4, j5, j6, j7⟩ := HC w hb
  have i0k : (0 : Int) ≤ (k : Int) := by omega
  have i1k : (k : Int) < (n : Int) := by omega
  have i2k : (n : Int) ≤ 80 := by omega
  have HL0 := Lib.hid L
  obtain ⟨bs, bd, l0, l1, l5, l6⟩ := L
  have f0 := sl_get l0
  have f1 := sl_get l1
  have f5 := sl_get l5
  have f6 := sl_get l6
  clear l0 l1 l5 l6
  replace f8 := sl_get f8
  replace f13 := sl_get f13
  have HQ := Lib.hid hQ
  clear hQ
  clear j0 j1 j2 j3 j4 j5 j6 j7
  conv => arg 2; whnf
  go_wp2_with fail
  refine HQ.out _ ⟨?_, ?_, fun i hi he => ?_⟩ ?_ 
  · try simp only [put_tmps]
    simp only [Array.size_setIfInBounds, bs]
  · first | (simp only [put_defers, bd]; done) | exact bd | rfl
  · try simp only [put_tmps]
    repeat rw [sl_ne _ (by omega)]
  · try simp only [put_tmps]
    repeat first | rw [sl_ne _ (by decide)] | rw [sl_eq _ (by simp only [Array.size_setIfInBounds, bs]; decide)]
theorem q17ff (A : Act) (w : World) (Q : Exit → Act → World → Prop) (wx : World) (k n cap ba oa bh bz : Nat) (id : Int) (act : ActQ) (hlt : k < n) (hn : n ≤ 80) (HC : ∀ w', Below wx.heap.size wx w' → ActJ ba (oa + k * 9) act w')
    (L : LQ A (.slice (some ⟨ba, oa, none⟩) n cap) id bh bz) (f8 : sl A.tmps 8 = .int .i64 k) (hb : Below wx.heap.size wx w) (hkb : (act.kind == 3) = false) (f13 : sl A.tmps 13 = .bool false)
    (hQ : ∀ A', NearQ 90 242 A A' → sl A'.tmps 105 = .bool false → Q .normal A' w) :
    Code.wp Try.prog (qpR 17) Q A w := by
  obtain ⟨p0, j0, j1, j2, j3, j4, j5, j6, j7⟩ := HC w hb
  have i0k : (0 : Int) ≤ (k : Int) := by omega
  have i1k : (k : Int) < (n : Int) := by omega
  have i2k : (n : Int) ≤ 80 := by omega
  have HL0 := Lib.hid L
  obtain ⟨bs, bd, l0, l1, l5, l6⟩ := L
  have f0 := sl_get l0
  have f1 := sl_get l1
  have f5 := sl_get l5
  have f6 := sl_get l6
  clear l0 l1 l5 l6
  replace f8 := sl_get f8
  replace f13 := sl_get f13
  have HQ := Lib.hid hQ
  clear hQ
  clear j0 j1 j2 j3 j4 j5 j6 j7
  conv => arg 2; whnf
  go_wp2_with fail
  refine HQ.out _ ⟨?_, ?_, fun i hi he => ?_⟩ ?_ 
  · try simp only [put_tmps]
    simp only [Array.size_setIfInBounds, bs]
  · first | (simp only [put_defers, bd]; done) | exact bd | rfl
  · try simp only [put_tmps]
    repeat rw [sl_ne _ (by omega)]
  · try simp only [put_tmps]
    repeat first | rw [sl_ne _ (by decide)] | rw [sl_eq _ (by simp only [Array.size_setIfInBounds, bs]; decide)]
theorem q19 (A : Act) (w : World) (Q : Exit → Act → World → Prop) (kind : Int) (b : Bool) (hb : (kind == 1) = b) (bs : A.tmps.size = 242) (bd : A.defers = []) (f54 : sl A.tmps 54 = .int .i64 kind)
    (hQ : ∀ A', NearQ 100 242 A A' → sl A'.tmps 108 = .bool b → Q .normal A' w) :
    Code.wp Try.prog (qpR 19) Q A w := by
  replace f54 := sl_get f54
  have HQ := Lib.hid hQ
  clear hQ
  conv => arg 2; whnf
  go_wp2_with fail
  refine HQ.out _ ⟨?_, ?_, fun i hi he => ?_⟩ ?_ 
  · try simp only [put_tmps]
    simp only [Array.size_setIfInBounds, bs]
  · first | (simp only [put_defers, bd]; done) | exact bd | rfl
  · try simp only [put_tmps]
    repeat rw [sl_ne _ (by omega)]
  · try simp only [put_tmps]
    repeat first | rw [sl_ne _ (by decide)] | rw [sl_eq _ (by simp only [Array.size_setIfInBounds, bs]; decide)]
theorem q23 (A : Act) (w : World) (Q : Exit → Act → World → Prop) (kind : Int) (b : Bool) (hb : (kind == 2) = b) (bs : A.tmps.size = 242) (bd : A.defers = []) (f54 : sl A.tmps 54 = .int .i64 kind)
    (hQ : ∀ A', NearQ 100 242 A A' → sl A'.tmps 129 = .bool b → Q .normal A' w) :
    Code.wp Try.prog (qpR 23) Q A w := by
  replace f54 := sl_get f54
  have HQ := Lib.hid hQ
  clear hQ
  conv => arg 2; whnf
  go_wp2_with fail
  refine HQ.out _ ⟨?_, ?_, fun i hi he => ?_⟩ ?_ 
  · try simp only [put_tmps]
    simp only [Array.size_setIfInBounds, bs]
  · first | (simp only [put_defers, bd]; done) | exact bd | rfl
  · try simp only [put_tmps]
    repeat rw [sl_ne _ (by omega)]
  · try simp only [put_tmps]
    repeat first | rw [sl_ne _ (by decide)] | rw [sl_eq _ (by simp only [Array.size_setIfInBounds, bs]; decide)]
theorem q9 (A : Act) (w : World) (Q : Exit → Act → World → Prop) (wx : World) (G : Nat → Prop) (bh bz : Nat) (id : Int) (av row : Value) (L : LQ A av id bh bz) (l l1 l2 : List Jb) (x : Jb) (b9 : Nat) (hl : l.length ≤ 1000) (f7 : sl A.tmps 7 = row) (f9 : sl A.tmps 9 = ptrB b9) (HB : BJob b9 x w) (HI : QInv3 wx G (ptrB bh) l1 (ptrB bz) l2 row l w)
    (hQ : ∀ A' w', NearQ 10 242 A A' → sl A'.tmps 10 = ptrB w'.heap.size → sl A'.tmps 11 = .bool ((getJ l x.id).isSome) → Below w.heap.size w w' → Q .normal A' (jv w' ((getJ l x.id).getD zeroJ))) :
    Code.wp Try.prog (qpR 9) Q A w := by
  obtain ⟨x0, x1, x2, x3, x4, x5, x6, x7⟩ := HB.cells
  have CT := iqrget x.id (by omega) HI
  generalize hy : (getJ l x.id).getD zeroJ = y at CT
  generalize hok : (getJ l x.id).isSome = ok at CT
  unfold Jb.val at CT
  replace CT := Lib.hid CT
  have HQ0 := Lib.hid (show ∀ A' w' , NearQ 10 242 A A' → sl A'.tmps 11 = .bool ok → sl A'.tmps 10 = ptrB w'.heap.size → Below w.heap.size w w' → Q .normal A' (jv w' y) from by rw [← hy, ← hok]; exact fun A' w' h1 h2 h3 h4 => hQ A' w' h1 h3 h2 h4)
  clear hy hok hQ HI HB
  have HL0 := Lib.hid L
  obtain ⟨bs, bd, l0, l1, l5, l6⟩ := L
  have f0 := sl_get l0
  have f1 := sl_get l1
  have f5 := sl_get l5
  have f6 := sl_get l6
  clear l0 l1 l5 l6
  replace f7 := sl_get f7
  replace f9 := sl_get f9
  have HQ := HQ0
  clear HQ0
  conv => arg 2; whnf
  go_wp2_with fail
  refine CT.out.mono ?_; rintro e w2 ⟨rfl, b2⟩
  have HB2 := Lib.hid b2
  have hz := jz_blk w2
  obtain ⟨z0, z1, z2, z3, z4, z5, z6, z7⟩ := z8_of hz
  obtain ⟨e0, e1, e2, e3, e4, e5, e6, e7⟩ := hz.free
  clear hz b2 CT
  go_wp2_with fail
  refine HQ.out _ _ ⟨?_, ?_, fun i hi he => ?_⟩ ?_ ?_ HB2.out
  · try simp only [put_tmps]
    simp only [Array.size_setIfInBounds, bs]
  · first | (simp only [put_defers, bd]; done) | exact bd | rfl
  · try simp only [put_tmps]
    repeat rw [sl_ne _ (by omega)]
  · try simp only [put_tmps]
    repeat first | rw [sl_ne _ (by decide)] | rw [sl_eq _ (by simp only [Array.size_setIfInBounds, bs]; decide)]
  · try simp only [put_tmps]
    repeat first | rw [sl_ne _ (by decide)] | rw [sl_eq _ (by simp only [Array.size_setIfInBounds, bs]; decide)]
theorem q11 (A : Act) (w : World) (Q : Exit → Act → World → Prop) (wx : World) (G : Nat → Prop) (bh bz : Nat) (id : Int) (av row : Value) (L : LQ A av id bh bz) (l l1 l2 : List Jb) (hl : l1.length ≤ 1000) (HI : QInv3 wx G (ptrB bh) l1 (ptrB bz) l2 row l w)
    (hQ : ∀ A' w', NearQ 12 242 A A' → sl A'.tmps 12 = ptrB w'.heap.size → sl A'.tmps 13 = .bool (someJ l1) → Below w.heap.size w w' → Q .normal A' (jv w' (headJ l1))) :
    Code.wp Try.prog (qpR 11) Q A w := by
  have CT := iqnext_h (by omega) HI
  generalize hy : headJ l1 = y at CT
  generalize hok : someJ l1 = ok at CT
  unfold Jb.val at CT
  replace CT := Lib.hid CT
  have HQ0 := Lib.hid (show ∀ A' w' , NearQ 12 242 A A' → sl A'.tmps 13 = .bool ok → sl A'.tmps 12 = ptrB w'.heap.size → Below w.heap.size w w' → Q .normal A' (jv w' y) from by rw [← hy, ← hok]; exact fun A' w' h1 h2 h3 h4 => hQ A' w' h1 h3 h2 h4)
  clear hy hok hQ HI
  have HL0 := Lib.hid L
  obtain ⟨bs, bd, l0, l1, l5, l6⟩ := L
  have f0 := sl_get l0
  have f1 := sl_get l1
  have f5 := sl_get l5
  have f6 := sl_get l6
  clear l0 l1 l5 l6
  have HQ := HQ0
  clear HQ0
  conv => arg 2; whnf
  go_wp2_with fail
  refine CT.out.mono ?_; rintro e w2 ⟨rfl, b2⟩
  have HB2 := Lib.hid b2
  have hz := jz_blk w2
  obtain ⟨z0, z1, z2, z3, z4, z5, z6, z7⟩ := z8_of hz
  obtain ⟨e0, e1, e2, e3, e4, e5, e6, e7⟩ := hz.free
  clear hz b2 CT
  go_wp2_with fail
  refine HQ.out _ _ ⟨?_, ?_, fun i hi he => ?_⟩ ?_ ?_ HB2.out
  · try simp only [put_tmps]
    simp only [Array.size_setIfInBounds, bs]
  · first | (simp only [put_defers, bd]; done) | exact bd | rfl
  · try simp only [put_tmps]
    repeat rw [sl_ne _ (by omega)]
  · try simp only [put_tmps]
    repeat first | rw [sl_ne _ (by decide)] | rw [sl_eq _ (by simp only [Array.size_setIfInBounds, bs]; decide)]
  · try simp only [put_tmps]
    repeat first | rw [sl_ne _ (by decide)] | rw [sl_eq _ (by simp only [Array.size_setIfInBounds, bs]; decide)]
theorem q27 (A : Act) (w : World) (Q : Exit → Act → World → Prop) (wx : World) (G : Nat → Prop) (bh bz : Nat) (id : Int) (av row : Value) (L : LQ A av id bh bz) (l l1 l2 : List Jb) (hid : inI id) (HI : QInv3 wx G (ptrB bh) l1 (ptrB bz) l2 row l w)
    (hQ : ∀ A' w', NearQ 14 242 A A' → sl A'.tmps 14 = ptrB w'.heap.size → sl A'.tmps 15 = .bool ((getJ l1 id).isSome) → Below w.heap.size w w' → Q .normal A' (jv w' ((getJ l1 id).getD zeroJ))) :
    Code.wp Try.prog (qpR 27) Q A w := by
  have CT := iqget_h id hid HI
  generalize hy : (getJ l1 id).getD zeroJ = y at CT
  generalize hok : (getJ l1 id).isSome = ok at CT
  unfold Jb.val at CT
  replace CT := Lib.hid CT
  have HQ0 := Lib.hid (show ∀ A' w' , NearQ 14 242 A A' → sl A'.tmps 15 = .bool ok → sl A'.tmps 14 = ptrB w'.heap.size → Below w.heap.size w w' → Q .normal A' (jv w' y) from by rw [← hy, ← hok]; exact fun A' w' h1 h2 h3 h4 => hQ A' w' h1 h3 h2 h4)
  clear hy hok hQ HI
  have HL0 := Lib.hid L
  obtain ⟨bs, bd, l0, l1, l5, l6⟩ := L
  have f0 := sl_get l0
  have f1 := sl_get l1
  have f5 := sl_get l5
  have f6 := sl_get l6
  clear l0 l1 l5 l6
  have HQ := HQ0
  clear HQ0
  conv => arg 2; whnf
  go_wp2_with fail
  refine CT.out.mono ?_; rintro e w2 ⟨rfl, b2⟩
  have HB2 := Lib.hid b2
  have hz := jz_blk w2
  obtain ⟨z0, z1, z2, z3, z4, z5, z6, z7⟩ := z8_of hz
  obtain ⟨e0, e1, e2, e3, e4, e5, e6, e7⟩ := hz.free
  clear hz b2 CT
  go_wp2_with fail
  refine HQ.out _ _ ⟨?_, ?_, fun i hi he => ?_⟩ ?_ ?_ HB2.out
  · try simp only [put_tmps]
    simp only [Array.size_setIfInBounds, bs]
  · first | (simp only [put_defers, bd]; done) | exact bd | rfl
  · try simp only [put_tmps]
    repeat rw [sl_ne _ (by omega)]
  · try simp only [put_tmps]
    repeat first | rw [sl_ne _ (by decide)] | rw [sl_eq _ (by simp only [Array.size_setIfInBounds, bs]; decide)]
  · try simp only [put_tmps]
    repeat first | rw [sl_ne _ (by decide)] | rw [sl_eq _ (by simp only [Array.size_setIfInBounds, bs]; decide)]
theorem q28 (A : Act) (w : World) (Q : Exit → Act → World → Prop) (wx : World) (G : Nat → Prop) (bh bz : Nat) (id : Int) (av row : Value) (L : LQ A av id bh bz) (l l1 l2 : List Jb) (hl : l.length ≤ 1000) (f7 : sl A.tmps 7 = row) (HI : QInv3 wx G (ptrB bh) l1 (ptrB bz) l2 row l w)
    (hQ : ∀ A' w', NearQ 16 242 A A' → sl A'.tmps 16 = ptrB w'.heap.size → sl A'.tmps 17 = .bool ((getJ l id).isSome) → Below w.heap.size w w' → Q .normal A' (jv w' ((getJ l id).getD zeroJ))) :
    Code.wp Try.prog (qpR 28) Q A w := by
  have CT := iqrget id (by omega) HI
  generalize hy : (getJ l id).getD zeroJ = y at CT
  generalize hok : (getJ l id).isSome = ok at CT
  unfold Jb.val at CT
  replace CT := Lib.hid CT
  have HQ0 := Lib.hid (show ∀ A' w' , NearQ 16 242 A A' → sl A'.tmps 17 = .bool ok → sl A'.tmps 16 = ptrB w'.heap.size → Below w.heap.size w w' → Q .normal A' (jv w' y) from by rw [← hy, ← hok]; exact fun A' w' h1 h2 h3 h4 => hQ A' w' h1 h3 h2 h4)
  clear hy hok hQ HI
  have HL0 := Lib.hid L
  obtain ⟨bs, bd, l0, l1, l5, l6⟩ := L
  have f0 := sl_get l0
  have f1 := sl_get l1
  have f5 := sl_get l5
  have f6 := sl_get l6
  clear l0 l1 l5 l6
  replace f7 := sl_get f7
  have HQ := HQ0
  clear HQ0
  conv => arg 2; whnf
  go_wp2_with fail
  refine CT.out.mono ?_; rintro e w2 ⟨rfl, b2⟩
  have HB2 := Lib.hid b2
  have hz := jz_blk w2
  obtain ⟨z0, z1, z2, z3, z4, z5, z6, z7⟩ := z8_of hz
  obtain ⟨e0, e1, e2, e3, e4, e5, e6, e7⟩ := hz.free
  clear hz b2 CT
  go_wp2_with fail
  refine HQ.out _ _ ⟨?_, ?_, fun i hi he => ?_⟩ ?_ ?_ HB2.out
  · try simp only [put_tmps]
    simp only [Array.size_setIfInBounds, bs]
  · first | (simp only [put_defers, bd]; done) | exact bd | rfl
  · try simp only [put_tmps]
    repeat rw [sl_ne _ (by omega)]
  · try simp only [put_tmps]
    repeat first | rw [sl_ne _ (by decide)] | rw [sl_eq _ (by simp only [Array.size_setIfInBounds, bs]; decide)]
  · try simp only [put_tmps]
    repeat first | rw [sl_ne _ (by decide)] | rw [sl_eq _ (by simp only [Array.size_setIfInBounds, bs]; decide)]
theorem q20 (A : Act) (w : World) (Q : Exit → Act → World → Prop) (wx : World) (G : Nat → Prop) (bh bz : Nat) (id : Int) (av row : Value) (L : LQ A av id bh bz) (l : List Jb) (hl : l.length ≤ 1000) (x : Jb) (hok : x.ok) (b9 : Nat) (f9 : sl A.tmps 9 = ptrB b9) (HB : BJob b9 x w) (hG : G b9) (HI : QInv3 wx G (ptrB bh) l (ptrB bz) l row l w)
    (hQ : ∀ A' w', NearQ 100 242 A A' → sl A'.tmps 125 = .bool false → QInv3 wx G (ptrB bh) (putJ l x) (ptrB bz) (putJ l x) row l w' → StayQ G w w' → Q .normal A' w') :
    Code.wp Try.prog (qpR 20) Q A w := by
  have PH := fun m w' hm hC => c2q_put_h (wL := wx) (w0 := w) (G := G) (vh := ptrB bh) (vz := ptrB bz) (row := row) (l := l) (w := w') (m := m) x hok (by omega) hm hC
  have PZ := fun m w' hm hC => c2q_put_z (wL := wx) (w0 := w) (G := G) (vh := ptrB bh) (vz := ptrB bz) (row := row) (l := l) (w := w') (m := m) x hok (by omega) hm hC
  unfold Jb.val at PH PZ
  obtain ⟨bp, hbp⟩ : ∃ bp, decide (0 ≤ x.prio) = bp := ⟨_, rfl⟩
  rw [hbp] at PH PZ
  have dp : decide (x.prio ≥ 0) = bp := hbp
  replace PH := Lib.hid PH
  replace PZ := Lib.hid PZ
  have HI := Lib.hid HI
  have HCY := Lib.hid (show ∀ m w', C2q wx w G (ptrB bh) (ptrB bz) row l (putJ l x) m w' → _ from fun m w' hC => BJob.cells (b := b9) (x := x) (w := w') ((hC.2 b9 hG).trans HB))
  clear HB hG hok hl
  have HL0 := Lib.hid L
  obtain ⟨bs, bd, l0, l1, l5, l6⟩ := L
  have f0 := sl_get l0
  have f1 := sl_get l1
  have f5 := sl_get l5
  have f6 := sl_get l6
  clear l0 l1 l5 l6
  replace f9 := sl_get f9
  have HQ := Lib.hid hQ
  clear hQ
  conv => arg 2; whnf
  cases bp
  all_goals
    refine wp_region_holdC [2, 10] (fun m w' => C2q wx w G (ptrB bh) (ptrB bz) row l (putJ l x) m w') (by kernel_rfl) (by kernel_rfl) rfl ⟨HI.out.below (w' := w.drew) ⟨rfl, rfl, rfl, Nat.le_refl _, fun _ _ => rfl⟩, fun _ _ => rfl⟩ ?_
    repeat
      first
      | (refine holdC_val (v := ?_) (by rfl) ?_ ?_ ?_
         rotate_left
         · first
           | (simp [Region.wanted]; done)
           | (simp [Region.wanted, yielded, Act.put, bs]; done)
         · (intro m w' hC
            obtain ⟨_, _, _, _, _, _, _, _⟩ := HCY.out m w' hC
            go_simp
            try with_reducible rfl))
      | (refine holdC_skip (by rfl) ?_ ?_
         · (simp [Region.wanted, yielded, Act.put, bs]; done))
      | (refine holdC_write 0 [] rfl rfl (by decide) ?_ rfl ?_ (fun m w' hm _ hC => PH.out m w' hm hC) ?_
         · first
           | (simp [Region.wanted]; done)
           | (simp [Region.wanted, yielded, Act.put, bs]; done)
         · (intro m w' hC; go_simp; done))
      | (refine holdC_write 1 [] rfl rfl (by decide) ?_ rfl ?_ (fun m w' hm _ hC => PZ.out m w' hm hC) ?_
         · first
           | (simp [Region.wanted]; done)
           | (simp [Region.wanted, yielded, Act.put, bs]; done)
         · (intro m w' hC; go_simp; done))
    refine holdC_nil (fun w3 hC => ?_)
    refine HQ.out _ _ ⟨?_, ?_, fun i hi he => ?_⟩ ?_ hC.1 hC.2
    · try simp only [put_tmps]
      simp only [Array.size_setIfInBounds, bs]
    · first | (simp only [put_defers, bd]; done) | exact bd | rfl
    · try simp only [put_tmps]
      repeat rw [sl_ne _ (by omega)]
    · try simp only [put_tmps]
      repeat first | rw [sl_ne _ (by decide)] | rw [sl_eq _ (by simp only [Array.size_setIfInBounds, bs]; decide)]
theorem q22 (A : Act) (w : World) (Q : Exit → Act → World → Prop) (wx : World) (G : Nat → Prop) (bh bz : Nat) (id : Int) (av row : Value) (L : LQ A av id bh bz) (l l1 : List Jb) (hl : l.length ≤ 1000) (x : Jb) (b9 : Nat) (f7 : sl A.tmps 7 = row) (f9 : sl A.tmps 9 = ptrB b9) (HB : BJob b9 x w) (HI : QInv3 wx G (ptrB bh) l1 (ptrB bz) l1 row l w)
    (hQ : ∀ A' w' row', NearQ 50 7 A A' → sl A'.tmps 7 = row' → QInv3 wx G (ptrB bh) l1 (ptrB bz) l1 row' (putJ l x) w' → StayQ G w w' → Q .normal A' w') :
    Code.wp Try.prog (qpR 22) Q A w := by
  obtain ⟨x0, x1, x2, x3, x4, x5, x6, x7⟩ := HB.cells
  have CT := iqrput x (by omega) HI
  unfold Jb.val at CT
  replace CT := Lib.hid CT
  clear HB HI
  have HL0 := Lib.hid L
  obtain ⟨bs, bd, l0, l1, l5, l6⟩ := L
  have f0 := sl_get l0
  have f1 := sl_get l1
  have f5 := sl_get l5
  have f6 := sl_get l6
  clear l0 l1 l5 l6
  replace f7 := sl_get f7
  replace f9 := sl_get f9
  have HQ := Lib.hid hQ
  clear hQ
  conv => arg 2; whnf
  go_wp2_with fail
  refine CT.out.mono ?_; rintro e w2 ⟨v2, rfl, hI2, hs2⟩
  have HI2 := Lib.hid hI2
  have HS2 := Lib.hid hs2
  clear hI2 hs2 CT
  go_wp2_with fail
  refine HQ.out _ _ v2 ⟨?_, ?_, fun i hi he => ?_⟩ ?_ HI2.out HS2.out
  · try simp only [put_tmps]
    simp only [Array.size_setIfInBounds, bs]
  · first | (simp only [put_defers, bd]; done) | exact bd | rfl
  · try simp only [put_tmps]
    repeat rw [sl_ne _ (by omega)]
  · try simp only [put_tmps]
    repeat first | rw [sl_ne _ (by decide)] | rw [sl_eq _ (by simp only [Array.size_setIfInBounds, bs]; decide)]
theorem q26 (A : Act) (w : World) (Q : Exit → Act → World → Prop) (wx : World) (G : Nat → Prop) (bh bz : Nat) (id : Int) (av row : Value) (L : LQ A av id bh bz) (l l1 : List Jb) (hl : l.length ≤ 1000) (x : Jb) (b9 : Nat) (f7 : sl A.tmps 7 = row) (f9 : sl A.tmps 9 = ptrB b9) (HB : BJob b9 x w) (HI : QInv3 wx G (ptrB bh) l1 (ptrB bz) l1 row l w)
    (hQ : ∀ A' w' row', NearQ 50 7 A A' → sl A'.tmps 7 = row' → QInv3 wx G (ptrB bh) l1 (ptrB bz) l1 row' (dropJ l x.id) w' → StayQ G w w' → Q .normal A' w') :
    Code.wp Try.prog (qpR 26) Q A w := by
  have x0 := HB.cells.1
  have CT := iqrdrop x.id (by omega) HI
  replace CT := Lib.hid CT
  clear HB HI
  have HL0 := Lib.hid L
  obtain ⟨bs, bd, l0, l1, l5, l6⟩ := L
  have f0 := sl_get l0
  have f1 := sl_get l1
  have f5 := sl_get l5
  have f6 := sl_get l6
  clear l0 l1 l5 l6
  replace f7 := sl_get f7
  replace f9 := sl_get f9
  have HQ := Lib.hid hQ
  clear hQ
  conv => arg 2; whnf
  go_wp2_with fail
  refine CT.out.mono ?_; rintro e w2 ⟨v2, rfl, hI2, hs2⟩
  have HI2 := Lib.hid hI2
  have HS2 := Lib.hid hs2
  clear hI2 hs2 CT
  go_wp2_with fail
  refine HQ.out _ _ v2 ⟨?_, ?_, fun i hi he => ?_⟩ ?_ HI2.out HS2.out
  · try simp only [put_tmps]
    simp only [Array.size_setIfInBounds, bs]
  · first | (simp only [put_defers, bd]; done) | exact bd | rfl
  · try simp only [put_tmps]
    repeat rw [sl_ne _ (by omega)]
  · try simp only [put_tmps]
    repeat first | rw [sl_ne _ (by decide)] | rw [sl_eq _ (by simp only [Array.size_setIfInBounds, bs]; decide)]
theorem q24 (A : Act) (w : World) (Q : Exit → Act → World → Prop) (wx : World) (G : Nat → Prop) (bh bz : Nat) (id : Int) (av row : Value) (L : LQ A av id bh bz) (l : List Jb) (hl : l.length ≤ 1000) (x : Jb) (hok : x.ok) (b9 : Nat) (f9 : sl A.tmps 9 = ptrB b9) (HB : BJob b9 x w) (hG : G b9) (f11 : sl A.tmps 11 = .bool (getJ l x.id).isSome) (HI : QInv3 wx G (ptrB bh) l (ptrB bz) l row l w)
    (hQ : ∀ A' w', NearQ 100 242 A A' → sl A'.tmps 144 = .bool false → QInv3 wx G (ptrB bh) (dropJ l x.id) (ptrB bz) (dropJ l x.id) row l w' → StayQ G w w' → Q .normal A' w') :
    Code.wp Try.prog (qpR 24) Q A w := by
  have x0 := HB.cells.1
  have CH := iqdrop_h x.id hok.1 (by omega) HI
  have CZ := fun w2 l1 (h : QInv3 wx G (ptrB bh) l1 (ptrB bz) l row l w2) => iqdrop_z x.id hok.1 (by omega) h
  generalize (getJ l x.id).isSome = ok at *
  replace CH := Lib.hid CH
  replace CZ := Lib.hid CZ
  have HBY := Lib.hid (show ∀ w', StayQ G w w' → w'.cell? ⟨b9, 0, none⟩ = some (.int .i64 x.id) from fun w' hs => (BJob.cells (b := b9) (x := x) (w := w') ((hs b9 hG).trans HB)).1)
  clear HB HI hG hok
  have HL0 := Lib.hid L
  obtain ⟨bs, bd, l0, l1, l5, l6⟩ := L
  have f0 := sl_get l0
  have f1 := sl_get l1
  have f5 := sl_get l5
  have f6 := sl_get l6
  clear l0 l1 l5 l6
  replace f9 := sl_get f9
  replace f11 := sl_get f11
  have HQ := Lib.hid hQ
  clear hQ
  conv => arg 2; whnf
  cases ok
  all_goals
    go_wp2_with fail
    refine CH.out.mono ?_; rintro e w2 ⟨rfl, hI2, hs2⟩
    have C2 := Lib.hid (CZ.out _ _ hI2)
    have HS2 := Lib.hid hs2
    have y0 := HBY.out w2 hs2
    clear hI2 hs2 CH CZ x0
    go_wp2_with fail
    refine C2.out.mono ?_; rintro e w3 ⟨rfl, hI3, hs3⟩
    have HI3 := Lib.hid hI3
    have HS3 := Lib.hid (HS2.out.trans hs3)
    clear hI3 hs3 C2 HS2 y0
    go_wp2_with fail
    refine HQ.out _ _ ⟨?_, ?_, fun i hi he => ?_⟩ ?_ HI3.out HS3.out
    · try simp only [put_tmps]
      simp only [Array.size_setIfInBounds, bs]
    · first | (simp only [put_defers, bd]; done) | exact bd | rfl
    · try simp only [put_tmps]
      repeat rw [sl_ne _ (by omega)]
    · try simp only [put_tmps]
      repeat first | rw [sl_ne _ (by decide)] | rw [sl_eq _ (by simp only [Array.size_setIfInBounds, bs]; decide)]
theorem q13 (A : Act) (w : World) (Q : Exit → Act → World → Prop) (wx : World) (G : Nat → Prop) (bh bz : Nat) (id : Int) (av row : Value) (L : LQ A av id bh bz) (l l1 l2 : List Jb) (hl : l1.length ≤ 1000) (u : Jb) (b12 : Nat) (f12 : sl A.tmps 12 = ptrB b12) (HB : BJob b12 u w) (hG : G b12) (HI : QInv3 wx G (ptrB bh) l1 (ptrB bz) l2 row l w)
    (hQ : ∀ A' w', NearQ 50 13 A A' → sl A'.tmps 13 = .bool (someJ l1) → BJob b12 (headJ l1) w' → QInv3 wx G (ptrB bh) l1.tail (ptrB bz) l2 row l w' → StayQ (fun q => G q ∧ q ≠ b12) w w' → Q .normal A' w') :
    Code.wp Try.prog (qpR 13) Q A w := by
  have CT := iqtake_h (by omega) HI
  generalize hy : headJ l1 = y at CT
  generalize hok : someJ l1 = ok at CT
  unfold Jb.val at CT
  replace CT := Lib.hid CT
  have HQ0 := Lib.hid (show ∀ A' w', NearQ 50 13 A A' → sl A'.tmps 13 = .bool ok → BJob b12 y w' → QInv3 wx G (ptrB bh) l1.tail (ptrB bz) l2 row l w' → StayQ (fun q => G q ∧ q ≠ b12) w w' → Q .normal A' w' from by rw [← hy, ← hok]; exact hQ)
  have HB := Lib.hid HB
  have HG := Lib.hid hG
  clear hy hok hQ HI hG
  have HL0 := Lib.hid L
  obtain ⟨bs, bd, l0, l1, l5, l6⟩ := L
  have f0 := sl_get l0
  have f1 := sl_get l1
  have f5 := sl_get l5
  have f6 := sl_get l6
  clear l0 l1 l5 l6
  replace f12 := sl_get f12
  have HQ := HQ0
  clear HQ0
  conv => arg 2; whnf
  go_wp2_with fail
  refine CT.out.mono ?_; rintro e w2 ⟨rfl, hI2, hs2⟩
  have hb2 : BJob b12 u w2 := (hs2 b12 HG.out).trans HB.out
  obtain ⟨z0, z1, z2, z3, z4, z5, z6, z7⟩ := hb2.cells
  obtain ⟨e0, e1, e2, e3, e4, e5, e6, e7⟩ := hb2.free
  have HBY := Lib.hid (setJ8_blk y hb2)
  have HIY := Lib.hid (hI2.write HG.out (setJ8_only w2 b12 y))
  have HSY := Lib.hid (show StayQ (fun q => G q ∧ q ≠ b12) w (setJ8 w2 b12 y) from fun q hq => ((setJ8_only w2 b12 y).block q (hI2.own_lt q hq.1) hq.2).trans (hs2 q hq.1))
  clear hI2 hs2 hb2 CT HB
  go_wp2_with fail
  refine HQ.out _ _ ⟨?_, ?_, fun i hi he => ?_⟩ ?_ HBY.out HIY.out HSY.out
  · try simp only [put_tmps]
    simp only [Array.size_setIfInBounds, bs]
  · first | (simp only [put_defers, bd]; done) | exact bd | rfl
  · try simp only [put_tmps]
    repeat rw [sl_ne _ (by omega)]
  · try simp only [put_tmps]
    repeat first | rw [sl_ne _ (by decide)] | rw [sl_eq _ (by simp only [Array.size_setIfInBounds, bs]; decide)]
theorem q14 (A : Act) (w : World) (Q : Exit → Act → World → Prop) (wx : World) (G : Nat → Prop) (bh bz : Nat) (id : Int) (av row : Value) (L : LQ A av id bh bz) (l l1 l2 : List Jb) (hl : l2.length ≤ 1000) (HI : QInv3 wx G (ptrB bh) l1 (ptrB bz) l2 row l w)
    (hQ : ∀ A' w', NearQ 50 242 A A' → QInv3 wx G (ptrB bh) l1 (ptrB bz) l2.tail row l w' → StayQ G w w' → Q .normal A' w') :
    Code.wp Try.prog (qpR 14) Q A w := by
  have CT := Lib.hid (iqtake_z (by omega) HI)
  clear HI
  have HL0 := Lib.hid L
  obtain ⟨bs, bd, l0, l1, l5, l6⟩ := L
  have f0 := sl_get l0
  have f1 := sl_get l1
  have f5 := sl_get l5
  have f6 := sl_get l6
  clear l0 l1 l5 l6
  have HQ := Lib.hid hQ
  clear hQ
  conv => arg 2; whnf
  go_wp2_with fail
  refine CT.out.mono ?_; rintro e w2 ⟨rfl, hI2, hs2⟩
  have HI2 := Lib.hid hI2
  have HS2 := Lib.hid hs2
  clear hI2 hs2 CT
  go_wp2_with fail
  refine HQ.out _ _ ⟨?_, ?_, fun i hi he => ?_⟩  HI2.out HS2.out
  · try simp only [put_tmps]
    simp only [Array.size_setIfInBounds, bs]
  · first | (simp only [put_defers, bd]; done) | exact bd | rfl
  · try simp only [put_tmps]
    repeat rw [sl_ne _ (by omega)]
theorem q15_nil (A : Act) (w : World) (Q : Exit → Act → World → Prop) (wx : World) (G : Nat → Prop) (bh bz : Nat) (id : Int) (av row : Value) (L : LQ A av id bh bz) (l1 l2 : List Jb) (b12 : Nat) (f7 : sl A.tmps 7 = row) (f12 : sl A.tmps 12 = ptrB b12) (f13 : sl A.tmps 13 = .bool false) (HB : BJob b12 zeroJ w) (HI : QInv3 wx G (ptrB bh) l1 (ptrB bz) l2 row [] w)
    (hQ : ∀ A' w', NearQ 70 242 A A' → sl A'.tmps 96 = .bool false → Below w.heap.size w w' → Q .normal A' w') :
    Code.wp Try.prog (qpR 15) Q A w := by
  obtain ⟨AR, c, rfl, _, _⟩ := HI.form
  have HLB := Lib.hid (show ∀ w', Below w.heap.size w w' → _ from fun w' hb => z8_of (b := b12) (w := w') (HB.below hb HB.lt))
  have E1 := fun w => jeq_same zeroJ w
  simp only [zeroJ, zero3] at E1
  clear HB HI
  have HL0 := Lib.hid L
  obtain ⟨bs, bd, l0, l1, l5, l6⟩ := L
  have f0 := sl_get l0
  have f1 := sl_get l1
  have f5 := sl_get l5
  have f6 := sl_get l6
  clear l0 l1 l5 l6
  replace f7 := sl_get f7
  replace f12 := sl_get f12
  replace f13 := sl_get f13
  have HQ := Lib.hid hQ
  clear hQ
  conv => arg 2; whnf
  refine wp_region_hold (fun w' => Below w.heap.size w w') (by kernel_rfl) (by kernel_rfl) ⟨rfl, rfl, rfl, Nat.le_refl _, fun _ _ => rfl⟩ ?_
  repeat
    first
    | (refine hold_val (v := ?_) ?_ ?_ ?_
       rotate_left
       · first
         | (simp [Region.wanted]; done)
         | (simp [Region.wanted, yielded, Act.put, bs]; done)
       · (intro w' hS
          obtain ⟨_, _, _, _, _, _, _, _⟩ := HLB.out w' hS
          go_simp
          try with_reducible rfl))
    | (refine hold_skip ?_ ?_
       · first
         | (simp [Region.wanted, yielded, Act.put, bs]; done)
         | (simp [Region.wanted, yielded, Act.put, bs, undef]; done))
  refine hold_nil (fun w2 hS => ?_)
  refine HQ.out _ _ ⟨?_, ?_, fun i hi he => ?_⟩ ?_ hS
  · try simp only [put_tmps]
    simp only [Array.size_setIfInBounds, bs]
  · first | (simp only [put_defers, bd]; done) | exact bd | rfl
  · try simp only [put_tmps]
    repeat rw [sl_ne _ (by omega)]
  · try simp only [put_tmps]
    repeat first | rw [sl_ne _ (by decide)] | rw [sl_eq _ (by simp only [Array.size_setIfInBounds, bs]; decide)]
theorem q15_cons (A : Act) (w : World) (Q : Exit → Act → World → Prop) (wx : World) (G : Nat → Prop) (bh bz : Nat) (id : Int) (av row : Value) (L : LQ A av id bh bz) (l1 l2 : List Jb) (x : Jb) (r : List Jb) (b12 : Nat) (f7 : sl A.tmps 7 = row) (f12 : sl A.tmps 12 = ptrB b12) (f13 : sl A.tmps 13 = .bool true) (HB : BJob b12 x w) (HI : QInv3 wx G (ptrB bh) l1 (ptrB bz) l2 row (x :: r) w)
    (hQ : ∀ A' w', NearQ 70 242 A A' → sl A'.tmps 96 = .bool false → Below w.heap.size w w' → Q .normal A' w') :
    Code.wp Try.prog (qpR 15) Q A w := by
  obtain ⟨AR, c, rfl, hc, _⟩ := HI.form
  obtain ⟨br, or_, rfl, hrow⟩ := HI.at_ (k := 0) (by simp)
  have i0 : (0 : Int) < ((x :: r).length : Int) := by simp only [List.length_cons]; omega
  have i1 : decide ((0 : Int) < ((x :: r).length : Int)) = true := decide_eq_true i0
  have i2 : decide (((x :: r).length : Int) > 0) = true := i1
  have i3 : decide (0 < (x :: r).length) = true := decide_eq_true (by simp)
  have i4 : 0 < (x :: r).length := by simp
  have HLB := Lib.hid (show ∀ w', Below w.heap.size w w' → J8 br or_ x w' ∧ _ from fun w' hb => ⟨by have := hrow w' hb; simpa using this, BJob.cells (b := b12) (x := x) (w := w') (HB.below hb HB.lt)⟩)
  have E1 := fun w => jeq_same x w
  clear HB HI hrow hc
  generalize (x :: r).length = nl at *
  have HL0 := Lib.hid L
  obtain ⟨bs, bd, l0, l1, l5, l6⟩ := L
  have f0 := sl_get l0
  have f1 := sl_get l1
  have f5 := sl_get l5
  have f6 := sl_get l6
  clear l0 l1 l5 l6
  replace f7 := sl_get f7
  replace f12 := sl_get f12
  replace f13 := sl_get f13
  have HQ := Lib.hid hQ
  clear hQ
  conv => arg 2; whnf
  refine wp_region_hold (fun w' => Below w.heap.size w w') (by kernel_rfl) (by kernel_rfl) ⟨rfl, rfl, rfl, Nat.le_refl _, fun _ _ => rfl⟩ ?_
  repeat
    first
    | (refine hold_val (v := ?_) ?_ ?_ ?_
       rotate_left
       · first
         | (simp [Region.wanted]; done)
         | (simp [Region.wanted, yielded, Act.put, bs]; done)
       · (intro w' hS
          obtain ⟨⟨_, _, _, _, _, _, _, _⟩, ⟨_, _, _, _, _, _, _, _⟩⟩ := HLB.out w' hS
          go_simp
          try with_reducible rfl))
    | (refine hold_skip ?_ ?_
       · first
         | (simp [Region.wanted, yielded, Act.put, bs]; done)
         | (simp [Region.wanted, yielded, Act.put, bs, undef]; done))
  refine hold_nil (fun w2 hS => ?_)
  refine HQ.out _ _ ⟨?_, ?_, fun i hi he => ?_⟩ ?_ hS
  · try simp only [put_tmps]
    simp only [Array.size_setIfInBounds, bs]
  · first | (simp only [put_defers, bd]; done) | exact bd | rfl
  · try simp only [put_tmps]
    repeat rw [sl_ne _ (by omega)]
  · try simp only [put_tmps]
    repeat first | rw [sl_ne _ (by decide)] | rw [sl_eq _ (by simp only [Array.size_setIfInBounds, bs]; decide)]
theorem q18 (A : Act) (w : World) (Q : Exit → Act → World → Prop) (nl c br or_ : Nat) (h0 : 0 < nl) (hc : nl ≤ c) (hl : nl ≤ 1000) (bs : A.tmps.size = 242) (bd : A.defers = []) (f7 : sl A.tmps 7 = .slice (some ⟨br, or_, none⟩) nl c)
    (hQ : ∀ A', NearQ 50 7 A A' → sl A'.tmps 7 = sliced (some ⟨br, or_, none⟩) 1 nl c 8 → Q .normal A' w) :
    Code.wp Try.prog (qpR 18) Q A w := by
  have j1 : (1 : Int) ≤ (nl : Int) := by omega
  have j2 : (nl : Int) ≤ 1000 := by omega
  have j3 : (nl : Int) ≤ (c : Int) := by omega
  by_cases hc1 : c = 1
  · have HA := Lib.hid (show sliced (some ⟨br, or_, none⟩) 1 nl c 8 = .slice (some ⟨br, or_, none⟩) (nl - 1) 0 by unfold sliced; simp [hc1])
    replace f7 := sl_get f7
    have HQ := Lib.hid hQ
    clear hQ
    conv => arg 2; whnf
    go_wp2_with fail
    refine HQ.out _ ⟨?_, ?_, fun i hi he => ?_⟩ ?_ 
    · try simp only [put_tmps]
      simp only [Array.size_setIfInBounds, bs]
    · first | (simp only [put_defers, bd]; done) | exact bd | rfl
    · try simp only [put_tmps]
      repeat rw [sl_ne _ (by omega)]
    · try simp only [put_tmps]
      repeat first | rw [sl_ne _ (by decide)] | rw [sl_eq _ (by simp only [Array.size_setIfInBounds, bs]; decide)]
      exact HA.out.symm
  · have HA := Lib.hid (show sliced (some ⟨br, or_, none⟩) 1 nl c 8 = .slice (some ⟨br, or_ + 8, none⟩) (nl - 1) (c - 1) by unfold sliced; simp [hc1, Addr.add])
    replace f7 := sl_get f7
    have HQ := Lib.hid hQ
    clear hQ
    conv => arg 2; whnf
    go_wp2_with fail
    refine HQ.out _ ⟨?_, ?_, fun i hi he => ?_⟩ ?_ 
    · try simp only [put_tmps]
      simp only [Array.size_setIfInBounds, bs]
    · first | (simp only [put_defers, bd]; done) | exact bd | rfl
    · try simp only [put_tmps]
      repeat rw [sl_ne _ (by omega)]
    · try simp only [put_tmps]
      repeat first | rw [sl_ne _ (by decide)] | rw [sl_eq _ (by simp only [Array.size_setIfInBounds, bs]; decide)]
      exact HA.out.symm
end Go.Proofs.Ytalpocgajecjbaa
