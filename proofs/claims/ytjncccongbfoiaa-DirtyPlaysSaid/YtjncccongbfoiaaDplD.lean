/- The regions of DirtyPlays, a lemma each, the frame a variable. Conditions: as stated. -/
import Derived.Test.YtjncccongbfoiaaDplA
namespace Go.Proofs.Ytjncccongbfoiaa
open Go.ChangeShapes Go.WideShapes Go.ChangeAt Go.RowKit
set_option linter.unusedVariables false
set_option maxRecDepth 100000
set_option linter.unusedSimpArgs false
set_option maxHeartbeats 4000000

theorem d6t (A : Act) (w : World) (Q : Exit → Act → World → Prop) (k n cap : Nat) (a0 : Option Addr) (bh bz : Nat) (hd : decide (k < n) = true) (L : LD A (.slice a0 n cap) bh bz) (f6 : sl A.tmps 6 = .int .i64 k)
    (hQ : ∀ A', NearD 17 188 A A' → sl A'.tmps 20 = .bool true → Q .normal A' w) :
    Code.wp Try.prog (dpR 6) Q A w := by
  have hd2 : decide ((k : Int) < (n : Int)) = true := by rw [← hd]; exact decide_eq_decide.2 (by omega)
  obtain ⟨bs, bd, l0, l3, l4⟩ := L
  have f0 := sl_get l0
  have f3 := sl_get l3
  have f4 := sl_get l4
  clear l0 l3 l4
  replace f6 := sl_get f6
  have HQ := Lib.hid hQ
  clear hQ
  conv => arg 2; whnf
  go_wp2_with fail
  refine HQ.out _ ⟨?_, ?_, fun i hi he => ?_⟩ ?_ 
  · try simp only [put_tmps]
    simp only [Array.size_setIfInBounds, bs]
  · first | (simp only [put_defers, bd]; done) | exact bd | rfl
  · try simp only [put_tmps]
    repeat rw [sl_ne _ (by omega)]
  · try simp only [put_tmps]
    repeat first | rw [sl_ne _ (by decide)] | rw [sl_eq _ (by simp only [Array.size_setIfInBounds, bs]; decide)]
theorem d6f (A : Act) (w : World) (Q : Exit → Act → World → Prop) (k n cap : Nat) (a0 : Option Addr) (bh bz : Nat) (hd : decide (k < n) = false) (L : LD A (.slice a0 n cap) bh bz) (f6 : sl A.tmps 6 = .int .i64 k)
    (hQ : ∀ A', NearD 17 188 A A' → sl A'.tmps 20 = .bool false → Q .normal A' w) :
    Code.wp Try.prog (dpR 6) Q A w := by
  have hd2 : decide ((k : Int) < (n : Int)) = false := by rw [← hd]; exact decide_eq_decide.2 (by omega)
  obtain ⟨bs, bd, l0, l3, l4⟩ := L
  have f0 := sl_get l0
  have f3 := sl_get l3
  have f4 := sl_get l4
  clear l0 l3 l4
  replace f6 := sl_get f6
  have HQ := Lib.hid hQ
  clear hQ
  conv => arg 2; whnf
  go_wp2_with fail
  refine HQ.out _ ⟨?_, ?_, fun i hi he => ?_⟩ ?_ 
  · try simp only [put_tmps]
    simp only [Array.size_setIfInBounds, bs]
  · first | (simp only [put_defers, bd]; done) | exact bd | rfl
  · try simp only [put_tmps]
    repeat rw [sl_ne _ (by omega)]
  · try simp only [put_tmps]
    repeat first | rw [sl_ne _ (by decide)] | rw [sl_eq _ (by simp only [Array.size_setIfInBounds, bs]; decide)]
theorem d7 (A : Act) (w : World) (Q : Exit → Act → World → Prop) (k : Nat) (hk : k ≤ 200) (bs : A.tmps.size = 188) (bd : A.defers = []) (f6 : sl A.tmps 6 = .int .i64 k)
    (hQ : ∀ A', NearD 17 6 A A' → sl A'.tmps 6 = .int .i64 ((k : Int) + 1) → Q .normal A' w) :
    Code.wp Try.prog (dpR 7) Q A w := by
  have q3 : IntKind.i64.wrap ((k : Int) + 1) = (k : Int) + 1 := IntWalk.i64_in _ (by omega)
  replace f6 := sl_get f6
  have HQ := Lib.hid hQ
  clear hQ
  conv => arg 2; whnf
  go_wp2_with fail
  refine HQ.out _ ⟨?_, ?_, fun i hi he => ?_⟩ ?_ 
  · try simp only [put_tmps]
    simp only [Array.size_setIfInBounds, bs]
  · first | (simp only [put_defers, bd]; done) | exact bd | rfl
  · try simp only [put_tmps]
    repeat rw [sl_ne _ (by omega)]
  · try simp only [put_tmps]
    repeat first | rw [sl_ne _ (by decide)] | rw [sl_eq _ (by simp only [Array.size_setIfInBounds, bs]; decide)]
theorem d8 (A : Act) (w : World) (Q : Exit → Act → World → Prop) (A5 : Option Addr) (n5 c5 : Nat) (bs : A.tmps.size = 188) (bd : A.defers = []) (f5 : sl A.tmps 5 = .slice A5 n5 c5)
    (hQ : ∀ A', NearD 17 7 A A' → sl A'.tmps 7 = .int .i64 (n5 : Int) → Q .normal A' w) :
    Code.wp Try.prog (dpR 8) Q A w := by
  replace f5 := sl_get f5
  have HQ := Lib.hid hQ
  clear hQ
  conv => arg 2; whnf
  go_wp2_with fail
  refine HQ.out _ ⟨?_, ?_, fun i hi he => ?_⟩ ?_ 
  · try simp only [put_tmps]
    simp only [Array.size_setIfInBounds, bs]
  · first | (simp only [put_defers, bd]; done) | exact bd | rfl
  · try simp only [put_tmps]
    repeat rw [sl_ne _ (by omega)]
  · try simp only [put_tmps]
    repeat first | rw [sl_ne _ (by decide)] | rw [sl_eq _ (by simp only [Array.size_setIfInBounds, bs]; decide)]
theorem d9 (A : Act) (w : World) (Q : Exit → Act → World → Prop) (wx : World) (k n cap ba oa bh bz : Nat) (act : ActD) (hlt : k < n) (hn : n ≤ 120) (HC : ∀ w', Below wx.heap.size wx w' → ActC ba (oa + k * 3) act w')
    (L : LD A (.slice (some ⟨ba, oa, none⟩) n cap) bh bz) (row : Value) (l : List Int) (hl : l.length ≤ 1000) (f5 : sl A.tmps 5 = row) (f6 : sl A.tmps 6 = .int .i64 k) (HI : DInv wx (ptrB bh) l (ptrB bz) l row l w) 
    (hQ : ∀ A', NearD 17 8 A A' → sl A'.tmps 8 = .bool (hasI l act.n) → Q .normal A' w) :
    Code.wp Try.prog (dpR 9) Q A w := by
  obtain ⟨j0, j1, j2⟩ := HC w HI.bel
  have CT := Lib.hid (irhas act.n (by omega) HI)
  generalize hasI l act.n = hs at *
  have i0k : (0 : Int) ≤ (k : Int) := by omega
  have i1k : (k : Int) < (n : Int) := by omega
  have i2k : (n : Int) ≤ 120 := by omega
  obtain ⟨bs, bd, l0, l3, l4⟩ := L
  have f0 := sl_get l0
  have f3 := sl_get l3
  have f4 := sl_get l4
  clear l0 l3 l4
  replace f5 := sl_get f5
  replace f6 := sl_get f6
  have HQ := Lib.hid hQ
  clear hQ
  clear j0 j2 HI
  conv => arg 2; whnf
  go_wp2_with fail
  refine CT.out.mono ?_; rintro e w2 ⟨rfl, rfl⟩
  clear CT
  go_wp2_with fail
  refine HQ.out _ ⟨?_, ?_, fun i hi he => ?_⟩ ?_ 
  · try simp only [put_tmps]
    simp only [Array.size_setIfInBounds, bs]
  · first | (simp only [put_defers, bd]; done) | exact bd | rfl
  · try simp only [put_tmps]
    repeat rw [sl_ne _ (by omega)]
  · try simp only [put_tmps]
    repeat first | rw [sl_ne _ (by decide)] | rw [sl_eq _ (by simp only [Array.size_setIfInBounds, bs]; decide)]
theorem d10 (A : Act) (w : World) (Q : Exit → Act → World → Prop) (wx : World) (k n cap ba oa bh bz : Nat) (act : ActD) (hlt : k < n) (hn : n ≤ 120) (HC : ∀ w', Below wx.heap.size wx w' → ActC ba (oa + k * 3) act w')
    (L : LD A (.slice (some ⟨ba, oa, none⟩) n cap) bh bz) (f6 : sl A.tmps 6 = .int .i64 k) (hb : Below wx.heap.size wx w)
    (hQ : ∀ A', NearD 17 188 A A' → sl A'.tmps 36 = .int .i64 act.kind → Q .normal A' w) :
    Code.wp Try.prog (dpR 10) Q A w := by
  obtain ⟨j0, j1, j2⟩ := HC w hb
  have i0k : (0 : Int) ≤ (k : Int) := by omega
  have i1k : (k : Int) < (n : Int) := by omega
  have i2k : (n : Int) ≤ 120 := by omega
  obtain ⟨bs, bd, l0, l3, l4⟩ := L
  have f0 := sl_get l0
  have f3 := sl_get l3
  have f4 := sl_get l4
  clear l0 l3 l4
  replace f6 := sl_get f6
  have HQ := Lib.hid hQ
  clear hQ
  clear j1 j2
  conv => arg 2; whnf
  go_wp2_with fail
  refine HQ.out _ ⟨?_, ?_, fun i hi he => ?_⟩ ?_ 
  · try simp only [put_tmps]
    simp only [Array.size_setIfInBounds, bs]
  · first | (simp only [put_defers, bd]; done) | exact bd | rfl
  · try simp only [put_tmps]
    repeat rw [sl_ne _ (by omega)]
  · try simp only [put_tmps]
    repeat first | rw [sl_ne _ (by decide)] | rw [sl_eq _ (by simp only [Array.size_setIfInBounds, bs]; decide)]
theorem d11 (A : Act) (w : World) (Q : Exit → Act → World → Prop) (kind : Int) (b : Bool) (hb : (kind == 1) = b) (bs : A.tmps.size = 188) (bd : A.defers = []) (f36 : sl A.tmps 36 = .int .i64 kind)
    (hQ : ∀ A', NearD 37 188 A A' → sl A'.tmps 37 = .bool b → Q .normal A' w) :
    Code.wp Try.prog (dpR 11) Q A w := by
  replace f36 := sl_get f36
  have HQ := Lib.hid hQ
  clear hQ
  conv => arg 2; whnf
  go_wp2_with fail
  refine HQ.out _ ⟨?_, ?_, fun i hi he => ?_⟩ ?_ 
  · try simp only [put_tmps]
    simp only [Array.size_setIfInBounds, bs]
  · first | (simp only [put_defers, bd]; done) | exact bd | rfl
  · try simp only [put_tmps]
    repeat rw [sl_ne _ (by omega)]
  · try simp only [put_tmps]
    repeat first | rw [sl_ne _ (by decide)] | rw [sl_eq _ (by simp only [Array.size_setIfInBounds, bs]; decide)]
theorem d15 (A : Act) (w : World) (Q : Exit → Act → World → Prop) (kind : Int) (b : Bool) (hb : (kind == 2) = b) (bs : A.tmps.size = 188) (bd : A.defers = []) (f36 : sl A.tmps 36 = .int .i64 kind)
    (hQ : ∀ A', NearD 37 188 A A' → sl A'.tmps 90 = .bool b → Q .normal A' w) :
    Code.wp Try.prog (dpR 15) Q A w := by
  replace f36 := sl_get f36
  have HQ := Lib.hid hQ
  clear hQ
  conv => arg 2; whnf
  go_wp2_with fail
  refine HQ.out _ ⟨?_, ?_, fun i hi he => ?_⟩ ?_ 
  · try simp only [put_tmps]
    simp only [Array.size_setIfInBounds, bs]
  · first | (simp only [put_defers, bd]; done) | exact bd | rfl
  · try simp only [put_tmps]
    repeat rw [sl_ne _ (by omega)]
  · try simp only [put_tmps]
    repeat first | rw [sl_ne _ (by decide)] | rw [sl_eq _ (by simp only [Array.size_setIfInBounds, bs]; decide)]
theorem d19 (A : Act) (w : World) (Q : Exit → Act → World → Prop) (kind : Int) (b : Bool) (hb : (kind == 3) = b) (bs : A.tmps.size = 188) (bd : A.defers = []) (f36 : sl A.tmps 36 = .int .i64 kind)
    (hQ : ∀ A', NearD 37 188 A A' → sl A'.tmps 119 = .bool b → Q .normal A' w) :
    Code.wp Try.prog (dpR 19) Q A w := by
  replace f36 := sl_get f36
  have HQ := Lib.hid hQ
  clear hQ
  conv => arg 2; whnf
  go_wp2_with fail
  refine HQ.out _ ⟨?_, ?_, fun i hi he => ?_⟩ ?_ 
  · try simp only [put_tmps]
    simp only [Array.size_setIfInBounds, bs]
  · first | (simp only [put_defers, bd]; done) | exact bd | rfl
  · try simp only [put_tmps]
    repeat rw [sl_ne _ (by omega)]
  · try simp only [put_tmps]
    repeat first | rw [sl_ne _ (by decide)] | rw [sl_eq _ (by simp only [Array.size_setIfInBounds, bs]; decide)]
theorem d22 (A : Act) (w : World) (Q : Exit → Act → World → Prop) (bs : A.tmps.size = 188) (bd : A.defers = [])
    (hQ : ∀ A', NearD 17 5 A A' → sl A'.tmps 5 = .slice none 0 0 → Q .normal A' w) :
    Code.wp Try.prog (dpR 22) Q A w := by
  have HQ := Lib.hid hQ
  clear hQ
  conv => arg 2; whnf
  go_wp2_with fail
  refine HQ.out _ ⟨?_, ?_, fun i hi he => ?_⟩ ?_ 
  · try simp only [put_tmps]
    simp only [Array.size_setIfInBounds, bs]
  · first | (simp only [put_defers, bd]; done) | exact bd | rfl
  · try simp only [put_tmps]
    repeat rw [sl_ne _ (by omega)]
  · try simp only [put_tmps]
    repeat first | rw [sl_ne _ (by decide)] | rw [sl_eq _ (by simp only [Array.size_setIfInBounds, bs]; decide)]
theorem d16 (A : Act) (w : World) (Q : Exit → Act → World → Prop) (wx : World) (k n cap ba oa bh bz : Nat) (act : ActD) (hlt : k < n) (hn : n ≤ 120) (HC : ∀ w', Below wx.heap.size wx w' → ActC ba (oa + k * 3) act w')
    (L : LD A (.slice (some ⟨ba, oa, none⟩) n cap) bh bz) (row : Value) (l l1 : List Int) (hl : l.length ≤ 1000) (f5 : sl A.tmps 5 = row) (f6 : sl A.tmps 6 = .int .i64 k) (HI : DInv wx (ptrB bh) l1 (ptrB bz) l1 row l w) 
    (hQ : ∀ A' w' row', NearD 17 5 A A' → sl A'.tmps 5 = row' → DInv wx (ptrB bh) l1 (ptrB bz) l1 row' (dropI l act.n) w' → Q .normal A' w') :
    Code.wp Try.prog (dpR 16) Q A w := by
  obtain ⟨j0, j1, j2⟩ := HC w HI.bel
  have CT := Lib.hid (irdrop act.n (by omega) HI)
  have i0k : (0 : Int) ≤ (k : Int) := by omega
  have i1k : (k : Int) < (n : Int) := by omega
  have i2k : (n : Int) ≤ 120 := by omega
  obtain ⟨bs, bd, l0, l3, l4⟩ := L
  have f0 := sl_get l0
  have f3 := sl_get l3
  have f4 := sl_get l4
  clear l0 l3 l4
  replace f5 := sl_get f5
  replace f6 := sl_get f6
  have HQ := Lib.hid hQ
  clear hQ
  clear j0 j2 HI
  conv => arg 2; whnf
  go_wp2_with fail
  refine CT.out.mono ?_; rintro e w2 ⟨v2, rfl, hI2⟩
  have HI2 := Lib.hid hI2
  clear CT hI2
  go_wp2_with fail
  refine HQ.out _ _ v2 ⟨?_, ?_, fun i hi he => ?_⟩ ?_ HI2.out
  · try simp only [put_tmps]
    simp only [Array.size_setIfInBounds, bs]
  · first | (simp only [put_defers, bd]; done) | exact bd | rfl
  · try simp only [put_tmps]
    repeat rw [sl_ne _ (by omega)]
  · try simp only [put_tmps]
    repeat first | rw [sl_ne _ (by decide)] | rw [sl_eq _ (by simp only [Array.size_setIfInBounds, bs]; decide)]
theorem d17 (A : Act) (w : World) (Q : Exit → Act → World → Prop) (wx : World) (k n cap ba oa bh bz : Nat) (act : ActD) (hlt : k < n) (hn : n ≤ 120) (HC : ∀ w', Below wx.heap.size wx w' → ActC ba (oa + k * 3) act w')
    (L : LD A (.slice (some ⟨ba, oa, none⟩) n cap) bh bz) (row : Value) (l l3 : List Int) (hok : inI act.n) (f6 : sl A.tmps 6 = .int .i64 k) (f8 : sl A.tmps 8 = .bool (hasI l act.n)) (HI : DInv wx (ptrB bh) l (ptrB bz) l row l3 w) 
    (hQ : ∀ A' w', NearD 17 188 A A' → sl A'.tmps 118 = .bool false → DInv wx (ptrB bh) (dropI l act.n) (ptrB bz) (dropI l act.n) row l3 w' → Q .normal A' w') :
    Code.wp Try.prog (dpR 17) Q A w := by
  obtain ⟨j0, j1, j2⟩ := HC w HI.bel
  have CH := Lib.hid (idclean_h act.n hok HI)
  have CZ := Lib.hid (fun w2 l1 (h : DInv wx (ptrB bh) l1 (ptrB bz) l row l3 w2) => idclean_z act.n hok h)
  have HCY := Lib.hid (show ∀ w', Below wx.heap.size wx w' → w'.cell? ⟨ba, oa + k * 3 + 1, none⟩ = some (.int .i64 act.n) from fun w' hb => (HC w' hb).2.1)
  generalize hasI l act.n = hs at *
  have i0k : (0 : Int) ≤ (k : Int) := by omega
  have i1k : (k : Int) < (n : Int) := by omega
  have i2k : (n : Int) ≤ 120 := by omega
  obtain ⟨bs, bd, l0, l3, l4⟩ := L
  have f0 := sl_get l0
  have f3 := sl_get l3
  have f4 := sl_get l4
  clear l0 l3 l4
  replace f6 := sl_get f6
  replace f8 := sl_get f8
  have HQ := Lib.hid hQ
  clear hQ
  clear j0 j2 HI HC
  conv => arg 2; whnf
  cases hs
  all_goals
    go_wp2_with fail
    refine CH.out.mono ?_; rintro e w2 ⟨rfl, hI2⟩
    have C2 := Lib.hid (CZ.out _ _ hI2)
    have y1 := HCY.out w2 hI2.bel
    clear hI2 CH CZ j1
    go_wp2_with fail
    refine C2.out.mono ?_; rintro e w3 ⟨rfl, hI3⟩
    have HI3 := Lib.hid hI3
    clear hI3 C2 y1
    go_wp2_with fail
    refine HQ.out _ _ ⟨?_, ?_, fun i hi he => ?_⟩ ?_ HI3.out
    · try simp only [put_tmps]
      simp only [Array.size_setIfInBounds, bs]
    · first | (simp only [put_defers, bd]; done) | exact bd | rfl
    · try simp only [put_tmps]
      repeat rw [sl_ne _ (by omega)]
    · try simp only [put_tmps]
      repeat first | rw [sl_ne _ (by decide)] | rw [sl_eq _ (by simp only [Array.size_setIfInBounds, bs]; decide)]
theorem d20 (A : Act) (w : World) (Q : Exit → Act → World → Prop) (wx : World) (bh bz : Nat) (av : Value) (L : LD A av bh bz) (row : Value) (l : List Int) (hl : l.length ≤ 1000) (f5 : sl A.tmps 5 = row) (HI : DInv wx (ptrB bh) l (ptrB bz) l row l w) 
    (hQ : ∀ A' w', NearD 17 188 A A' → sl A'.tmps 132 = .bool false → DInv wx (ptrB bh) [] (ptrB bz) [] row l w' → Q .normal A' w') :
    Code.wp Try.prog (dpR 20) Q A w := by
  obtain ⟨K0, hrd0⟩ := HI.rd
  obtain ⟨AR, c, rfl, hc, _⟩ := HI.form
  have CH := Lib.hid (idrain_h (by omega) HI)
  have CZ := Lib.hid (fun w2 (h : DInv wx (ptrB bh) [] (ptrB bz) l (.slice AR l.length c) l w2) => idrain_z (by omega) h)
  have SM := Lib.hid (fun u K (w2 : World) (hr : RdI w2 K u l) (h : DInv wx (ptrB bh) [] (ptrB bz) l (.slice AR l.length c) l w2) => (isame_bel u _ l _ _ w2 (by omega) hr h.rd.choose_spec))
  have SZ := Lib.hid (fun u K (w2 : World) (hr : RdI w2 K u l) (h : DInv wx (ptrB bh) [] (ptrB bz) [] (.slice AR l.length c) l w2) => (isame_bel u _ l _ _ w2 (by omega) hr h.rd.choose_spec))
  obtain ⟨bs, bd, l0, l3, l4⟩ := L
  have f0 := sl_get l0
  have f3 := sl_get l3
  have f4 := sl_get l4
  clear l0 l3 l4
  replace f5 := sl_get f5
  have HQ := Lib.hid hQ
  clear hQ
  clear HI hrd0
  conv => arg 2; whnf
  go_wp2_with fail
  refine CH.out.mono ?_; rintro e w2 ⟨u2, rfl, hr2, hI2, _⟩
  have S2 := Lib.hid (SM.out _ _ _ hr2 hI2)
  have HI2 := Lib.hid hI2
  clear hr2 hI2 CH
  go_wp2_with fail
  refine S2.out.mono ?_; rintro e w3 ⟨rfl, hb3⟩
  have C3 := Lib.hid (CZ.out _ (HI2.out.below hb3))
  clear hb3 HI2 S2 CZ
  go_wp2_with fail
  refine C3.out.mono ?_; rintro e w4 ⟨u4, rfl, hr4, hI4⟩
  have S4 := Lib.hid (SZ.out _ _ _ hr4 hI4)
  have HI4 := Lib.hid hI4
  clear hr4 hI4 C3
  go_wp2_with fail
  refine S4.out.mono ?_; rintro e w5 ⟨rfl, hb5⟩
  have HI5 := Lib.hid (HI4.out.below hb5)
  clear hb5 HI4 S4
  go_wp2_with fail
  refine HQ.out _ _ ⟨?_, ?_, fun i hi he => ?_⟩ ?_ HI5.out
  · try simp only [put_tmps]
    simp only [Array.size_setIfInBounds, bs]
  · first | (simp only [put_defers, bd]; done) | exact bd | rfl
  · try simp only [put_tmps]
    repeat rw [sl_ne _ (by omega)]
  · try simp only [put_tmps]
    repeat first | rw [sl_ne _ (by decide)] | rw [sl_eq _ (by simp only [Array.size_setIfInBounds, bs]; decide)]
theorem d12 (A : Act) (w : World) (Q : Exit → Act → World → Prop) (wx : World) (k n cap ba oa bh bz : Nat) (act : ActD) (hlt : k < n) (hn : n ≤ 120) (HC : ∀ w', Below wx.heap.size wx w' → ActC ba (oa + k * 3) act w')
    (L : LD A (.slice (some ⟨ba, oa, none⟩) n cap) bh bz) (row : Value) (l l1 : List Int) (hl : l.length ≤ 1000) (f5 : sl A.tmps 5 = row) (f6 : sl A.tmps 6 = .int .i64 k) (HI : DInv wx (ptrB bh) l1 (ptrB bz) l1 row l w) 
    (hQ : ∀ A' w' row', NearD 17 5 A A' → sl A'.tmps 5 = row' → DInv wx (ptrB bh) l1 (ptrB bz) l1 row' (putI (putI l act.n) act.m) w' → Q .normal A' w') :
    Code.wp Try.prog (dpR 12) Q A w := by
  have HCY := Lib.hid (show ∀ w', Below w.heap.size w w' → _ from fun w' hb => HC w' (HI.bel.trans (hb.mono HI.bel.size)))
  unfold ActC at HCY
  have P1 := Lib.hid (show ∀ w', Below w.heap.size w w' → Calls Try.prog 8 #[row, .int .i64 act.n] w' fun e w2 => ∃ v, e = .returned v ∧ DInv wx (ptrB bh) l1 (ptrB bz) l1 v (putI l act.n) w2 ∧ Below w'.heap.size w' w2 from fun w' hb => irput act.n (by omega) (HI.below hb))
  have P2 := Lib.hid (show ∀ v w', DInv wx (ptrB bh) l1 (ptrB bz) l1 v (putI l act.n) w' → Calls Try.prog 8 #[v, .int .i64 act.m] w' fun e w2 => ∃ u, e = .returned u ∧ DInv wx (ptrB bh) l1 (ptrB bz) l1 u (putI (putI l act.n) act.m) w2 ∧ Below w'.heap.size w' w2 from fun v w' h => irput act.m (by have := putI_len_le l act.n; omega) h)
  have KB : Kept (fun w' => Below w.heap.size w w') := fun w1 w2 h hb => h.trans (hb.mono h.size)
  have i0k : (0 : Int) ≤ (k : Int) := by omega
  have i1k : (k : Int) < (n : Int) := by omega
  have i2k : (n : Int) ≤ 120 := by omega
  obtain ⟨bs, bd, l0, l3, l4⟩ := L
  have f0 := sl_get l0
  have f3 := sl_get l3
  have f4 := sl_get l4
  clear l0 l3 l4
  replace f5 := sl_get f5
  replace f6 := sl_get f6
  have HQ := Lib.hid hQ
  clear hQ
  clear HI HC
  conv => arg 2; whnf
  refine wp_region_holdW (fun _ _ _ => True) (fun _ _ _ _ _ _ => trivial) (fun w' => Below w.heap.size w w') (by kernel_rfl) (by kernel_rfl) KB ⟨rfl, rfl, rfl, Nat.le_refl _, fun _ _ => rfl⟩ (fun hK => ?_)
  repeat
    first
    | (refine holdW_val (v := ?_) (by rfl) hK (by rfl) ?_ ?_ ?_
       rotate_left
       · first
         | (simp [Region.wanted]; done)
         | (simp [Region.wanted, yielded, Act.put, bs]; done)
       · (intro w' hS
          obtain ⟨_, _, _⟩ := HCY.out w' hS
          go_simp
          try with_reducible rfl))
    | (refine holdW_some (fun v w' => DInv wx (ptrB bh) l1 (ptrB bz) l1 v (putI l act.n) w') (fun v => kept_dinv) (by rfl) hK (by rfl) ?_ ?_ (fun w' hS => P1.out w' hS) ?_
       · first
         | (simp [Region.wanted]; done)
         | (simp [Region.wanted, yielded, Act.put, bs]; done)
       · (intro w' hS; go_simp; done)
       clear hK
       intro v1 hK)
    | (refine holdW_some1 6 _ (fun v w' => DInv wx (ptrB bh) l1 (ptrB bz) l1 v (putI (putI l act.n) act.m) w') (fun v => kept_dinv) rfl (List.mem_cons_self ..) (by kernel_rfl) (by rfl) hK (by rfl) ?_ ?_ (fun w' hS h1 => P2.out _ w' h1) ?_
       · first
         | (simp [Region.wanted]; done)
         | (simp [Region.wanted, yielded, Act.put, bs]; done)
       · (intro w' hS; go_simp; done)
       clear hK
       intro v2 hK)
  refine holdW_nil (fun w3 hS hE => ?_)
  have HI3 := Lib.hid (hE _ (List.mem_cons_self ..) (by simp))
  clear hS hE hK P1 P2 KB HCY
  refine HQ.out _ _ v2 ⟨?_, ?_, fun i hi he => ?_⟩ ?_ HI3.out
  · try simp only [put_tmps]
    simp only [Array.size_setIfInBounds, bs]
  · first | (simp only [put_defers, bd]; done) | exact bd | rfl
  · try simp only [put_tmps]
    repeat rw [sl_ne _ (by omega)]
  · try simp only [put_tmps]
    repeat first | rw [sl_ne _ (by decide)] | rw [sl_eq _ (by simp only [Array.size_setIfInBounds, bs]; decide)]
theorem d23 (A : Act) (w : World) (Q : Exit → Act → World → Prop) (wx : World) (k n cap ba oa bh bz : Nat) (act : ActD) (hlt : k < n) (hn : n ≤ 120) (HC : ∀ w', Below wx.heap.size wx w' → ActC ba (oa + k * 3) act w')
    (L : LD A (.slice (some ⟨ba, oa, none⟩) n cap) bh bz) (row : Value) (l : List Int) (hl : l.length ≤ 1000) (hok : inI act.m) (f5 : sl A.tmps 5 = row) (f6 : sl A.tmps 6 = .int .i64 k) (HI : DInv wx (ptrB bh) l (ptrB bz) l row l w) 
    (hQ : ∀ A' w', NearD 17 188 A A' → sl A'.tmps 161 = .bool false → Below w.heap.size w w' → Q .normal A' w') :
    Code.wp Try.prog (dpR 23) Q A w := by
  have HCY := Lib.hid (show ∀ w', Below w.heap.size w w' → _ from fun w' hb => HC w' (HI.bel.trans (hb.mono HI.bel.size)))
  unfold ActC at HCY
  obtain ⟨AR, c, rfl, hc, _⟩ := HI.form
  have C1 := Lib.hid (show ∀ w', Below w.heap.size w w' → Calls Try.prog 14 #[ptrB bh, .int .i64 act.m] w' fun e w2 => e = .returned (.bool (hasI l act.m)) ∧ Below w.heap.size w w2 from fun w' hb => (idhas_h act.m hok (HI.below hb)).mono fun e w2 ⟨he, hw⟩ => ⟨he, by rw [← hw]; exact hb⟩)
  have C2 := Lib.hid (show ∀ w', Below w.heap.size w w' → Calls Try.prog 7 #[.slice AR l.length c, .int .i64 act.m] w' fun e w2 => e = .returned (.bool (hasI l act.m)) ∧ Below w.heap.size w w2 from fun w' hb => (irhas act.m (by omega) (HI.below hb)).mono fun e w2 ⟨he, hw⟩ => ⟨he, by rw [← hw]; exact hb⟩)
  have C3 := Lib.hid (show ∀ w', Below w.heap.size w w' → Calls Try.prog 15 #[ptrB bh] w' fun e w2 => e = .returned (.int .i64 l.length) ∧ Below w.heap.size w w2 from fun w' hb => (idlen_h (HI.below hb)).mono fun e w2 ⟨he, hw⟩ => ⟨he, by rw [← hw]; exact hb⟩)
  have C4 := Lib.hid (show ∀ w', Below w.heap.size w w' → Calls Try.prog 15 #[ptrB bz] w' fun e w2 => e = .returned (.int .i64 l.length) ∧ Below w.heap.size w w2 from fun w' hb => (idlen_z (HI.below hb)).mono fun e w2 ⟨he, hw⟩ => ⟨he, by rw [← hw]; exact hb⟩)
  have e5 : ((l.length : Int) != (l.length : Int)) = false := by simp
  generalize hasI l act.m = hs at *
  have i0k : (0 : Int) ≤ (k : Int) := by omega
  have i1k : (k : Int) < (n : Int) := by omega
  have i2k : (n : Int) ≤ 120 := by omega
  obtain ⟨bs, bd, l0, l3, l4⟩ := L
  have f0 := sl_get l0
  have f3 := sl_get l3
  have f4 := sl_get l4
  clear l0 l3 l4
  replace f5 := sl_get f5
  replace f6 := sl_get f6
  have HQ := Lib.hid hQ
  clear hQ
  clear HI HC
  conv => arg 2; whnf
  cases hs
  all_goals
    refine wp_region_hold (fun w' => Below w.heap.size w w') (by kernel_rfl) (by kernel_rfl) ⟨rfl, rfl, rfl, Nat.le_refl _, fun _ _ => rfl⟩ ?_
    repeat
      first
      | (refine hold_val (v := ?_) ?_ ?_ ?_
         rotate_left
         · first
           | (simp [Region.wanted]; done)
           | (simp [Region.wanted, yielded, Act.put, bs]; done)
         · (intro w' hS
            obtain ⟨_, _, _⟩ := HCY.out w' hS
            go_simp
            try with_reducible rfl))
      | (refine hold_skip ?_ ?_
         · (simp [Region.wanted, yielded, Act.put, bs]; done))
      | (refine hold_call ?_ ?_ (fun w' hS => C1.out w' hS) ?_
         · first
           | (simp [Region.wanted]; done)
           | (simp [Region.wanted, yielded, Act.put, bs]; done)
         · (intro w' hS; go_simp; done))
      | (refine hold_call ?_ ?_ (fun w' hS => C2.out w' hS) ?_
         · first
           | (simp [Region.wanted]; done)
           | (simp [Region.wanted, yielded, Act.put, bs]; done)
         · (intro w' hS; go_simp; done))
      | (refine hold_call ?_ ?_ (fun w' hS => C3.out w' hS) ?_
         · first
           | (simp [Region.wanted]; done)
           | (simp [Region.wanted, yielded, Act.put, bs]; done)
         · (intro w' hS; go_simp; done))
      | (refine hold_call ?_ ?_ (fun w' hS => C4.out w' hS) ?_
         · first
           | (simp [Region.wanted]; done)
           | (simp [Region.wanted, yielded, Act.put, bs]; done)
         · (intro w' hS; go_simp; done))
    refine hold_nil (fun w3 hS => ?_)
    have HS := Lib.hid hS
    clear hS
    refine HQ.out _ _ ⟨?_, ?_, fun i hi he => ?_⟩ ?_ HS.out
    · try simp only [put_tmps]
      simp only [Array.size_setIfInBounds, bs]
    · first | (simp only [put_defers, bd]; done) | exact bd | rfl
    · try simp only [put_tmps]
      repeat rw [sl_ne _ (by omega)]
    · try simp only [put_tmps]
      repeat first | rw [sl_ne _ (by decide)] | rw [sl_eq _ (by simp only [Array.size_setIfInBounds, bs]; decide)]
theorem d13 (A : Act) (w : World) (Q : Exit → Act → World → Prop) (wx : World) (k n cap ba oa bh bz : Nat) (act : ActD) (hlt : k < n) (hn : n ≤ 120) (HC : ∀ w', Below wx.heap.size wx w' → ActC ba (oa + k * 3) act w')
    (L : LD A (.slice (some ⟨ba, oa, none⟩) n cap) bh bz) (l l3 : List Int) (row : Value) (hl : l.length ≤ 1000) (hok : act.ok) (h3 : l3 = putsI l [act.n, act.m]) (f5 : sl A.tmps 5 = row) (f6 : sl A.tmps 6 = .int .i64 k) (f7 : sl A.tmps 7 = .int .i64 l.length) (HI : DInv wx (ptrB bh) l (ptrB bz) l row l3 w) 
    (hQ : ∀ A' w', NearD 17 188 A A' → sl A'.tmps 89 = .bool false → DInv wx (ptrB bh) (putsI l [act.n, act.m]) (ptrB bz) (putsI l [act.n, act.m]) row l3 w' → Q .normal A' w') :
    Code.wp Try.prog (dpR 13) Q A w := by
  obtain ⟨AR, c, rfl, hc, _⟩ := HI.form
  have hin : ∀ x ∈ [act.n, act.m], inI x := fun x hx => by
    rcases List.mem_cons.1 hx with rfl | hx
    · exact hok.1
    · rcases List.mem_cons.1 hx with rfl | hx
      · exact hok.2
      · cases hx
  have hple := putsI_len_le [act.n, act.m] l
  have ht : ((l3.length : Int) - (l.length : Int)) = ((putsI l [act.n, act.m]).length : Int) - (l.length : Int) := by rw [h3]
  have MH := Lib.hid (show ∀ v w', D13 wx (ptrB bh) (ptrB bz) (.slice AR l3.length c) l l l3 act.n act.m 1 v 1 w' → Calls Try.prog 9 #[ptrB bh, v] w' fun e w2 => e = .returned (.int .i64 (((putsI l [act.n, act.m]).length : Int) - (l.length : Int))) ∧ DInv wx (ptrB bh) (putsI l [act.n, act.m]) (ptrB bz) l (.slice AR l3.length c) l3 w2 from fun v w' h => by
    obtain ⟨w0, h0, rfl, rfl⟩ := h rfl
    exact idmark2_h (ns := [act.n, act.m]) rfl (by omega) (by simp) hin h0)
  have MZ := Lib.hid (show ∀ v w', D13 wx (ptrB bh) (ptrB bz) (.slice AR l3.length c) (putsI l [act.n, act.m]) l l3 act.n act.m 3 v 3 w' → Calls Try.prog 9 #[ptrB bz, v] w' fun e w2 => e = .returned (.int .i64 (((putsI l [act.n, act.m]).length : Int) - (l.length : Int))) ∧ DInv wx (ptrB bh) (putsI l [act.n, act.m]) (ptrB bz) (putsI l [act.n, act.m]) (.slice AR l3.length c) l3 w2 from fun v w' h => by
    obtain ⟨w0, h0, rfl, rfl⟩ := h rfl
    exact idmark2_z (ns := [act.n, act.m]) rfl (by omega) (by simp) hin h0)
  have HCY := Lib.hid (show ∀ p w', C13 wx (ptrB bh) (ptrB bz) (.slice AR l3.length c) l (putsI l [act.n, act.m]) l3 p w' → _ from fun p w' hC => HC w' (c13_bel hC))
  unfold ActC at HCY
  generalize putsI l [act.n, act.m] = lp at *
  have q1 : IntKind.i64.wrap ((l3.length : Int) - (l.length : Int)) = (lp.length : Int) - (l.length : Int) := by rw [IntWalk.i64_in _ (by simp at hple; omega)]; exact ht
  have e5 : ((((lp.length : Int) - (l.length : Int))) != (((lp.length : Int) - (l.length : Int)))) = false := by simp
  have HI0 := Lib.hid (HI.below (w' := w.drew) ⟨rfl, rfl, rfl, Nat.le_refl _, fun _ _ => rfl⟩)
  have i0k : (0 : Int) ≤ (k : Int) := by omega
  have i1k : (k : Int) < (n : Int) := by omega
  have i2k : (n : Int) ≤ 120 := by omega
  obtain ⟨bs, bd, l0, l3, l4⟩ := L
  have f0 := sl_get l0
  have f3 := sl_get l3
  have f4 := sl_get l4
  clear l0 l3 l4
  replace f5 := sl_get f5
  replace f6 := sl_get f6
  replace f7 := sl_get f7
  have HQ := Lib.hid hQ
  clear hQ
  clear HI HC hc hin ht hple h3
  conv => arg 2; whnf
  refine wp_region_holdP [11, 12, 30, 31] (C13 wx (ptrB bh) (ptrB bz) (.slice AR l3.length c) l lp l3) (by kernel_rfl) (by kernel_rfl) HI0.out ?_
  repeat
    first
    | (refine holdP_val (v := ?_) (by rfl) ?_ ?_ ?_
       rotate_left
       · first
         | (simp [Region.wanted]; done)
         | (simp [Region.wanted, yielded, Act.put, bs]; done)
       · (intro p w' hC
          obtain ⟨_, _, _⟩ := (by first | exact HCY.out p w' hC | exact HCY.out p w' hC.1 | exact HCY.out p w' hC.1.1 : _ ∧ _ ∧ _)
          go_simp
          try with_reducible rfl))
    | (refine holdP_make 0 (D13 wx (ptrB bh) (ptrB bz) (.slice AR l3.length c) l l l3 act.n act.m 1) rfl ?_ (fun w' hC => ?_) (fun v1 => ?_)
       · first
         | (simp [Region.wanted]; done)
         | (simp [Region.wanted, yielded, Act.put, bs]; done)
       · (refine ⟨.slice (some ⟨w'.heap.size, 0, none⟩) 2 2, w'.alloc (.cells #[.int .i64 act.n, .int .i64 act.m] 3), ?_, (DInv.bel hC).alloc (DInv.bel hC).size _, fun _ => ⟨w', hC, rfl, rfl⟩⟩
          go_simp; done))
    | (refine holdP_make 2 (D13 wx (ptrB bh) (ptrB bz) (.slice AR l3.length c) lp l l3 act.n act.m 3) rfl ?_ (fun w' hC => ?_) (fun v2 => ?_)
       · first
         | (simp [Region.wanted]; done)
         | (simp [Region.wanted, yielded, Act.put, bs]; done)
       · (refine ⟨.slice (some ⟨w'.heap.size, 0, none⟩) 2 2, w'.alloc (.cells #[.int .i64 act.n, .int .i64 act.m] 3), ?_, ⟨(DInv.bel hC.1).alloc (DInv.bel hC.1).size _, fun _ h => by cases h⟩, fun _ => ⟨w', hC.1, rfl, rfl⟩⟩
          go_simp; done))
    | (refine holdP_call 1 rfl ?_ ?_ (fun w' hC => (MH.out _ w' (hC.2 (by omega))).mono fun e w2 ⟨he, hI⟩ => ⟨he, hI, fun _ h => by cases h⟩) ?_
       · first
         | (simp [Region.wanted]; done)
         | (simp [Region.wanted, yielded, Act.put, bs]; done)
       · (intro w' hC; go_simp; done))
    | (refine holdP_call 3 rfl ?_ ?_ (fun w' hC => (MZ.out _ w' (hC.2 (by omega))).mono fun e w2 ⟨he, hI⟩ => ⟨he, ⟨hI, fun _ h => by cases h⟩, fun _ h => by cases h⟩) ?_
       · first
         | (simp [Region.wanted]; done)
         | (simp [Region.wanted, yielded, Act.put, bs]; done)
       · (intro w' hC; go_simp; done))
  refine holdP_nil (fun w3 hC => ?_)
  have HI3 := Lib.hid hC.1.1
  clear hC MH MZ HI0 HCY
  refine HQ.out _ _ ⟨?_, ?_, fun i hi he => ?_⟩ ?_ HI3.out
  · try simp only [put_tmps]
    simp only [Array.size_setIfInBounds, bs]
  · first | (simp only [put_defers, bd]; done) | exact bd | rfl
  · try simp only [put_tmps]
    repeat rw [sl_ne _ (by omega)]
  · try simp only [put_tmps]
    repeat first | rw [sl_ne _ (by decide)] | rw [sl_eq _ (by simp only [Array.size_setIfInBounds, bs]; decide)]
end Go.Proofs.Ytjncccongbfoiaa
