/- The regions of ClockGoes, a lemma each, the frame a variable. Conditions: as stated. -/
import Derived.Test.YtejepnjgkflooaaCplA
namespace Go.Proofs.Ytejepnjgkflooaa
open Go.ChangeShapes Go.WideShapes Go.ChangeAt Go.RowKit
set_option linter.unusedVariables false
set_option maxRecDepth 100000
set_option linter.unusedSimpArgs false
set_option maxHeartbeats 4000000

theorem c6t (A : Act) (w : World) (Q : Exit → Act → World → Prop) (k n cap : Nat) (a0 : Option Addr) (st : Int) (vh vz : Value) (g : Nat) (hd : decide (k < n) = true) (L : LD A (.slice a0 n cap) st vh vz g) (f8 : sl A.tmps 8 = .int .i64 k)
    (hQ : ∀ A', NearD 9 9 9 A A' → sl A'.tmps 21 = .bool true → Q .normal A' w) :
    Code.wp Try.prog (cpR 6) Q A w := by
  have hd2 : decide ((k : Int) < (n : Int)) = true := by rw [← hd]; exact decide_eq_decide.2 (by omega)
  obtain ⟨bs, bd, l0, l1, l5, l6, l7⟩ := L
  have f0 := sl_get l0
  have f1 := sl_get l1
  have f5 := sl_get l5
  have f6 := sl_get l6
  have f7 := sl_get l7
  clear l0 l1 l5 l6 l7
  replace f8 := sl_get f8
  have HQ := Lib.hid hQ
  clear hQ
  conv => arg 2; whnf
  go_wp2_with fail
  refine HQ.out _ ⟨?_, ?_, fun i hi he => ?_⟩ ?_ 
  · try simp only [put_tmps]
    simp only [Array.size_setIfInBounds, bs]
  · first | (simp only [put_defers, bd]; done) | exact bd | rfl
  · try simp only [put_tmps]
    repeat rw [sl_ne _ (by omega)]
  · try simp only [put_tmps]
    repeat first | rw [sl_ne _ (by decide)] | rw [sl_eq _ (by simp only [Array.size_setIfInBounds, bs]; decide)]
theorem c6f (A : Act) (w : World) (Q : Exit → Act → World → Prop) (k n cap : Nat) (a0 : Option Addr) (st : Int) (vh vz : Value) (g : Nat) (hd : decide (k < n) = false) (L : LD A (.slice a0 n cap) st vh vz g) (f8 : sl A.tmps 8 = .int .i64 k)
    (hQ : ∀ A', NearD 9 9 9 A A' → sl A'.tmps 21 = .bool false → Q .normal A' w) :
    Code.wp Try.prog (cpR 6) Q A w := by
  have hd2 : decide ((k : Int) < (n : Int)) = false := by rw [← hd]; exact decide_eq_decide.2 (by omega)
  obtain ⟨bs, bd, l0, l1, l5, l6, l7⟩ := L
  have f0 := sl_get l0
  have f1 := sl_get l1
  have f5 := sl_get l5
  have f6 := sl_get l6
  have f7 := sl_get l7
  clear l0 l1 l5 l6 l7
  replace f8 := sl_get f8
  have HQ := Lib.hid hQ
  clear hQ
  conv => arg 2; whnf
  go_wp2_with fail
  refine HQ.out _ ⟨?_, ?_, fun i hi he => ?_⟩ ?_ 
  · try simp only [put_tmps]
    simp only [Array.size_setIfInBounds, bs]
  · first | (simp only [put_defers, bd]; done) | exact bd | rfl
  · try simp only [put_tmps]
    repeat rw [sl_ne _ (by omega)]
  · try simp only [put_tmps]
    repeat first | rw [sl_ne _ (by decide)] | rw [sl_eq _ (by simp only [Array.size_setIfInBounds, bs]; decide)]
theorem c7 (A : Act) (w : World) (Q : Exit → Act → World → Prop) (k : Nat) (hk : k ≤ 200) (bs : A.tmps.size = 105) (bd : A.defers = []) (f8 : sl A.tmps 8 = .int .i64 k)
    (hQ : ∀ A', NearD 9 8 9 A A' → sl A'.tmps 8 = .int .i64 ((k : Int) + 1) → Q .normal A' w) :
    Code.wp Try.prog (cpR 7) Q A w := by
  have q3 : IntKind.i64.wrap ((k : Int) + 1) = (k : Int) + 1 := IntWalk.i64_in _ (by omega)
  replace f8 := sl_get f8
  have HQ := Lib.hid hQ
  clear hQ
  conv => arg 2; whnf
  go_wp2_with fail
  refine HQ.out _ ⟨?_, ?_, fun i hi he => ?_⟩ ?_ 
  · try simp only [put_tmps]
    simp only [Array.size_setIfInBounds, bs]
  · first | (simp only [put_defers, bd]; done) | exact bd | rfl
  · try simp only [put_tmps]
    repeat rw [sl_ne _ (by omega)]
  · try simp only [put_tmps]
    repeat first | rw [sl_ne _ (by decide)] | rw [sl_eq _ (by simp only [Array.size_setIfInBounds, bs]; decide)]
theorem c8 (A : Act) (w : World) (Q : Exit → Act → World → Prop) (k : Nat) (st : Int) (av vh vz : Value) (g : Nat) (hk : k ≤ 60) (L : LD A av st vh vz g) (f8 : sl A.tmps 8 = .int .i64 k)
    (hQ : ∀ A' bb, NearD 9 9 9 A A' → sl A'.tmps 28 = .bool bb → Q .normal A' w) :
    Code.wp Try.prog (cpR 8) Q A w := by
  have i0k : (0 : Int) ≤ (k : Int) := by omega
  obtain ⟨bs, bd, l0, l1, l5, l6, l7⟩ := L
  have f0 := sl_get l0
  have f1 := sl_get l1
  have f5 := sl_get l5
  have f6 := sl_get l6
  have f7 := sl_get l7
  clear l0 l1 l5 l6 l7
  replace f8 := sl_get f8
  have HQ := Lib.hid hQ
  clear hQ
  conv => arg 2; whnf
  go_wp2_with fail
  refine HQ.out _ (bits .and .u64 (st / 2 ^ k) 1 == 1) ⟨?_, ?_, fun i hi he => ?_⟩ ?_ 
  · try simp only [put_tmps]
    simp only [Array.size_setIfInBounds, bs]
  · first | (simp only [put_defers, bd]; done) | exact bd | rfl
  · try simp only [put_tmps]
    repeat rw [sl_ne _ (by omega)]
  · try simp only [put_tmps]
    repeat first | rw [sl_ne _ (by decide)] | rw [sl_eq _ (by simp only [Array.size_setIfInBounds, bs]; decide)]
theorem c9 (A : Act) (w : World) (Q : Exit → Act → World → Prop) (wx : World) (bh bz g : Nat) (st : Int) (av : Value) (L : LD A av st (ptrB bh) (ptrB bz) g) (c : Ck) (HI : XI wx g (ptrB bh) c (ptrB bz) c c w)
    (hQ : ∀ A' w', NearD 9 9 9 A A' → sl A'.tmps 40 = .bool false → XI wx g (ptrB bh) ⟨c.t, true⟩ (ptrB bz) ⟨c.t, true⟩ c w' → Q .normal A' w') :
    Code.wp Try.prog (cpR 9) Q A w := by
  have S1 := Lib.hid (fun w' (h : XI wx g (ptrB bh) c (ptrB bz) c c w') => xi_stopc h)
  have S2 := Lib.hid (fun w' (h : XI wx g (ptrB bh) ⟨c.t, true⟩ (ptrB bz) c c w') => xi_stopz h)
  have HI0 := Lib.hid (HI.below (w' := w.drew) ⟨rfl, rfl, rfl, Nat.le_refl _, fun _ _ => rfl⟩)
  obtain ⟨ct, off⟩ := c
  obtain ⟨bs, bd, l0, l1, l5, l6, l7⟩ := L
  have f0 := sl_get l0
  have f1 := sl_get l1
  have f5 := sl_get l5
  have f6 := sl_get l6
  have f7 := sl_get l7
  clear l0 l1 l5 l6 l7
  have HQ := Lib.hid hQ
  clear hQ
  clear HI
  conv => arg 2; whnf
  cases off
  all_goals
    refine wp_region_holdP [1, 7] (C9 wx g (ptrB bh) (ptrB bz) _ ⟨ct, true⟩ _) (by kernel_rfl) (by kernel_rfl) HI0.out ?_
    repeat
      first
      | (refine holdP_val (v := ?_) (by rfl) ?_ ?_ ?_
         rotate_left
         · first
           | (simp [Region.wanted]; done)
           | (simp [Region.wanted, yielded, Act.put, bs]; done)
         · (intro p w' hC
            obtain ⟨_, _, hbb⟩ := c9_cells hC
            clear hbb
            go_simp
            try with_reducible rfl))
      | (refine holdP_call 0 rfl ?_ ?_ (fun w' hC => S1.out w' hC) ?_
         · first
           | (simp [Region.wanted]; done)
           | (simp [Region.wanted, yielded, Act.put, bs]; done)
         · (intro w' hC; go_simp; done))
      | (refine holdP_call 1 rfl ?_ ?_ (fun w' hC => S2.out w' hC) ?_
         · first
           | (simp [Region.wanted]; done)
           | (simp [Region.wanted, yielded, Act.put, bs]; done)
         · (intro w' hC; go_simp; done))
    refine holdP_nil (fun w3 hC => ?_)
    have HI3 := Lib.hid hC
    clear hC S1 S2 HI0
    refine HQ.out _ _ ⟨?_, ?_, fun i hi he => ?_⟩ ?_ HI3.out
    · try simp only [put_tmps]
      simp only [Array.size_setIfInBounds, bs]
    · first | (simp only [put_defers, bd]; done) | exact bd | rfl
    · try simp only [put_tmps]
      repeat rw [sl_ne _ (by omega)]
    · try simp only [put_tmps]
      repeat first | rw [sl_ne _ (by decide)] | rw [sl_eq _ (by simp only [Array.size_setIfInBounds, bs]; decide)]
theorem c11 (A : Act) (w : World) (Q : Exit → Act → World → Prop) (wx : World) (bh bz g : Nat) (st : Int) (av : Value) (L : LD A av st (ptrB bh) (ptrB bz) g) (c x : Ck) (HI : XI wx g (ptrB bh) c (ptrB bz) c x w)
    (hQ : ∀ A' w', NearD 9 9 9 A A' → XI wx g (ptrB bh) c (ptrB bz) c ⟨x.t, true⟩ w' → Q .normal A' w') :
    Code.wp Try.prog (cpR 11) Q A w := by
  have HO := Lib.hid HI.off
  obtain ⟨y0, y1, y2⟩ := HI.cells
  obtain ⟨bs, bd, l0, l1, l5, l6, l7⟩ := L
  have f0 := sl_get l0
  have f1 := sl_get l1
  have f5 := sl_get l5
  have f6 := sl_get l6
  have f7 := sl_get l7
  clear l0 l1 l5 l6 l7
  have HQ := Lib.hid hQ
  clear hQ
  clear HI
  conv => arg 2; whnf
  go_wp2_with fail
  refine HQ.out _ _ ⟨?_, ?_, fun i hi he => ?_⟩  HO.out
  · try simp only [put_tmps]
    simp only [Array.size_setIfInBounds, bs]
  · first | (simp only [put_defers, bd]; done) | exact bd | rfl
  · try simp only [put_tmps]
    repeat rw [sl_ne _ (by omega)]
theorem c12 (A : Act) (w : World) (Q : Exit → Act → World → Prop) (wx : World) (k n cap ba oa bh bz g : Nat) (st y : Int) (hlt : k < n) (hn : n ≤ 60) (HC : ∀ w', Below wx.heap.size wx w' → w'.cell? ⟨ba, oa + k, none⟩ = some (.int .i64 y))
    (L : LD A (.slice (some ⟨ba, oa, none⟩) n cap) st (ptrB bh) (ptrB bz) g) (f8 : sl A.tmps 8 = .int .i64 k) (c x : Ck) (HI : XI wx g (ptrB bh) c (ptrB bz) c x w)
    (hQ : ∀ A' w', NearD 9 9 9 A A' → XI wx g (ptrB bh) c (ptrB bz) c (tickK x y) w' → Q .normal A' w') :
    Code.wp Try.prog (cpR 12) Q A w := by
  have HI0 := Lib.hid (HI.below (w' := w.drew) ⟨rfl, rfl, rfl, Nat.le_refl _, fun _ _ => rfl⟩)
  have TK := Lib.hid (fun w' (h : XI wx g (ptrB bh) c (ptrB bz) c x w') => (rctick_any x y w').mono fun e w2 ⟨he, hb⟩ => (⟨he, h.below hb⟩ : e = _ ∧ XI wx g (ptrB bh) c (ptrB bz) c x w2))
  have HCY := Lib.hid HC
  have i0k : (0 : Int) ≤ (k : Int) := by omega
  have i1k : (k : Int) < (n : Int) := by omega
  have i2k : (n : Int) ≤ 60 := by omega
  obtain ⟨bs, bd, l0, l1, l5, l6, l7⟩ := L
  have f0 := sl_get l0
  have f1 := sl_get l1
  have f5 := sl_get l5
  have f6 := sl_get l6
  have f7 := sl_get l7
  clear l0 l1 l5 l6 l7
  replace f8 := sl_get f8
  have HQ := Lib.hid hQ
  clear hQ
  clear HI HC
  conv => arg 2; whnf
  refine wp_region_holdP [5, 6] (C12 wx g (ptrB bh) (ptrB bz) c x (tickK x y)) (by kernel_rfl) (by kernel_rfl) HI0.out ?_
  refine holdP_valA (v := .agg #[.int .i64 x.t, .bool x.off]) 0 5 _ rfl rfl (by kernel_rfl) (by rfl) ?_ (fun p w' hp hC => ?_) ?_
  · simp [Region.wanted, yielded, Act.put, bs]
  · obtain ⟨y0, y1, y2⟩ := (c12_row hp hC).cells
    clear hC
    go_simp
    try with_reducible rfl
  repeat
    first
    | (refine holdP_val (v := ?_) (by rfl) ?_ ?_ ?_
       rotate_left
       · first
         | (simp [Region.wanted]; done)
         | (simp [Region.wanted, yielded, Act.put, bs]; done)
       · (intro p w' hC
          have g0 := HCY.out w' (c12_bel hC)
          clear hC
          go_simp
          try with_reducible rfl))
    | (refine holdP_call 0 rfl ?_ ?_ (fun w' hC => TK.out w' hC) ?_
       · first
         | (simp [Region.wanted]; done)
         | (simp [Region.wanted, yielded, Act.put, bs]; done)
       · (intro w' hC; go_simp; done))
    | (refine holdP_storeRow 1 45 _ _ rfl rfl ?_ g #[.int .i64 (tickK x y).t, .bool (tickK x y).off] ?_ ?_ (by kernel_rfl) (by simp [Value.oneCell']) (fun w' hC => ⟨_, _, hC.2, rfl, XI.row_ (tickK x y) hC⟩) ?_
       · first
         | (simp [Region.wanted]; done)
         | (simp [Region.wanted, yielded, Act.put, bs]; done)
       · (go_simp; done)
       · (go_simp; done))
  refine holdP_nil (fun w3 hC => ?_)
  have HI3 := Lib.hid hC
  clear hC TK HI0 HCY
  refine HQ.out _ _ ⟨?_, ?_, fun i hi he => ?_⟩  HI3.out
  · try simp only [put_tmps]
    simp only [Array.size_setIfInBounds, bs]
  · first | (simp only [put_defers, bd]; done) | exact bd | rfl
  · try simp only [put_tmps]
    repeat rw [sl_ne _ (by omega)]
theorem c13 (A : Act) (w : World) (Q : Exit → Act → World → Prop) (wx : World) (k n cap ba oa bh bz g : Nat) (st y : Int) (hlt : k < n) (hn : n ≤ 60) (HC : ∀ w', Below wx.heap.size wx w' → w'.cell? ⟨ba, oa + k, none⟩ = some (.int .i64 y))
    (L : LD A (.slice (some ⟨ba, oa, none⟩) n cap) st (ptrB bh) (ptrB bz) g) (f8 : sl A.tmps 8 = .int .i64 k) (c : Ck) (HI : XI wx g (ptrB bh) c (ptrB bz) c (tickK c y) w)
    (hQ : ∀ A' w', NearD 9 9 9 A A' → sl A'.tmps 67 = .bool false → XI wx g (ptrB bh) (tickK c y) (ptrB bz) (tickK c y) (tickK c y) w' → Q .normal A' w') :
    Code.wp Try.prog (cpR 13) Q A w := by
  have S1 := Lib.hid (fun w' (h : XI wx g (ptrB bh) c (ptrB bz) c (tickK c y) w') => xi_tickc y h)
  have S2 := Lib.hid (fun w' (h : XI wx g (ptrB bh) (tickK c y) (ptrB bz) c (tickK c y) w') => xi_tickz y h)
  have HI0 := Lib.hid (HI.below (w' := w.drew) ⟨rfl, rfl, rfl, Nat.le_refl _, fun _ _ => rfl⟩)
  have HCY := Lib.hid HC
  generalize tickK c y = d at *
  have e5 : (d.t != d.t) = false := by simp
  have i0k : (0 : Int) ≤ (k : Int) := by omega
  have i1k : (k : Int) < (n : Int) := by omega
  have i2k : (n : Int) ≤ 60 := by omega
  obtain ⟨bs, bd, l0, l1, l5, l6, l7⟩ := L
  have f0 := sl_get l0
  have f1 := sl_get l1
  have f5 := sl_get l5
  have f6 := sl_get l6
  have f7 := sl_get l7
  clear l0 l1 l5 l6 l7
  replace f8 := sl_get f8
  have HQ := Lib.hid hQ
  clear hQ
  clear HI HC
  conv => arg 2; whnf
  refine wp_region_holdP [5, 15] (C9 wx g (ptrB bh) (ptrB bz) c d d) (by kernel_rfl) (by kernel_rfl) HI0.out ?_
  repeat
    first
    | (refine holdP_val (v := ?_) (by rfl) ?_ ?_ ?_
       rotate_left
       · first
         | (simp [Region.wanted]; done)
         | (simp [Region.wanted, yielded, Act.put, bs]; done)
       · (intro p w' hC
          obtain ⟨_, _, hbb⟩ := c9_cells hC
          have g0 := HCY.out w' hbb
          clear hbb
          go_simp
          try with_reducible rfl))
    | (refine holdP_call 0 rfl ?_ ?_ (fun w' hC => S1.out w' hC) ?_
       · first
         | (simp [Region.wanted]; done)
         | (simp [Region.wanted, yielded, Act.put, bs]; done)
       · (intro w' hC; go_simp; done))
    | (refine holdP_call 1 rfl ?_ ?_ (fun w' hC => S2.out w' hC) ?_
       · first
         | (simp [Region.wanted]; done)
         | (simp [Region.wanted, yielded, Act.put, bs]; done)
       · (intro w' hC; go_simp; done))
  refine holdP_nil (fun w3 hC => ?_)
  have HI3 := Lib.hid hC
  clear hC S1 S2 HI0 HCY
  refine HQ.out _ _ ⟨?_, ?_, fun i hi he => ?_⟩ ?_ HI3.out
  · try simp only [put_tmps]
    simp only [Array.size_setIfInBounds, bs]
  · first | (simp only [put_defers, bd]; done) | exact bd | rfl
  · try simp only [put_tmps]
    repeat rw [sl_ne _ (by omega)]
  · try simp only [put_tmps]
    repeat first | rw [sl_ne _ (by decide)] | rw [sl_eq _ (by simp only [Array.size_setIfInBounds, bs]; decide)]
theorem c15 (A : Act) (w : World) (Q : Exit → Act → World → Prop) (wx : World) (bh bz g : Nat) (st : Int) (av : Value) (L : LD A av st (ptrB bh) (ptrB bz) g) (c : Ck) (HI : XI wx g (ptrB bh) c (ptrB bz) c c w)
    (hQ : ∀ A' w', NearD 9 9 9 A A' → sl A'.tmps 86 = .bool false → XI wx g (ptrB bh) c (ptrB bz) c c w' → Q .normal A' w') :
    Code.wp Try.prog (cpR 15) Q A w := by
  have S1 := Lib.hid (fun w' (h : XI wx g (ptrB bh) c (ptrB bz) c c w') => xi_nowc h)
  have S2 := Lib.hid (fun w' (h : XI wx g (ptrB bh) c (ptrB bz) c c w') => xi_stoppedc h)
  have S3 := Lib.hid (fun w' (h : XI wx g (ptrB bh) c (ptrB bz) c c w') => xi_stoppedz h)
  have HI0 := Lib.hid (HI.below (w' := w.drew) ⟨rfl, rfl, rfl, Nat.le_refl _, fun _ _ => rfl⟩)
  have HCE := Lib.hid (fun w' (h : XI wx g (ptrB bh) c (ptrB bz) c c w') => h.cells)
  have e5 : (c.t != c.t) = false := by simp
  have e6 : (c.off != c.off) = false := by simp
  obtain ⟨bs, bd, l0, l1, l5, l6, l7⟩ := L
  have f0 := sl_get l0
  have f1 := sl_get l1
  have f5 := sl_get l5
  have f6 := sl_get l6
  have f7 := sl_get l7
  clear l0 l1 l5 l6 l7
  have HQ := Lib.hid hQ
  clear hQ
  clear HI
  conv => arg 2; whnf
  refine wp_region_hold (fun w' => XI wx g (ptrB bh) c (ptrB bz) c c w') (by kernel_rfl) (by kernel_rfl) HI0.out ?_
  repeat
    first
    | (refine hold_val (v := ?_) ?_ ?_ ?_
       rotate_left
       · first
         | (simp [Region.wanted]; done)
         | (simp [Region.wanted, yielded, Act.put, bs]; done)
       · (intro w' hC
          obtain ⟨_, _, _⟩ := HCE.out w' hC
          clear hC
          go_simp
          try with_reducible rfl))
    | (refine hold_call ?_ ?_ (fun w' hC => S1.out w' hC) ?_
       · first
         | (simp [Region.wanted]; done)
         | (simp [Region.wanted, yielded, Act.put, bs]; done)
       · (intro w' hC; go_simp; done))
    | (refine hold_call ?_ ?_ (fun w' hC => S2.out w' hC) ?_
       · first
         | (simp [Region.wanted]; done)
         | (simp [Region.wanted, yielded, Act.put, bs]; done)
       · (intro w' hC; go_simp; done))
    | (refine hold_call ?_ ?_ (fun w' hC => S3.out w' hC) ?_
       · first
         | (simp [Region.wanted]; done)
         | (simp [Region.wanted, yielded, Act.put, bs]; done)
       · (intro w' hC; go_simp; done))
  refine hold_nil (fun w3 hC => ?_)
  have HI3 := Lib.hid hC
  clear hC S1 S2 S3 HI0 HCE
  refine HQ.out _ _ ⟨?_, ?_, fun i hi he => ?_⟩ ?_ HI3.out
  · try simp only [put_tmps]
    simp only [Array.size_setIfInBounds, bs]
  · first | (simp only [put_defers, bd]; done) | exact bd | rfl
  · try simp only [put_tmps]
    repeat rw [sl_ne _ (by omega)]
  · try simp only [put_tmps]
    repeat first | rw [sl_ne _ (by decide)] | rw [sl_eq _ (by simp only [Array.size_setIfInBounds, bs]; decide)]
end Go.Proofs.Ytejepnjgkflooaa
