/- The regions of FencePlays, a lemma each, the frame a variable. Conditions: as stated. -/
import Derived.Test.YtjpcghnhekafiaaFplA
namespace Go.Proofs.Ytjpcghnhekafiaa
open Go.ChangeShapes Go.WideShapes Go.ChangeAt Go.RowKit
set_option linter.unusedVariables false
set_option maxRecDepth 100000
set_option linter.unusedSimpArgs false
set_option maxHeartbeats 4000000

theorem fe7t (A : Act) (w : World) (Q : Exit → Act → World → Prop) (k n cap : Nat) (a0 : Option Addr) (v : Value) (bz gx : Nat) (hd : decide (k < n) = true) (L : LD A (.slice a0 n cap) v bz gx) (f7 : sl A.tmps 7 = .int .i64 k)
    (hQ : ∀ A', NearD 14 14 14 A A' → sl A'.tmps 27 = .bool true → Q .normal A' w) :
    Code.wp Try.prog (fpR 7) Q A w := by
  have hd2 : decide ((k : Int) < (n : Int)) = true := by rw [← hd]; exact decide_eq_decide.2 (by omega)
  obtain ⟨bs, bd, l0, l3, l4, l5, l6⟩ := L
  have f0 := sl_get l0
  have f3 := sl_get l3
  have f4 := sl_get l4
  have f5 := sl_get l5
  have f6 := sl_get l6
  clear l0 l3 l4 l5 l6
  replace f7 := sl_get f7
  have HQ := Lib.hid hQ
  clear hQ
  conv => arg 2; whnf
  go_wp2_with fail
  refine HQ.out _ ⟨?_, ?_, fun i hi he => ?_⟩ ?_ 
  · try simp only [put_tmps]
    simp only [Array.size_setIfInBounds, bs]
  · first | (simp only [put_defers, bd]; done) | exact bd | rfl
  · try simp only [put_tmps]
    repeat rw [sl_ne _ (by omega)]
  · try simp only [put_tmps]
    repeat first | rw [sl_ne _ (by decide)] | rw [sl_eq _ (by simp only [Array.size_setIfInBounds, bs]; decide)]
    try exact sl_of (by rw [bs]; decide) (by assumption)
theorem fe7f (A : Act) (w : World) (Q : Exit → Act → World → Prop) (k n cap : Nat) (a0 : Option Addr) (v : Value) (bz gx : Nat) (hd : decide (k < n) = false) (L : LD A (.slice a0 n cap) v bz gx) (f7 : sl A.tmps 7 = .int .i64 k)
    (hQ : ∀ A', NearD 14 14 14 A A' → sl A'.tmps 27 = .bool false → Q .normal A' w) :
    Code.wp Try.prog (fpR 7) Q A w := by
  have hd2 : decide ((k : Int) < (n : Int)) = false := by rw [← hd]; exact decide_eq_decide.2 (by omega)
  obtain ⟨bs, bd, l0, l3, l4, l5, l6⟩ := L
  have f0 := sl_get l0
  have f3 := sl_get l3
  have f4 := sl_get l4
  have f5 := sl_get l5
  have f6 := sl_get l6
  clear l0 l3 l4 l5 l6
  replace f7 := sl_get f7
  have HQ := Lib.hid hQ
  clear hQ
  conv => arg 2; whnf
  go_wp2_with fail
  refine HQ.out _ ⟨?_, ?_, fun i hi he => ?_⟩ ?_ 
  · try simp only [put_tmps]
    simp only [Array.size_setIfInBounds, bs]
  · first | (simp only [put_defers, bd]; done) | exact bd | rfl
  · try simp only [put_tmps]
    repeat rw [sl_ne _ (by omega)]
  · try simp only [put_tmps]
    repeat first | rw [sl_ne _ (by decide)] | rw [sl_eq _ (by simp only [Array.size_setIfInBounds, bs]; decide)]
    try exact sl_of (by rw [bs]; decide) (by assumption)
theorem fe8 (A : Act) (w : World) (Q : Exit → Act → World → Prop) (k : Nat) (hk : k ≤ 200) (bs : A.tmps.size = 114) (bd : A.defers = []) (f7 : sl A.tmps 7 = .int .i64 k)
    (hQ : ∀ A', NearD 14 7 8 A A' → sl A'.tmps 7 = .int .i64 ((k : Int) + 1) → Q .normal A' w) :
    Code.wp Try.prog (fpR 8) Q A w := by
  have q3 : IntKind.i64.wrap ((k : Int) + 1) = (k : Int) + 1 := IntWalk.i64_in _ (by omega)
  replace f7 := sl_get f7
  have HQ := Lib.hid hQ
  clear hQ
  conv => arg 2; whnf
  go_wp2_with fail
  refine HQ.out _ ⟨?_, ?_, fun i hi he => ?_⟩ ?_ 
  · try simp only [put_tmps]
    simp only [Array.size_setIfInBounds, bs]
  · first | (simp only [put_defers, bd]; done) | exact bd | rfl
  · try simp only [put_tmps]
    repeat rw [sl_ne _ (by omega)]
  · try simp only [put_tmps]
    repeat first | rw [sl_ne _ (by decide)] | rw [sl_eq _ (by simp only [Array.size_setIfInBounds, bs]; decide)]
    try exact sl_of (by rw [bs]; decide) (by assumption)
theorem fe9 (A : Act) (w : World) (Q : Exit → Act → World → Prop) (wx : World) (k n cap ba oa bz gx : Nat) (v : Value) (ep : Int) (hlt : k < n) (hn : n ≤ 100) (HC : ∀ w', Below wx.heap.size wx w' → w'.cell? ⟨ba, oa + k, none⟩ = some (.int .i64 ep)) (L : LD A (.slice (some ⟨ba, oa, none⟩) n cap) v bz gx) (f7 : sl A.tmps 7 = .int .i64 k) (x : Fe) (hx : x.y + x.n ≤ 1000) (HI : TF wx [(gx, feX x)] v x bz x w)
    (hQ : ∀ A' w' gn, NearD 14 8 10 A A' → sl A'.tmps 8 = ptrB gn → sl A'.tmps 9 = .bool (mayF x ep) → TF wx [(gn, feX (passF x ep)), (gx, feX x)] v x bz x w' → Q .normal A' w') :
    Code.wp Try.prog (fpR 9) Q A w := by
  have i0k : (0 : Int) ≤ (k : Int) := by omega
  have i1k : (k : Int) < (n : Int) := by omega
  have i2k : (n : Int) ≤ 100 := by omega
  have HI0 := Lib.hid (TB.draws HI)
  have PA := Lib.hid (fun w' (h : TF wx [(gx, feX x)] v x bz x w') => rfpass_any x ep w' (TF.ok1 h) (by have := TF.ok1 h; unfold okF at this; omega) (by have := TF.ok1 h; unfold okF at this; omega))
  have HCE := Lib.hid (fun w' (h : TF wx [(gx, feX x)] v x bz x w') => And.intro (HC w' (TB.bel h)) (tf_x h))
  generalize hy : passF x ep = y at *
  generalize mayF x ep = m at *
  clear HI HC hx hy
  obtain ⟨bs, bd, l0, l3, l4, l5, l6⟩ := L
  have f0 := sl_get l0
  have f3 := sl_get l3
  have f4 := sl_get l4
  have f5 := sl_get l5
  have f6 := sl_get l6
  clear l0 l3 l4 l5 l6
  replace f7 := sl_get f7
  have HQ := Lib.hid hQ
  clear hQ
  conv => arg 2; whnf
  refine wp_region_holdQ [9, 10] [5] (fun _ w' => TF wx [(gx, feX x)] v x bz x w') (by kernel_rfl) (by kernel_rfl) HI0.out ?_
  repeat
    first
    | (refine holdQ_val (v := ?_) (by rfl) ?_ ?_ ?_
       rotate_left
       · first
         | (simp [Region.wanted]; done)
         | (simp [Region.wanted, yielded, Act.put, bs]; done)
       · (intro p w' hC
          obtain ⟨_, _, _, _, _, _, _⟩ := (by first | exact HCE.out w' hC | exact HCE.out w' hC.1 : _ ∧ _ ∧ _ ∧ _ ∧ _ ∧ _ ∧ _)
          clear hC
          go_simp
          try with_reducible rfl))
    | (refine holdQ_made (by rfl) (by rfl) ?_ ?_ (fun p w' hC => (PA.out w' hC).mono fun e w2 ⟨he, hb⟩ => ⟨he, hb, TB.below hC hb⟩) ?_
       · first
         | (simp [Region.wanted]; done)
         | (simp [Region.wanted, yielded, Act.put, bs]; done)
       · (intro p w' hC; go_simp; done))
    | (refine holdQ_make 0 (D9 wx gx v x bz x y) (fun u p => d9_kept u p) rfl ?_ (fun w' hC => ?_) (fun v1 => ?_)
       · first
         | (simp [Region.wanted]; done)
         | (simp [Region.wanted, yielded, Act.put, bs]; done)
       · (refine ⟨ptrB w'.heap.size, w'.alloc (feX fen0), ?_, TB.below hC ((Below.refl _ _).alloc (Nat.le_refl _) _), _, rfl, fun e => by have := TB.lt hC (k := gx) (o := feX x) (by simp); omega, fun _ => TB.new (feX fen0) hC, fun hp => absurd hp (by omega)⟩
          go_simp
          try rfl))
    | (refine holdQ_storeNew 1 36 _ _ rfl rfl ?_ v1 #[.int .i64 y.e, .int .i64 y.y, .int .i64 y.n] ?_ ?_ (by kernel_rfl) (by simp [Value.oneCell']) (fun w' hC => ?_) ?_
       · first
         | (simp [Region.wanted]; done)
         | (simp [Region.wanted, yielded, Act.put, bs]; done)
       · (go_simp; done)
       · (go_simp; done)
       · (obtain ⟨gn, h1, hne, h2, _⟩ := hC.2 (by omega)
          have h3 := h2 rfl
          exact ⟨gn, _, _, h1, TB.get h3, rfl, TB.tail (tf_row (y := y) h3 hne), fun _ => ⟨gn, h1, hne, fun hp => absurd hp (by omega), fun _ => tf_row h3 hne⟩⟩))
  refine holdQ_nil (fun w3 hC => ?_)
  obtain ⟨gn, hv1, hne9, _, hq2⟩ := hC.2 (by decide)
  have HI3 := Lib.hid (hq2 rfl)
  subst hv1
  clear hC PA HI0 HCE hq2
  refine HQ.out _ _ gn ⟨?_, ?_, fun i hi he => ?_⟩ ?_ ?_ HI3.out
  · try simp only [put_tmps]
    simp only [Array.size_setIfInBounds, bs]
  · first | (simp only [put_defers, bd]; done) | exact bd | rfl
  · try simp only [put_tmps]
    repeat rw [sl_ne _ (by omega)]
  · try simp only [put_tmps]
    repeat first | rw [sl_ne _ (by decide)] | rw [sl_eq _ (by simp only [Array.size_setIfInBounds, bs]; decide)]
    try exact sl_of (by rw [bs]; decide) (by assumption)
  · try simp only [put_tmps]
    repeat first | rw [sl_ne _ (by decide)] | rw [sl_eq _ (by simp only [Array.size_setIfInBounds, bs]; decide)]
    try exact sl_of (by rw [bs]; decide) (by assumption)
theorem fe10 (A : Act) (w : World) (Q : Exit → Act → World → Prop) (wx : World) (av v : Value) (bz gx : Nat) (L : LD A av v bz gx) (x y z : Fe) (gn : Nat) (f8 : sl A.tmps 8 = ptrB gn) (HI : TF wx [(gn, feX y), (gx, feX x)] v x bz z w)
    (hQ : ∀ A' w', NearD 14 14 14 A A' → TF wx [(gx, feX y)] v x bz z w' → Q .normal A' w') :
    Code.wp Try.prog (fpR 10) Q A w := by
  have HI2 := Lib.hid (tf_copy HI)
  obtain ⟨n0, n1, n2, _, _, _⟩ := tf_x HI
  obtain ⟨y0, y1, y2, z0, z1, z2⟩ := tf_x (TB.tail HI)
  clear HI
  obtain ⟨bs, bd, l0, l3, l4, l5, l6⟩ := L
  have f0 := sl_get l0
  have f3 := sl_get l3
  have f4 := sl_get l4
  have f5 := sl_get l5
  have f6 := sl_get l6
  clear l0 l3 l4 l5 l6
  replace f8 := sl_get f8
  have HQ := Lib.hid hQ
  clear hQ
  conv => arg 2; whnf
  go_wp2_with fail
  refine HQ.out _ _ ⟨?_, ?_, fun i hi he => ?_⟩  HI2.out
  · try simp only [put_tmps]
    simp only [Array.size_setIfInBounds, bs]
  · first | (simp only [put_defers, bd]; done) | exact bd | rfl
  · try simp only [put_tmps]
    repeat rw [sl_ne _ (by omega)]
def C11 (wx : World) (bs : List (Nat × Obj)) (v : Value) (x : Fe) (bz : Nat) (x2 : Fe) : Nat → World → Prop
  | 0, w => TF wx bs v x bz x w
  | 1, w => TF wx bs v x2 bz x w
  | _ + 2, w => TF wx bs v x2 bz x2 w
theorem c11_bel {wx : World} {bs : List (Nat × Obj)} {v : Value} {x x2 : Fe} {bz : Nat} {w : World} : ∀ {p : Nat}, C11 wx bs v x bz x2 p w → Below wx.heap.size wx w
  | 0, h => TB.bel h
  | 1, h => TB.bel h
  | _ + 2, h => TB.bel h
theorem fe11 (A : Act) (w : World) (Q : Exit → Act → World → Prop) (wx : World) (k n cap ba oa bz gx : Nat) (v : Value) (ep : Int) (hlt : k < n) (hn : n ≤ 100) (HC : ∀ w', Below wx.heap.size wx w' → w'.cell? ⟨ba, oa + k, none⟩ = some (.int .i64 ep)) (L : LD A (.slice (some ⟨ba, oa, none⟩) n cap) v bz gx) (f7 : sl A.tmps 7 = .int .i64 k) (x y : Fe) (hx : x.y + x.n ≤ 1000) (hin : inI ep) (HI : TF wx [(gx, feX y)] v x bz x w)
    (hQ : ∀ A' w', NearD 14 10 12 A A' → sl A'.tmps 10 = .bool (mayF x ep) → sl A'.tmps 11 = .bool (mayF x ep) → TF wx [(gx, feX y)] v (passF x ep) bz (passF x ep) w' → Q .normal A' w') :
    Code.wp Try.prog (fpR 11) Q A w := by
  have i0k : (0 : Int) ≤ (k : Int) := by omega
  have i1k : (k : Int) < (n : Int) := by omega
  have i2k : (n : Int) ≤ 100 := by omega
  have HI0 := Lib.hid (TB.draws HI)
  have hok := TF.ok1 HI
  unfold okF at hok
  have P1 := Lib.hid (fun w' (h : TF wx [(gx, feX y)] v x bz x w') => tf_pass1 (k := ep) hin (by omega) (by omega) h)
  have P2 := Lib.hid (fun w' (h : TF wx [(gx, feX y)] v (passF x ep) bz x w') => tf_pass2 (k := ep) hin (by omega) (by omega) h)
  have HCE := Lib.hid (fun p w' (h : (C11 wx [(gx, feX y)] v x bz (passF x ep)) p w') => HC w' (c11_bel h))
  generalize hy : passF x ep = x2 at *
  generalize mayF x ep = m at *
  clear HI HC hx hy hok hin
  obtain ⟨bs, bd, l0, l3, l4, l5, l6⟩ := L
  have f0 := sl_get l0
  have f3 := sl_get l3
  have f4 := sl_get l4
  have f5 := sl_get l5
  have f6 := sl_get l6
  clear l0 l3 l4 l5 l6
  replace f7 := sl_get f7
  have HQ := Lib.hid hQ
  clear hQ
  conv => arg 2; whnf
  refine wp_region_holdP [5, 11] (C11 wx [(gx, feX y)] v x bz x2) (by kernel_rfl) (by kernel_rfl) HI0.out ?_
  repeat
    first
    | (refine holdP_val (v := ?_) (by rfl) ?_ ?_ ?_
       rotate_left
       · first
         | (simp [Region.wanted]; done)
         | (simp [Region.wanted, yielded, Act.put, bs]; done)
       · (intro p w' hC
          have _ := HCE.out p w' hC
          clear hC
          go_simp
          try with_reducible rfl))
    | (refine holdP_call 0 rfl ?_ ?_ (fun w' hC => P1.out w' hC) ?_
       · first
         | (simp [Region.wanted]; done)
         | (simp [Region.wanted, yielded, Act.put, bs]; done)
       · (intro w' hC; go_simp; done))
    | (refine holdP_call 1 rfl ?_ ?_ (fun w' hC => P2.out w' hC) ?_
       · first
         | (simp [Region.wanted]; done)
         | (simp [Region.wanted, yielded, Act.put, bs]; done)
       · (intro w' hC; go_simp; done))
  refine holdP_nil (fun w3 hC => ?_)
  have HI3 := Lib.hid (show TF wx [(gx, feX y)] v x2 bz x2 w3 from hC)
  clear hC P1 P2 HI0 HCE
  refine HQ.out _ _ ⟨?_, ?_, fun i hi he => ?_⟩ ?_ ?_ HI3.out
  · try simp only [put_tmps]
    simp only [Array.size_setIfInBounds, bs]
  · first | (simp only [put_defers, bd]; done) | exact bd | rfl
  · try simp only [put_tmps]
    repeat rw [sl_ne _ (by omega)]
  · try simp only [put_tmps]
    repeat first | rw [sl_ne _ (by decide)] | rw [sl_eq _ (by simp only [Array.size_setIfInBounds, bs]; decide)]
    try exact sl_of (by rw [bs]; decide) (by assumption)
  · try simp only [put_tmps]
    repeat first | rw [sl_ne _ (by decide)] | rw [sl_eq _ (by simp only [Array.size_setIfInBounds, bs]; decide)]
    try exact sl_of (by rw [bs]; decide) (by assumption)
theorem fe12 (A : Act) (w : World) (Q : Exit → Act → World → Prop) (wx : World) (av v : Value) (bz gx : Nat) (L : LD A av v bz gx) (x z : Fe) (bs0 : List (Nat × Obj)) (HI : TF wx bs0 v x bz z w)
    (hQ : ∀ A' w', NearD 14 12 14 A A' → sl A'.tmps 12 = .int .i64 x.y → sl A'.tmps 13 = .int .i64 x.n → TF wx bs0 v x bz z w' → Q .normal A' w') :
    Code.wp Try.prog (fpR 12) Q A w := by
  have C := Lib.hid (tf_passed HI)
  clear HI
  obtain ⟨bs, bd, l0, l3, l4, l5, l6⟩ := L
  have f0 := sl_get l0
  have f3 := sl_get l3
  have f4 := sl_get l4
  have f5 := sl_get l5
  have f6 := sl_get l6
  clear l0 l3 l4 l5 l6
  have HQ := Lib.hid hQ
  clear hQ
  conv => arg 2; whnf
  go_wp2_with fail
  refine C.out.mono ?_; clear C; rintro e w2 ⟨rfl, hI⟩
  have HI2 := Lib.hid hI
  clear hI
  go_wp2_with fail
  refine HQ.out _ _ ⟨?_, ?_, fun i hi he => ?_⟩ ?_ ?_ HI2.out
  · try simp only [put_tmps]
    simp only [Array.size_setIfInBounds, bs]
  · first | (simp only [put_defers, bd]; done) | exact bd | rfl
  · try simp only [put_tmps]
    repeat rw [sl_ne _ (by omega)]
  · try simp only [put_tmps]
    repeat first | rw [sl_ne _ (by decide)] | rw [sl_eq _ (by simp only [Array.size_setIfInBounds, bs]; decide)]
    try exact sl_of (by rw [bs]; decide) (by assumption)
  · try simp only [put_tmps]
    repeat first | rw [sl_ne _ (by decide)] | rw [sl_eq _ (by simp only [Array.size_setIfInBounds, bs]; decide)]
    try exact sl_of (by rw [bs]; decide) (by assumption)
theorem fe13 (A : Act) (w : World) (Q : Exit → Act → World → Prop) (wx : World) (k n cap ba oa bz gx : Nat) (v : Value) (ep : Int) (hlt : k < n) (hn : n ≤ 100) (HC : ∀ w', Below wx.heap.size wx w' → w'.cell? ⟨ba, oa + k, none⟩ = some (.int .i64 ep)) (L : LD A (.slice (some ⟨ba, oa, none⟩) n cap) v bz gx) (f7 : sl A.tmps 7 = .int .i64 k) (x : Fe) (m : Bool) (f9 : sl A.tmps 9 = .bool m) (f10 : sl A.tmps 10 = .bool m) (f11 : sl A.tmps 11 = .bool m) (f12 : sl A.tmps 12 = .int .i64 x.y) (f13 : sl A.tmps 13 = .int .i64 x.n) (HI : TF wx [(gx, feX x)] v x bz x w)
    (hQ : ∀ A' w', NearD 14 14 14 A A' → sl A'.tmps 98 = .bool false → TF wx [(gx, feX x)] v x bz x w' → Q .normal A' w') :
    Code.wp Try.prog (fpR 13) Q A w := by
  have i0k : (0 : Int) ≤ (k : Int) := by omega
  have i1k : (k : Int) < (n : Int) := by omega
  have i2k : (n : Int) ≤ 100 := by omega
  have HI0 := Lib.hid (TB.draws HI)
  have E1 := Lib.hid (fun w' (h : TF wx [(gx, feX x)] v x bz x w') => tf_epoch1 h)
  have E2 := Lib.hid (fun w' (h : TF wx [(gx, feX x)] v x bz x w') => tf_epoch2 h)
  have E3 := Lib.hid (fun w' (h : TF wx [(gx, feX x)] v x bz x w') => (nfpass_any ep w').mono fun e w2 ⟨he, hb⟩ => (⟨he, TB.below h hb⟩ : e = _ ∧ TF wx [(gx, feX x)] v x bz x w2))
  have HCE := Lib.hid (fun w' (h : TF wx [(gx, feX x)] v x bz x w') => And.intro (HC w' (TB.bel h)) (tf_x h))
  have e4 : (m != m) = false := by simp
  have e5 : (x.e != x.e) = false := by simp
  have e6 : (x.y != x.y) = false := by simp
  have e7 : (x.n != x.n) = false := by simp
  clear HI HC
  obtain ⟨bs, bd, l0, l3, l4, l5, l6⟩ := L
  have f0 := sl_get l0
  have f3 := sl_get l3
  have f4 := sl_get l4
  have f5 := sl_get l5
  have f6 := sl_get l6
  clear l0 l3 l4 l5 l6
  replace f7 := sl_get f7
  replace f9 := sl_get f9
  replace f10 := sl_get f10
  replace f11 := sl_get f11
  replace f12 := sl_get f12
  replace f13 := sl_get f13
  have HQ := Lib.hid hQ
  clear hQ
  conv => arg 2; whnf
  refine wp_region_hold (fun w' => TF wx [(gx, feX x)] v x bz x w') (by kernel_rfl) (by kernel_rfl) HI0.out ?_
  repeat
    first
    | (refine hold_val (v := ?_) ?_ ?_ ?_
       rotate_left
       · first
         | (simp [Region.wanted]; done)
         | (simp [Region.wanted, yielded, Act.put, bs]; done)
       · (intro w' hC
          obtain ⟨_, _, _, _, _, _, _⟩ := HCE.out w' hC
          clear hC
          go_simp
          try with_reducible rfl))
    | (refine hold_skip ?_ ?_
       · (first | (simp [Region.wanted, yielded, Act.put, bs]; done) | (simp [Region.wanted, yielded, Act.put, bs, undef]; done)))
    | (refine hold_call ?_ ?_ (fun w' hC => E1.out w' hC) ?_
       · first
         | (simp [Region.wanted]; done)
         | (simp [Region.wanted, yielded, Act.put, bs]; done)
       · (intro w' hC; go_simp; done))
    | (refine hold_call ?_ ?_ (fun w' hC => E2.out w' hC) ?_
       · first
         | (simp [Region.wanted]; done)
         | (simp [Region.wanted, yielded, Act.put, bs]; done)
       · (intro w' hC; go_simp; done))
    | (refine hold_call ?_ ?_ (fun w' hC => E3.out w' hC) ?_
       · first
         | (simp [Region.wanted]; done)
         | (simp [Region.wanted, yielded, Act.put, bs]; done)
       · (intro w' hC; go_simp; done))
  refine hold_nil (fun w3 hC => ?_)
  have HI3 := Lib.hid hC
  clear hC
  refine HQ.out _ _ ⟨?_, ?_, fun i hi he => ?_⟩ ?_ HI3.out
  · try simp only [put_tmps]
    simp only [Array.size_setIfInBounds, bs]
  · first | (simp only [put_defers, bd]; done) | exact bd | rfl
  · try simp only [put_tmps]
    repeat rw [sl_ne _ (by omega)]
  · try simp only [put_tmps]
    repeat first | rw [sl_ne _ (by decide)] | rw [sl_eq _ (by simp only [Array.size_setIfInBounds, bs]; decide)]
    try exact sl_of (by rw [bs]; decide) (by assumption)
end Go.Proofs.Ytjpcghnhekafiaa
