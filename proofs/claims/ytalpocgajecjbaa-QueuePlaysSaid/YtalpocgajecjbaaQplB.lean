/- The great comparison behind each call of QueuePlays (region 29). Conditions: as stated. -/
import Derived.Test.YtalpocgajecjbaaQplA
namespace Go.Proofs.Ytalpocgajecjbaa
open Go.ChangeShapes Go.WideShapes Go.ChangeAt Go.RowKit
set_option linter.unusedVariables false
set_option maxRecDepth 100000
set_option linter.unusedSimpArgs false
set_option maxHeartbeats 4000000

theorem q29 (A : Act) (w : World) (Q : Exit → Act → World → Prop) (wx : World) (G : Nat → Prop) (bh bz : Nat) (id : Int) (av row : Value) (L : LQ A av id bh bz) (l : List Jb) (hl : l.length ≤ 1000) (y : Jb) (is : Bool) (b14 b16 : Nat)
    (f7 : sl A.tmps 7 = row) (f14 : sl A.tmps 14 = ptrB b14) (f15 : sl A.tmps 15 = .bool is) (f16 : sl A.tmps 16 = ptrB b16) (f17 : sl A.tmps 17 = .bool is) (HB14 : BJob b14 y w) (HB16 : BJob b16 y w)
    (HI : QInv3 wx G (ptrB bh) l (ptrB bz) l row l w)
    (hQ : ∀ A' w', NearQ 150 242 A A' → sl A'.tmps 189 = .bool false → Below w.heap.size w w' → Q .normal A' w') :
    Code.wp Try.prog (qpR 29) Q A w := by
  obtain ⟨AR, c, rfl, _, _⟩ := HI.form
  obtain ⟨K, hrd⟩ := HI.rd
  have L1 := Lib.hid fun w' (h : Below w.heap.size w w') => iqlen_h (show l.length ≤ 100000 by omega) (HI.below h)
  have L2 := Lib.hid fun w' (h : Below w.heap.size w w') => iqlen_z (show l.length ≤ 100000 by omega) (HI.below h)
  have A1 := Lib.hid (show ∀ w', Below w.heap.size w w' → Calls Try.prog 17 #[ptrB bh] w' fun e w2 => ∃ v, e = .returned v ∧ RdJ l v w2 ∧ Below w'.heap.size w' w2 from fun w' h => (iqall_h (show l.length ≤ 100000 by omega) (HI.below h)).mono fun e w2 ⟨v, he, hr, hb⟩ => ⟨v, he, hr.imp (fun _ _ _ => trivial), hb⟩)
  have S1 := Lib.hid (show ∀ v (w' : World), Below w.heap.size w w' → RdJ l v w' → Calls Try.prog 16 #[v, .slice AR l.length c] w' fun e w2 => e = .returned (.bool true) ∧ Below w'.heap.size w' w2 from fun v w' hb h1 => ksame_any v _ l _ _ w' (by omega) h1 (hrd.below hb))
  have E1 := fun w => jeq_same y w
  have e5 : ((l.length : Int) != (l.length : Int)) = false := by simp
  have HL := Lib.hid (show ∀ w', Below w.heap.size w w' → _ ∧ _ from fun w' hb => ⟨BJob.cells (b := b14) (x := y) (w := w') (HB14.below hb HB14.lt), BJob.cells (b := b16) (x := y) (w := w') (HB16.below hb HB16.lt)⟩)
  have HLN := Lib.hid hl
  obtain ⟨bs, bd, l0, l1, l5, l6⟩ := L
  have f5 := sl_get l5
  have f6 := sl_get l6
  replace f7 := sl_get f7
  replace f14 := sl_get f14
  replace f15 := sl_get f15
  replace f16 := sl_get f16
  replace f17 := sl_get f17
  have HQ := Lib.hid hQ
  clear hQ HI HB14 HB16 hrd l0 l1 l5 l6 hl
  conv => arg 2; whnf
  cases is
  all_goals
    obtain ⟨⟨x0, x1, x2, x3, x4, x5, x6, x7⟩, ⟨y0, y1, y2, y3, y4, y5, y6, y7⟩⟩ := HL.out w ⟨rfl, rfl, rfl, Nat.le_refl _, fun _ _ => rfl⟩
    go_wp2_with fail
    refine (L1.out w ⟨rfl, rfl, rfl, Nat.le_refl _, fun _ _ => rfl⟩).mono ?_; rintro e w1 ⟨rfl, b1⟩
    have C2 := Lib.hid (L2.out w1 b1)
    have B1 := Lib.hid b1
    clear b1 x0 x1 x2 x3 x4 x5 x6 x7 y0 y1 y2 y3 y4 y5 y6 y7 L1
    go_wp2_with fail
    refine C2.out.mono ?_; rintro e w2 ⟨rfl, b2⟩
    have B2 := Lib.hid (B1.out.trans (b2.mono B1.out.size))
    have C3 := Lib.hid (A1.out w2 (B1.out.trans (b2.mono B1.out.size)))
    clear b2 C2 L2 B1
    go_wp2_with fail
    refine C3.out.mono ?_; rintro e w3 ⟨v1, rfl, hr3, b3⟩
    have B3 := Lib.hid (B2.out.trans (b3.mono B2.out.size))
    have C4 := Lib.hid (S1.out v1 w3 (B2.out.trans (b3.mono B2.out.size)) hr3)
    clear b3 hr3 C3 A1 B2
    go_wp2_with fail
    refine C4.out.mono ?_; rintro e w4 ⟨rfl, b4⟩
    have hS := B3.out.trans (b4.mono B3.out.size)
    have HSS := Lib.hid hS
    clear b4 C4 S1 B3 hS
    go_wp2_with fail
    refine HQ.out _ _ ⟨?_, ?_, fun i hi he => ?_⟩ ?_ HSS.out
    · try simp only [put_tmps]
      simp only [Array.size_setIfInBounds, bs]
    · first | (simp only [put_defers, bd]; done) | exact bd | rfl
    · try simp only [put_tmps]
      repeat rw [sl_ne _ (by omega)]
    · try simp only [put_tmps]
      repeat first | rw [sl_ne _ (by decide)] | rw [sl_eq _ (by simp only [Array.size_setIfInBounds, bs]; decide)]
end Go.Proofs.Ytalpocgajecjbaa
