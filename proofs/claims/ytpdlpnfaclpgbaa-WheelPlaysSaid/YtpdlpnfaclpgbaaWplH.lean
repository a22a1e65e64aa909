/- The regions of WheelPlays, a lemma each, the frame a variable. Conditions: as stated. -/
import Derived.Test.YtpdlpnfaclpgbaaWplA
namespace Go.Proofs.Ytpdlpnfaclpgbaa
open Go.ChangeShapes Go.WideShapes Go.ChangeAt Go.RowKit
set_option linter.unusedVariables false
set_option maxRecDepth 100000
set_option linter.unusedSimpArgs false
set_option maxHeartbeats 4000000

theorem p27 (A : Act) (w : World) (Q : Exit → Act → World → Prop) (wx : World) (bh bz g : Nat) (G : Nat → Prop) (id : Int) (av : Value) (act : ActD) (L : LD A av id (ptrB bh) (ptrB bz)) (row : Value) (l : List Tm) (hl : l.length ≤ 1000) (f7 : sl A.tmps 7 = row) (f14 : sl A.tmps 14 = .int .i64 ((tickW l id).getD 0)) (f15 : sl A.tmps 15 = .bool (tickW l id).isSome) (f16 : sl A.tmps 16 = .int .i64 (findZ l id)) (f17 : sl A.tmps 17 = .int .i64 (nextW l)) (f18 : sl A.tmps 18 = .bool (!l.isEmpty)) (HI : TI wx G g act (ptrB bh) l (ptrB bz) l row l w) 
    (hQ : ∀ A' w', NearD 24 24 24 A A' → sl A'.tmps 205 = .bool false → TI wx G g act (ptrB bh) l (ptrB bz) l row l w' → Q .normal A' w') :
    Code.wp Try.prog (wpR 27) Q A w := by
  have CH := Lib.hid (ti_lenh (by omega) HI)
  have CZ := Lib.hid (fun w2 (h : TI wx G g act (ptrB bh) l (ptrB bz) l row l w2) => ti_lenz (by omega) h)
  obtain ⟨K, hr⟩ := HI.row_
  obtain ⟨AR, c, rfl, hc, _⟩ := rdW_form hr
  have e5 : ((l.length : Int) != (l.length : Int)) = false := by simp
  obtain ⟨bs, bd, l0, l1, l5, l6⟩ := L
  have f0 := sl_get l0
  have f1 := sl_get l1
  have f5 := sl_get l5
  have f6 := sl_get l6
  clear l0 l1 l5 l6
  replace f7 := sl_get f7
  replace f14 := sl_get f14
  replace f15 := sl_get f15
  replace f16 := sl_get f16
  replace f17 := sl_get f17
  replace f18 := sl_get f18
  have HQ := Lib.hid hQ
  clear hQ
  rcases Nat.eq_zero_or_pos l.length with h0 | h0
  · obtain rfl : l = [] := List.eq_nil_of_length_eq_zero h0
    have e1 : findZ [] id = -1 := rfl
    have e2 : tickW [] id = none := rfl
    have e3 : nextW [] = 0 := rfl
    rw [e1] at f16
    rw [e2] at f14 f15
    rw [e3] at f17
    have f18' : ∀ hi : 18 < A.tmps.size, A.tmps[18]'hi = .bool false := f18
    clear f18 e1 e2 e3 HI hr
    simp only [List.length_nil] at *
    conv => arg 2; whnf
    go_wp2_with fail
    refine CH.out.mono ?_; rintro e w2 ⟨rfl, hI2, _⟩
    have C2 := Lib.hid (CZ.out _ hI2)
    clear hI2 CH CZ
    go_wp2_with fail
    refine C2.out.mono ?_; rintro e w3 ⟨rfl, hI3, _⟩
    have HI3 := Lib.hid hI3
    clear hI3 C2
    go_wp2_with fail
    refine HQ.out _ _ ⟨?_, ?_, fun i hi he => ?_⟩ ?_ HI3.out
    · try simp only [put_tmps]
      simp only [Array.size_setIfInBounds, bs]
    · first | (simp only [put_defers, bd]; done) | exact bd | rfl
    · try simp only [put_tmps]
      repeat rw [sl_ne _ (by omega)]
    · try simp only [put_tmps]
      repeat first | rw [sl_ne _ (by decide)] | rw [sl_eq _ (by simp only [Array.size_setIfInBounds, bs]; decide)]
  · obtain ⟨b, o, ha, _, x0, x1⟩ := rdW_at hr h0
    subst ha
    have e3 := next_at l h0
    rw [e3] at f17
    have e4 : (!l.isEmpty) = true := by cases l; cases h0; rfl
    rw [e4] at f18
    clear e3 e4 x0
    simp only [Nat.zero_mul, Nat.add_zero] at x1
    have x2 : w.cell? ⟨b, o + 1, none⟩ = some (.int .i64 l[0].tick) := x1
    have d0 : decide (0 < l.length) = true := decide_eq_true h0
    have d1 : decide ((0 : Int) < (l.length : Int)) = true := decide_eq_true (by omega)
    have i0 : (0 : Int) < (l.length : Int) := by omega
    have i1 : (l.length : Int) ≤ 1000 := by omega
    rcases find_tick l id with ⟨h1, h2⟩ | ⟨k, hk, h1, h2⟩
    · rw [h1] at f16
      rw [h2] at f14 f15
      generalize l[0].tick = t0 at *
      clear h1 h2 HI hr x1
      conv => arg 2; whnf
      go_wp2_with fail
      refine CH.out.mono ?_; rintro e w2 ⟨rfl, hI2, _⟩
      have C2 := Lib.hid (CZ.out _ hI2)
      clear hI2 CH CZ
      go_wp2_with fail
      refine C2.out.mono ?_; rintro e w3 ⟨rfl, hI3, _⟩
      have HI3 := Lib.hid hI3
      clear hI3 C2
      go_wp2_with fail
      refine HQ.out _ _ ⟨?_, ?_, fun i hi he => ?_⟩ ?_ HI3.out
      · try simp only [put_tmps]
        simp only [Array.size_setIfInBounds, bs]
      · first | (simp only [put_defers, bd]; done) | exact bd | rfl
      · try simp only [put_tmps]
        repeat rw [sl_ne _ (by omega)]
      · try simp only [put_tmps]
        repeat first | rw [sl_ne _ (by decide)] | rw [sl_eq _ (by simp only [Array.size_setIfInBounds, bs]; decide)]
    · rw [h1] at f16
      rw [h2] at f14 f15
      obtain ⟨b', o', ha', _, _, z1⟩ := rdW_at hr hk
      cases ha'
      have i0k : (0 : Int) ≤ (k : Int) := by omega
      have i1k : (k : Int) < (l.length : Int) := by omega
      generalize l[0].tick = t0 at *
      generalize l[k].tick = tk at *
      clear h1 h2 HI hr x1
      conv => arg 2; whnf
      go_wp2_with fail
      refine CH.out.mono ?_; rintro e w2 ⟨rfl, hI2, _⟩
      have C2 := Lib.hid (CZ.out _ hI2)
      clear hI2 CH CZ
      go_wp2_with fail
      refine C2.out.mono ?_; rintro e w3 ⟨rfl, hI3, _⟩
      have HI3 := Lib.hid hI3
      clear hI3 C2
      go_wp2_with fail
      refine HQ.out _ _ ⟨?_, ?_, fun i hi he => ?_⟩ ?_ HI3.out
      · try simp only [put_tmps]
        simp only [Array.size_setIfInBounds, bs]
      · first | (simp only [put_defers, bd]; done) | exact bd | rfl
      · try simp only [put_tmps]
        repeat rw [sl_ne _ (by omega)]
      · try simp only [put_tmps]
        repeat first | rw [sl_ne _ (by decide)] | rw [sl_eq _ (by simp only [Array.size_setIfInBounds, bs]; decide)]
end Go.Proofs.Ytpdlpnfaclpgbaa
