/- A round of HeapPlays, put together of its regions, and the loop. Conditions: as stated. -/
import Derived.Test.YtfknmokidjgeiaaHpB
import Derived.Test.YtfknmokidjgeiaaHpC
import Derived.Test.YtfknmokidjgeiaaHpD
import Derived.Deep.LoopGhost
namespace Go.Proofs.Ytfknmokidjgeiaa
open Go.ChangeShapes Go.WideShapes Go.ChangeAt Go.RowKit
set_option linter.unusedVariables false
set_option maxRecDepth 100000
set_option linter.unusedSimpArgs false
set_option maxHeartbeats 4000000

theorem then_n {K : Act → World → Prop} {Q : Exit → Act → World → Prop} {a : Act} {w : World} (h : K a w) : Exit.then K Q .normal a w := h
theorem inBlock_n {Q : Exit → Act → World → Prop} {a : Act} {w : World} {id : Nat} (h : Q .normal a w) : Exit.inBlock id Q .normal a w := h
theorem idx_neg (f : Option Nat) : decide (idxI f < 0) = f.isNone := by
  cases f with
  | none => rfl
  | some k => exact decide_eq_false (by show ¬ ((k : Int) < 0); omega)
theorem idx_pos (f : Option Nat) : decide ((0 : Int) ≤ idxI f) = f.isSome ∧ decide (idxI f ≥ (0 : Int)) = f.isSome := by
  cases f with
  | none => exact ⟨rfl, rfl⟩
  | some k => exact ⟨decide_eq_true (by show (0 : Int) ≤ k; omega), decide_eq_true (by show (k : Int) ≥ 0; omega)⟩
theorem tround (A : Act) (w wx : World) (Q : Exit → Act → World → Prop) (K : Act → World → Prop) (k n cap ba oa bh bz b7 : Nat) (id : Int) (hid : inI id) (row : Value) (l : List Thg) (act : ActH) (hlt : k < n) (hn : n ≤ 120) (HC : ActAt wx ba oa k act) (hok : act.t.ok)
    (L : LF A (.slice (some ⟨ba, oa, none⟩) n cap) id b7 bh bz) (f11 : sl A.tmps 11 = row) (f12 : sl A.tmps 12 = .int .i64 (k : Int)) (hl : l.length ≤ k) (HI : Inv3 wx (fun _ => False) (.pointer (some ⟨bh, 0, none⟩)) l (.pointer (some ⟨bz, 0, none⟩)) l row l w)
    (hK : ∀ A' w' row' l', LF A' (.slice (some ⟨ba, oa, none⟩) n cap) id b7 bh bz → sl A'.tmps 11 = row' → sl A'.tmps 12 = .int .i64 ((k + 1 : Nat) : Int) → l'.length ≤ k + 1 → Inv3 wx (fun _ => False) (.pointer (some ⟨bh, 0, none⟩)) l' (.pointer (some ⟨bz, 0, none⟩)) l' row' l' w' → K A' w') :
    Code.wp Try.prog hpL (Exit.then K Q) A w := by
  conv => arg 2; whnf
  repeat refine wp_seq ?_
  refine t7t _ _ _ wx k n cap ba oa bh bz b7 id _ (decide_eq_true hlt) L f12 (fun A0 n0 h55 => ?_)
  repeat first | with_reducible refine then_n ?_ | with_reducible refine inBlock_n ?_
  have L0 := L.keep n0 (by omega)
  repeat refine wp_seq ?_
  refine wp_cond_true (by exact h55) ?_
  refine wp_skip ?_
  repeat first | with_reducible refine then_n ?_ | with_reducible refine inBlock_n ?_
  repeat refine wp_seq ?_
  refine wp_block ?_
  repeat refine wp_seq ?_
  refine t9 _ _ _ wx k _ _ _ _ _ _ _ _ _ _ act hlt hn HC L0 (n0.at_ f11 (by omega)) (n0.at_ f12 (by omega)) (by omega) HI (fun A1 n1 g13 => ?_)
  repeat first | with_reducible refine then_n ?_ | with_reducible refine inBlock_n ?_
  have L1 := L0.keep n1 (by omega)
  repeat refine wp_seq ?_
  refine t10 _ _ _ wx k _ _ _ _ _ _ _ _ act hlt hn HC L1 (n1.at_ (n0.at_ f12 (by omega)) (by omega)) HI.bel (fun A2 n2 h69 => ?_)
  repeat first | with_reducible refine then_n ?_ | with_reducible refine inBlock_n ?_
  have L2 := L1.keep n2 (by omega)
  have g11 := n2.at_ (n1.at_ (n0.at_ f11 (by omega)) (by omega)) (by omega)
  have g12 := n2.at_ (n1.at_ (n0.at_ f12 (by omega)) (by omega)) (by omega)
  replace g13 := n2.at_ g13 (by omega)
  repeat refine wp_seq ?_
  refine fv_cut (fun A' w' => ∃ row' l', LF A' (.slice (some ⟨ba, oa, none⟩) n cap) id b7 bh bz ∧ sl A'.tmps 11 = row' ∧ sl A'.tmps 12 = .int .i64 (k : Int) ∧ l'.length ≤ k + 1 ∧ Inv3 wx (fun _ => False) (.pointer (some ⟨bh, 0, none⟩)) l' (.pointer (some ⟨bz, 0, none⟩)) l' row' l' w') ?_ ?_
  · refine wp_block ?_
    by_cases hk1 : act.kind = 1
    · have e1 : (act.kind == 1) = true := by rw [hk1]; rfl
      repeat refine wp_seq ?_
      refine t19 _ _ _ _ _ e1 n2.1 n2.2.1 h69 (fun A3 n3 h3 => ?_)
      repeat first | with_reducible refine then_n ?_ | with_reducible refine inBlock_n ?_
      have L3 := L2.keep n3 (by omega)
      repeat refine wp_seq ?_
      refine wp_cond_true (by exact h3) ?_
      repeat refine wp_seq ?_
      refine t20 _ _ _ wx k _ _ _ _ _ _ _ _ _ _ _ _ act hlt hn HC L3 (n3.at_ g12 (by omega)) (n3.at_ g13 (by omega)) (idx_neg _) hok (by omega) rfl HI (fun A4 w4 n4 h4 HI4 => ?_)
      repeat first | with_reducible refine then_n ?_ | with_reducible refine inBlock_n ?_
      have L4 := L3.keep n4 (by omega)
      repeat refine wp_seq ?_
      refine wp_cond_false (by exact h4) ?_
      refine wp_skip ?_
      repeat first | with_reducible refine then_n ?_ | with_reducible refine inBlock_n ?_
      repeat refine wp_seq ?_
      refine t22 _ _ _ wx k _ _ _ _ _ _ _ _ _ _ _ act hlt hn HC L4 (n4.at_ (n3.at_ g11 (by omega)) (by omega)) (n4.at_ (n3.at_ g12 (by omega)) (by omega)) (by omega) HI4 (fun A5 w5 row5 n5 h5 h5' HI5 => ?_)
      repeat first | with_reducible refine then_n ?_ | with_reducible refine inBlock_n ?_
      have := putT_len l act.t
      exact ⟨rfl, row5, _, L4.keep n5 (by omega), h5', h5, by omega, HI5⟩
    · have e1 : (act.kind == 1) = false := beq_false_of_ne hk1
      repeat refine wp_seq ?_
      refine t19 _ _ _ _ _ e1 n2.1 n2.2.1 h69 (fun A3 n3 h3 => ?_)
      repeat first | with_reducible refine then_n ?_ | with_reducible refine inBlock_n ?_
      have L3 := L2.keep n3 (by omega)
      repeat refine wp_seq ?_
      refine wp_cond_false (by exact h3) ?_
      by_cases hk2 : act.kind = 2
      · have e2 : (act.kind == 2) = true := by rw [hk2]; rfl
        repeat refine wp_seq ?_
        refine t23 _ _ _ _ _ e2 n3.1 n3.2.1 (n3.at_ h69 (by omega)) (fun A4 n4 h4 => ?_)
        repeat first | with_reducible refine then_n ?_ | with_reducible refine inBlock_n ?_
        have L4 := L3.keep n4 (by omega)
        have := dropT_len l act.t.id
        cases hf : findT l act.t.id with
        | none =>
          repeat refine wp_seq ?_
          refine wp_cond_true (by exact h4) ?_
          repeat refine wp_seq ?_
          refine t24_none _ _ _ wx k _ _ _ _ _ _ _ _ _ _ _ act hlt hn HC L4 (n4.at_ (n3.at_ g12 (by omega)) (by omega)) (n4.at_ (n3.at_ g13 (by omega)) (by omega)) (by rw [(idx_pos _).1, hf]; rfl) (by rw [(idx_pos _).2, hf]; rfl) (by omega) hok.1 (by rw [hf]; rfl) HI (fun A5 w5 n5 h5 HI5 => ?_)
          repeat first | with_reducible refine then_n ?_ | with_reducible refine inBlock_n ?_
          have L5 := L4.keep n5 (by omega)
          repeat refine wp_seq ?_
          refine wp_cond_false (by exact h5) ?_
          refine wp_skip ?_
          repeat first | with_reducible refine then_n ?_ | with_reducible refine inBlock_n ?_
          repeat refine wp_seq ?_
          refine t26 _ _ _ wx k _ _ _ _ _ _ _ _ _ _ _ act hlt hn HC L5 (n5.at_ (n4.at_ (n3.at_ g11 (by omega)) (by omega)) (by omega)) (n5.at_ (n4.at_ (n3.at_ g12 (by omega)) (by omega)) (by omega)) (by omega) HI5 (fun A6 w6 row6 n6 h6 h6' HI6 => ?_)
          repeat first | with_reducible refine then_n ?_ | with_reducible refine inBlock_n ?_
          exact ⟨rfl, row6, _, L5.keep n6 (by omega), h6', h6, by omega, HI6⟩
        | some j =>
          repeat refine wp_seq ?_
          refine wp_cond_true (by exact h4) ?_
          repeat refine wp_seq ?_
          refine t24_some _ _ _ wx k _ _ _ _ _ _ _ _ _ _ _ act hlt hn HC L4 (n4.at_ (n3.at_ g12 (by omega)) (by omega)) (n4.at_ (n3.at_ g13 (by omega)) (by omega)) (by rw [(idx_pos _).1, hf]; rfl) (by rw [(idx_pos _).2, hf]; rfl) (by omega) hok.1 (by rw [hf]; rfl) HI (fun A5 w5 n5 h5 HI5 => ?_)
          repeat first | with_reducible refine then_n ?_ | with_reducible refine inBlock_n ?_
          have L5 := L4.keep n5 (by omega)
          repeat refine wp_seq ?_
          refine wp_cond_false (by exact h5) ?_
          refine wp_skip ?_
          repeat first | with_reducible refine then_n ?_ | with_reducible refine inBlock_n ?_
          repeat refine wp_seq ?_
          refine t26 _ _ _ wx k _ _ _ _ _ _ _ _ _ _ _ act hlt hn HC L5 (n5.at_ (n4.at_ (n3.at_ g11 (by omega)) (by omega)) (by omega)) (n5.at_ (n4.at_ (n3.at_ g12 (by omega)) (by omega)) (by omega)) (by omega) HI5 (fun A6 w6 row6 n6 h6 h6' HI6 => ?_)
          repeat first | with_reducible refine then_n ?_ | with_reducible refine inBlock_n ?_
          exact ⟨rfl, row6, _, L5.keep n6 (by omega), h6', h6, by omega, HI6⟩
      · have e2 : (act.kind == 2) = false := beq_false_of_ne hk2
        repeat refine wp_seq ?_
        refine t23 _ _ _ _ _ e2 n3.1 n3.2.1 (n3.at_ h69 (by omega)) (fun A4 n4 h4 => ?_)
        repeat first | with_reducible refine then_n ?_ | with_reducible refine inBlock_n ?_
        have L4 := L3.keep n4 (by omega)
        repeat refine wp_seq ?_
        refine wp_cond_false (by exact h4) ?_
        obtain ⟨AR, cR, rfl, hcR, _⟩ := HI.form
        cases l with
        | nil =>
          repeat refine wp_seq ?_
          refine t11_nil _ _ _ wx k _ _ _ _ _ _ _ _ _ L4 (by omega) HI (fun A5 w5 b15 n5 h14 h15 h16 H15 HI5 => ?_)
          repeat first | with_reducible refine then_n ?_ | with_reducible refine inBlock_n ?_
          have L5 := L4.keep n5 (by omega)
          have m11 := n5.at_ (n4.at_ (n3.at_ g11 (by omega)) (by omega)) (by omega)
          have m12 := n5.at_ (n4.at_ (n3.at_ g12 (by omega)) (by omega)) (by omega)
          by_cases hk3 : act.kind = 3
          · have e3 : (act.kind == 3) = true := by rw [hk3]; rfl
            repeat refine wp_seq ?_
            refine t12 _ _ _ wx k _ _ _ _ _ _ _ _ _ act hlt hn HC e3 L5 m12 HI5.bel (fun A6 n6 h81 => ?_)
            repeat first | with_reducible refine then_n ?_ | with_reducible refine inBlock_n ?_
            have L6 := L5.keep n6 (by omega)
            repeat refine wp_seq ?_
            refine wp_cond_true (by exact h81) ?_
            repeat refine wp_seq ?_
            refine t13_nil _ _ _ wx k _ _ _ _ _ _ _ _ _ b15 L6 (n6.at_ h15 (by omega)) (by omega) H15 HI5 (fun A7 w7 n7 p14 p15 p16 H7 HI7 => ?_)
            repeat first | with_reducible refine then_n ?_ | with_reducible refine inBlock_n ?_
            have L7 := L6.keep n7 (by omega)
            repeat refine wp_seq ?_
            refine t14_nil _ _ _ wx k _ _ _ _ _ _ _ _ _ b15 L7 _ (by omega) H7 HI7 (fun A8 w8 n8 H8 HI8 => ?_)
            repeat first | with_reducible refine then_n ?_ | with_reducible refine inBlock_n ?_
            have L8 := L7.keep n8 (by omega)
            replace p14 := n8.at_ p14 (by omega)
            replace p15 := n8.at_ p15 (by omega)
            replace p16 := n8.at_ p16 (by omega)
            have p11 := n8.at_ (n7.at_ (n6.at_ m11 (by omega)) (by omega)) (by omega)
            have p12 := n8.at_ (n7.at_ (n6.at_ m12 (by omega)) (by omega)) (by omega)
            repeat refine wp_seq ?_
            refine t15_nil _ _ wx _ _ _ b15 cR AR ([] : List Thg).tail ([] : List Thg).tail _ L8.bs L8.bd (sl_get p11) (sl_get p14) (sl_get p15) (sl_get p16) H8 HI8 (fun A9 w9 s9 d9 h126 k9 hb9 => ?_)
            repeat first | with_reducible refine then_n ?_ | with_reducible refine inBlock_n ?_
            have n9 : Near 90 A8 A9 := ⟨s9, d9, k9⟩
            have L9 := L8.keep n9 (by omega)
            have HI9 := HI8.below hb9
            repeat refine wp_seq ?_
            refine wp_cond_false (by exact h126) ?_
            refine wp_skip ?_
            repeat first | with_reducible refine then_n ?_ | with_reducible refine inBlock_n ?_
            repeat refine wp_seq ?_
            refine t17_t _ _ _ wx k _ _ _ _ _ _ _ _ false act hlt hn HC e3 L9 (n9.at_ p12 (by omega)) (n9.at_ p16 (by omega)) HI9.bel (fun A10 n10 h135 => ?_)
            repeat first | with_reducible refine then_n ?_ | with_reducible refine inBlock_n ?_
            have L10 := L9.keep n10 (by omega)
            repeat refine wp_seq ?_
            refine wp_cond_false (by exact h135) ?_
            refine wp_skip ?_
            repeat first | with_reducible refine then_n ?_ | with_reducible refine inBlock_n ?_
            exact ⟨rfl, _, [], L10, n10.at_ (n9.at_ p11 (by omega)) (by omega), n10.at_ (n9.at_ p12 (by omega)) (by omega), by simp, HI9.less (fun q hq => hq.elim)⟩
          · have e3 : (act.kind == 3) = false := beq_false_of_ne hk3
            repeat refine wp_seq ?_
            refine t12 _ _ _ wx k _ _ _ _ _ _ _ _ _ act hlt hn HC e3 L5 m12 HI5.bel (fun A8 n8 h81 => ?_)
            repeat first | with_reducible refine then_n ?_ | with_reducible refine inBlock_n ?_
            have L8 := L5.keep n8 (by omega)
            have p14 := n8.at_ h14 (by omega)
            have p15 := n8.at_ h15 (by omega)
            have p16 := n8.at_ h16 (by omega)
            have p11 := n8.at_ m11 (by omega)
            have p12 := n8.at_ m12 (by omega)
            have H8 := H15
            have HI8 := HI5
            repeat refine wp_seq ?_
            refine wp_cond_false (by exact h81) ?_
            refine wp_skip ?_
            repeat first | with_reducible refine then_n ?_ | with_reducible refine inBlock_n ?_
            repeat refine wp_seq ?_
            refine t15_nil _ _ wx _ _ _ b15 cR AR [] [] _ L8.bs L8.bd (sl_get p11) (sl_get p14) (sl_get p15) (sl_get p16) H8 HI8 (fun A9 w9 s9 d9 h126 k9 hb9 => ?_)
            repeat first | with_reducible refine then_n ?_ | with_reducible refine inBlock_n ?_
            have n9 : Near 90 A8 A9 := ⟨s9, d9, k9⟩
            have L9 := L8.keep n9 (by omega)
            have HI9 := HI8.below hb9
            repeat refine wp_seq ?_
            refine wp_cond_false (by exact h126) ?_
            refine wp_skip ?_
            repeat first | with_reducible refine then_n ?_ | with_reducible refine inBlock_n ?_
            repeat refine wp_seq ?_
            refine t17_f _ _ _ wx k _ _ _ _ _ _ _ _ false act hlt hn HC e3 L9 (n9.at_ p12 (by omega)) (n9.at_ p16 (by omega)) HI9.bel (fun A10 n10 h135 => ?_)
            repeat first | with_reducible refine then_n ?_ | with_reducible refine inBlock_n ?_
            have L10 := L9.keep n10 (by omega)
            repeat refine wp_seq ?_
            refine wp_cond_false (by exact h135) ?_
            refine wp_skip ?_
            repeat first | with_reducible refine then_n ?_ | with_reducible refine inBlock_n ?_
            exact ⟨rfl, _, [], L10, n10.at_ (n9.at_ p11 (by omega)) (by omega), n10.at_ (n9.at_ p12 (by omega)) (by omega), by omega, HI9.less (fun q hq => hq.elim)⟩
        | cons t r =>
          repeat refine wp_seq ?_
          refine t11_cons _ _ _ wx k _ _ _ _ _ _ _ _ _ t r L4 (by omega) HI (fun A5 w5 b15 n5 h14 h15 h16 H15 HI5 => ?_)
          repeat first | with_reducible refine then_n ?_ | with_reducible refine inBlock_n ?_
          have L5 := L4.keep n5 (by omega)
          have m11 := n5.at_ (n4.at_ (n3.at_ g11 (by omega)) (by omega)) (by omega)
          have m12 := n5.at_ (n4.at_ (n3.at_ g12 (by omega)) (by omega)) (by omega)
          by_cases hk3 : act.kind = 3
          · have e3 : (act.kind == 3) = true := by rw [hk3]; rfl
            repeat refine wp_seq ?_
            refine t12 _ _ _ wx k _ _ _ _ _ _ _ _ _ act hlt hn HC e3 L5 m12 HI5.bel (fun A6 n6 h81 => ?_)
            repeat first | with_reducible refine then_n ?_ | with_reducible refine inBlock_n ?_
            have L6 := L5.keep n6 (by omega)
            repeat refine wp_seq ?_
            refine wp_cond_true (by exact h81) ?_
            repeat refine wp_seq ?_
            refine t13_cons _ _ _ wx k _ _ _ _ _ _ _ _ _ b15 t r L6 (n6.at_ h15 (by omega)) (by omega) H15 HI5 (fun A7 w7 n7 p14 p15 p16 H7 HI7 => ?_)
            repeat first | with_reducible refine then_n ?_ | with_reducible refine inBlock_n ?_
            have L7 := L6.keep n7 (by omega)
            repeat refine wp_seq ?_
            refine t14_cons _ _ _ wx k _ _ _ _ _ _ _ _ _ b15 t r L7 _ (by omega) H7 HI7 (fun A8 w8 n8 H8 HI8 => ?_)
            repeat first | with_reducible refine then_n ?_ | with_reducible refine inBlock_n ?_
            have L8 := L7.keep n8 (by omega)
            replace p14 := n8.at_ p14 (by omega)
            replace p15 := n8.at_ p15 (by omega)
            replace p16 := n8.at_ p16 (by omega)
            have p11 := n8.at_ (n7.at_ (n6.at_ m11 (by omega)) (by omega)) (by omega)
            have p12 := n8.at_ (n7.at_ (n6.at_ m12 (by omega)) (by omega)) (by omega)
            repeat refine wp_seq ?_
            refine t15_cons _ _ wx _ _ _ b15 cR AR t r ((t :: r) : List Thg).tail ((t :: r) : List Thg).tail _ L8.bs L8.bd (sl_get p11) (sl_get p14) (sl_get p15) (sl_get p16) H8 HI8 (fun A9 w9 s9 d9 h126 k9 hb9 => ?_)
            repeat first | with_reducible refine then_n ?_ | with_reducible refine inBlock_n ?_
            have n9 : Near 90 A8 A9 := ⟨s9, d9, k9⟩
            have L9 := L8.keep n9 (by omega)
            have HI9 := HI8.below hb9
            repeat refine wp_seq ?_
            refine wp_cond_false (by exact h126) ?_
            refine wp_skip ?_
            repeat first | with_reducible refine then_n ?_ | with_reducible refine inBlock_n ?_
            repeat refine wp_seq ?_
            refine t17_t _ _ _ wx k _ _ _ _ _ _ _ _ true act hlt hn HC e3 L9 (n9.at_ p12 (by omega)) (n9.at_ p16 (by omega)) HI9.bel (fun A10 n10 h135 => ?_)
            repeat first | with_reducible refine then_n ?_ | with_reducible refine inBlock_n ?_
            have L10 := L9.keep n10 (by omega)
            obtain ⟨br, or, hAR, _⟩ := inv_head HI9
            cases hAR
            repeat refine wp_seq ?_
            refine wp_cond_true (by exact h135) ?_
            repeat refine wp_seq ?_
            refine t18 _ _ _ wx k _ _ _ _ _ _ _ _ br or _ _ (by simp) hcR L10 (n10.at_ (n9.at_ p11 (by omega)) (by omega)) (n10.at_ (n9.at_ p12 (by omega)) (by omega)) (fun A11 n11 h11 h11' => ?_)
            repeat first | with_reducible refine then_n ?_ | with_reducible refine inBlock_n ?_
            exact ⟨rfl, _, r, L10.keep n11 (by omega), h11', h11, by simp only [List.length_cons] at hl; omega, inv_tail (HI9.less (fun q hq => hq.elim)) (by simp)⟩
          · have e3 : (act.kind == 3) = false := beq_false_of_ne hk3
            repeat refine wp_seq ?_
            refine t12 _ _ _ wx k _ _ _ _ _ _ _ _ _ act hlt hn HC e3 L5 m12 HI5.bel (fun A8 n8 h81 => ?_)
            repeat first | with_reducible refine then_n ?_ | with_reducible refine inBlock_n ?_
            have L8 := L5.keep n8 (by omega)
            have p14 := n8.at_ h14 (by omega)
            have p15 := n8.at_ h15 (by omega)
            have p16 := n8.at_ h16 (by omega)
            have p11 := n8.at_ m11 (by omega)
            have p12 := n8.at_ m12 (by omega)
            have H8 := H15
            have HI8 := HI5
            repeat refine wp_seq ?_
            refine wp_cond_false (by exact h81) ?_
            refine wp_skip ?_
            repeat first | with_reducible refine then_n ?_ | with_reducible refine inBlock_n ?_
            repeat refine wp_seq ?_
            refine t15_cons _ _ wx _ _ _ b15 cR AR t r (t :: r) (t :: r) _ L8.bs L8.bd (sl_get p11) (sl_get p14) (sl_get p15) (sl_get p16) H8 HI8 (fun A9 w9 s9 d9 h126 k9 hb9 => ?_)
            repeat first | with_reducible refine then_n ?_ | with_reducible refine inBlock_n ?_
            have n9 : Near 90 A8 A9 := ⟨s9, d9, k9⟩
            have L9 := L8.keep n9 (by omega)
            have HI9 := HI8.below hb9
            repeat refine wp_seq ?_
            refine wp_cond_false (by exact h126) ?_
            refine wp_skip ?_
            repeat first | with_reducible refine then_n ?_ | with_reducible refine inBlock_n ?_
            repeat refine wp_seq ?_
            refine t17_f _ _ _ wx k _ _ _ _ _ _ _ _ true act hlt hn HC e3 L9 (n9.at_ p12 (by omega)) (n9.at_ p16 (by omega)) HI9.bel (fun A10 n10 h135 => ?_)
            repeat first | with_reducible refine then_n ?_ | with_reducible refine inBlock_n ?_
            have L10 := L9.keep n10 (by omega)
            repeat refine wp_seq ?_
            refine wp_cond_false (by exact h135) ?_
            refine wp_skip ?_
            repeat first | with_reducible refine then_n ?_ | with_reducible refine inBlock_n ?_
            exact ⟨rfl, _, (t :: r), L10, n10.at_ (n9.at_ p11 (by omega)) (by omega), n10.at_ (n9.at_ p12 (by omega)) (by omega), by omega, HI9.less (fun q hq => hq.elim)⟩
  · rintro Ac wc ⟨rowc, l', Lc, c11, c12, hl', HIc⟩
    repeat first | with_reducible refine then_n ?_ | with_reducible refine inBlock_n ?_
    obtain ⟨AR', cR', rfl, _, _⟩ := HIc.form
    cases hf : findT l' id with
    | none =>
      repeat refine wp_seq ?_
      refine t27_none _ _ _ wx k _ _ _ _ _ _ _ _ _ _ hid Lc (by omega) (by rw [hf]; rfl) (keyT_none _ _ hf) HIc (fun A4 w4 b17 n4 h17 h18 H17 HI4 => ?_)
      repeat first | with_reducible refine then_n ?_ | with_reducible refine inBlock_n ?_
      have L4 := Lc.keep n4 (by omega)
      repeat refine wp_seq ?_
      refine t28 _ _ _ wx k _ _ _ _ _ _ _ _ _ _ L4 (n4.at_ c11 (by omega)) (by omega) HI4 (fun A5 n5 h19 => ?_)
      repeat first | with_reducible refine then_n ?_ | with_reducible refine inBlock_n ?_
      have L5 := L4.keep n5 (by omega)
      rw [hf] at h19
      repeat refine wp_seq ?_
      refine t29_none _ _ wx _ bh bz b17 cR' AR' _ (by omega) L5.bs L5.bd (sl_get L5.l9) (sl_get L5.l10) (sl_get (n5.at_ (n4.at_ c11 (by omega)) (by omega))) (sl_get (n5.at_ h17 (by omega))) (sl_get (n5.at_ h18 (by omega))) (sl_get h19) H17 HI4 (fun A6 w6 s6 d6 h271 k6 hb6 => ?_)
      repeat first | with_reducible refine then_n ?_ | with_reducible refine inBlock_n ?_
      have n6 : Near 225 A5 A6 := ⟨s6, d6, k6⟩
      have L6 := L5.keep n6 (by omega)
      repeat refine wp_seq ?_
      refine wp_cond_false (by exact h271) ?_
      refine wp_skip ?_
      repeat first | with_reducible refine then_n ?_ | with_reducible refine inBlock_n ?_
      repeat refine wp_seq ?_
      refine t8 _ _ _ k (by omega) n6.1 n6.2.1 (n6.at_ (n5.at_ (n4.at_ c12 (by omega)) (by omega)) (by omega)) (fun A7 n7 h12 => ?_)
      repeat first | with_reducible refine then_n ?_ | with_reducible refine inBlock_n ?_
      exact hK _ _ _ l' (L6.keep n7 (by omega)) (n7.at_ (n6.at_ (n5.at_ (n4.at_ c11 (by omega)) (by omega)) (by omega)) (by omega)) h12 hl' (HI4.below hb6)
    | some j =>
      obtain ⟨hj, hkj⟩ := keyT_some l' id j hf
      repeat refine wp_seq ?_
      refine t27_some _ _ _ wx k _ _ _ _ _ _ _ _ _ _ hid _ Lc (by omega) (by rw [hf]; rfl) hkj HIc (fun A4 w4 b17 n4 h17 h18 H17 HI4 => ?_)
      repeat first | with_reducible refine then_n ?_ | with_reducible refine inBlock_n ?_
      have L4 := Lc.keep n4 (by omega)
      repeat refine wp_seq ?_
      refine t28 _ _ _ wx k _ _ _ _ _ _ _ _ _ _ L4 (n4.at_ c11 (by omega)) (by omega) HI4 (fun A5 n5 h19 => ?_)
      repeat first | with_reducible refine then_n ?_ | with_reducible refine inBlock_n ?_
      have L5 := L4.keep n5 (by omega)
      rw [hf] at h19
      repeat refine wp_seq ?_
      refine t29_some _ _ wx _ bh bz b17 cR' j AR' _ hj _ rfl (by omega) L5.bs L5.bd (sl_get L5.l9) (sl_get L5.l10) (sl_get (n5.at_ (n4.at_ c11 (by omega)) (by omega))) (sl_get (n5.at_ h17 (by omega))) (sl_get (n5.at_ h18 (by omega))) (sl_get h19) H17 HI4 (fun A6 w6 s6 d6 h271 k6 hb6 => ?_)
      repeat first | with_reducible refine then_n ?_ | with_reducible refine inBlock_n ?_
      have n6 : Near 225 A5 A6 := ⟨s6, d6, k6⟩
      have L6 := L5.keep n6 (by omega)
      repeat refine wp_seq ?_
      refine wp_cond_false (by exact h271) ?_
      refine wp_skip ?_
      repeat first | with_reducible refine then_n ?_ | with_reducible refine inBlock_n ?_
      repeat refine wp_seq ?_
      refine t8 _ _ _ k (by omega) n6.1 n6.2.1 (n6.at_ (n5.at_ (n4.at_ c12 (by omega)) (by omega)) (by omega)) (fun A7 n7 h12 => ?_)
      repeat first | with_reducible refine then_n ?_ | with_reducible refine inBlock_n ?_
      exact hK _ _ _ l' (L6.keep n7 (by omega)) (n7.at_ (n6.at_ (n5.at_ (n4.at_ c11 (by omega)) (by omega)) (by omega)) (by omega)) h12 hl' (HI4.below hb6)
theorem tloop (A : Act) (w wx : World) (Q : Exit → Act → World → Prop) (cap bh bz b7 : Nat) (id : Int) (hid : inI id) (a0 : Option Addr) (acts : List ActH) (hn : acts.length ≤ 120) (HA : ∀ k (hk : k < acts.length), ∃ b o, a0 = some ⟨b, o, none⟩ ∧ ActAt wx b o k acts[k])
    (HOK : ∀ a ∈ acts, a.t.ok) (L : LF A (.slice a0 acts.length cap) id b7 bh bz) (f11 : sl A.tmps 11 = .slice none 0 0) (f12 : sl A.tmps 12 = .int .i64 0) (HI : Inv3 wx (fun _ => False) (.pointer (some ⟨bh, 0, none⟩)) [] (.pointer (some ⟨bz, 0, none⟩)) [] (.slice none 0 0) [] w)
    (hQ : ∀ A' w' row' l', LF A' (.slice a0 acts.length cap) id b7 bh bz → Inv3 wx (fun _ => False) (.pointer (some ⟨bh, 0, none⟩)) l' (.pointer (some ⟨bz, 0, none⟩)) l' row' l' w' → Q (.exit 0) A' w') : Code.wp Try.prog (.loop hpL) Q A w := by
  refine wp_loop_ghost (fun g A w => ∃ k row l, k + g = acts.length ∧ LF A (.slice a0 acts.length cap) id b7 bh bz ∧ sl A.tmps 11 = row ∧ sl A.tmps 12 = .int .i64 (k : Int) ∧ l.length ≤ k ∧ Inv3 wx (fun _ => False) (.pointer (some ⟨bh, 0, none⟩)) l (.pointer (some ⟨bz, 0, none⟩)) l row l w) acts.length ⟨0, _, [], by omega, L, f11, f12, by simp, HI⟩ ?_
  rintro g A w ⟨k, row, l, hkg, L, f11, f12, hl, HI⟩
  by_cases hlt : k < acts.length
  · obtain ⟨ba, oa, rfl, HC⟩ := HA k hlt
    exact tround A w wx Q _ k acts.length cap ba oa bh bz b7 id hid row l acts[k] hlt hn HC (HOK _ (List.getElem_mem hlt)) L f11 f12 hl HI (fun A' w' row' l' L' g11 g12 hl' HI' => ⟨acts.length - (k + 1), by omega, k + 1, row', l', by omega, L', g11, g12, hl', HI'⟩)
  · conv => arg 2; whnf
    repeat refine wp_seq ?_
    refine t7f _ _ _ wx k acts.length cap 0 0 bh bz b7 id a0 (decide_eq_false hlt) L f12 (fun A0 n0 h55 => ?_)
    repeat first | with_reducible refine then_n ?_ | with_reducible refine inBlock_n ?_
    repeat refine wp_seq ?_
    refine wp_cond_false (by exact h55) ?_
    refine wp_exit ?_
    exact hQ _ _ _ _ (L.keep n0 (by omega)) HI
end Go.Proofs.Ytfknmokidjgeiaa
