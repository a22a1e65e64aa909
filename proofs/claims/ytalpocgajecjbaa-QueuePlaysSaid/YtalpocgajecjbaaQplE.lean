/- A round of QueuePlays, put together of its regions, and the loop. Conditions: as stated. -/
import Derived.Test.YtalpocgajecjbaaQplB
import Derived.Test.YtalpocgajecjbaaQplD
import Derived.Deep.LoopGhost
namespace Go.Proofs.Ytalpocgajecjbaa
open Go.ChangeShapes Go.WideShapes Go.ChangeAt Go.RowKit
set_option linter.unusedVariables false
set_option maxRecDepth 100000
set_option linter.unusedSimpArgs false
set_option maxHeartbeats 4000000

theorem then_q {K : Act → World → Prop} {Q : Exit → Act → World → Prop} {a : Act} {w : World} (h : K a w) : Exit.then K Q .normal a w := h
theorem inBlock_q {Q : Exit → Act → World → Prop} {a : Act} {w : World} {id : Nat} (h : Q .normal a w) : Exit.inBlock id Q .normal a w := h
theorem qround (A : Act) (w wx : World) (Q : Exit → Act → World → Prop) (K : Act → World → Prop) (k n cap ba oa bh bz : Nat) (id : Int) (hid : inI id) (row : Value) (l : List Jb) (act : ActQ) (hlt : k < n) (hn : n ≤ 80) (HC : ∀ w', Below wx.heap.size wx w' → ActJ ba (oa + k * 9) act w') (hok : act.j.ok)
    (L : LQ A (.slice (some ⟨ba, oa, none⟩) n cap) id bh bz) (f7 : sl A.tmps 7 = row) (f8 : sl A.tmps 8 = .int .i64 (k : Int)) (hl : l.length ≤ k) (HI : QInv3 wx (fun _ => False) (ptrB bh) l (ptrB bz) l row l w)
    (hK : ∀ A' w' row' l', LQ A' (.slice (some ⟨ba, oa, none⟩) n cap) id bh bz → sl A'.tmps 7 = row' → sl A'.tmps 8 = .int .i64 ((k : Int) + 1) → l'.length ≤ k + 1 → QInv3 wx (fun _ => False) (ptrB bh) l' (ptrB bz) l' row' l' w' → K A' w') :
    Code.wp Try.prog qpL (Exit.then K Q) A w := by
  conv => arg 2; whnf
  repeat refine wp_seq ?_
  refine q6t _ _ _ k n cap _ id bh bz (decide_eq_true hlt) L f8 (fun A0 n0 f35 => ?_)
  repeat first | with_reducible refine then_q ?_ | with_reducible refine inBlock_q ?_
  replace f7 := n0.at_ f7 (by omega) (by omega)
  replace f8 := n0.at_ f8 (by omega) (by omega)
  replace L := L.keep n0 (by omega) (by omega)
  repeat refine wp_seq ?_
  refine wp_cond_true (by exact f35) ?_
  refine wp_skip ?_
  repeat first | with_reducible refine then_q ?_ | with_reducible refine inBlock_q ?_
  repeat refine wp_seq ?_
  refine wp_block ?_
  repeat refine wp_seq ?_
  refine q8 _ _ _ wx k n cap ba oa bh bz id act hlt hn HC L f8 HI.bel (fun A1 n1 f9 => ?_)
  repeat first | with_reducible refine then_q ?_ | with_reducible refine inBlock_q ?_
  replace f7 := n1.at_ f7 (by omega) (by omega)
  replace f8 := n1.at_ f8 (by omega) (by omega)
  replace L := L.keep n1 (by omega) (by omega)
  have HB := jv_blk w act.j
  have HI1 := HI.more (G' := fun q => q = w.heap.size) (jv_below w act.j) (fun q hq => .inr (by rw [hq]; simp))
  have hsz : w.heap.size < (jv w act.j).heap.size := by simp
  generalize w.heap.size = b9 at *
  repeat refine wp_seq ?_
  refine q9 _ _ _ wx (fun q => q = b9) bh bz id (.slice (some ⟨ba, oa, none⟩) n cap) row L l l l act.j b9 (by omega) f7 f9 HB HI1 (fun A2 w2 n2 f10 f11 hb2 => ?_)
  repeat first | with_reducible refine then_q ?_ | with_reducible refine inBlock_q ?_
  replace f7 := n2.at_ f7 (by omega) (by omega)
  replace f8 := n2.at_ f8 (by omega) (by omega)
  replace f9 := n2.at_ f9 (by omega) (by omega)
  replace L := L.keep n2 (by omega) (by omega)
  have hbb := hb2.trans ((jv_below w2 ((getJ l act.j.id).getD zeroJ)).mono hb2.size)
  replace HI1 := HI1.below hbb
  replace HB := HB.below hbb hsz
  clear hb2 hbb hsz
  generalize jv w2 ((getJ l act.j.id).getD zeroJ) = w3 at *
  repeat refine wp_seq ?_
  refine q10 _ _ _ wx k n cap ba oa bh bz id act hlt hn HC L f8 HI1.bel (fun A3 n3 f54 => ?_)
  repeat first | with_reducible refine then_q ?_ | with_reducible refine inBlock_q ?_
  replace f7 := n3.at_ f7 (by omega) (by omega)
  replace f8 := n3.at_ f8 (by omega) (by omega)
  replace f9 := n3.at_ f9 (by omega) (by omega)
  replace f11 := n3.at_ f11 (by omega) (by omega)
  replace L := L.keep n3 (by omega) (by omega)
  repeat refine wp_seq ?_
  refine fv_cut (fun A' w' => ∃ row' l', LQ A' (.slice (some ⟨ba, oa, none⟩) n cap) id bh bz ∧ sl A'.tmps 7 = row' ∧ sl A'.tmps 8 = .int .i64 (k : Int) ∧ l'.length ≤ k + 1 ∧ QInv3 wx (fun _ => False) (ptrB bh) l' (ptrB bz) l' row' l' w') ?_ ?_
  · refine wp_block ?_
    by_cases hk1 : act.kind = 1
    · have e1 : (act.kind == 1) = true := by rw [hk1]; rfl
      repeat refine wp_seq ?_
      refine q19 _ _ _ _ _ e1 n3.1 n3.2.1 f54 (fun A4 n4 f108 => ?_)
      repeat first | with_reducible refine then_q ?_ | with_reducible refine inBlock_q ?_
      replace f7 := n4.at_ f7 (by omega) (by omega)
      replace f8 := n4.at_ f8 (by omega) (by omega)
      replace f9 := n4.at_ f9 (by omega) (by omega)
      replace f11 := n4.at_ f11 (by omega) (by omega)
      replace L := L.keep n4 (by omega) (by omega)
      repeat refine wp_seq ?_
      refine wp_cond_true (by exact f108) ?_
      repeat refine wp_seq ?_
      refine q20 _ _ _ wx (fun q => q = b9) bh bz id (.slice (some ⟨ba, oa, none⟩) n cap) row L l (by omega) act.j hok b9 f9 HB rfl HI1 (fun A5 w5 n5 f125 HI5 hs5 => ?_)
      repeat first | with_reducible refine then_q ?_ | with_reducible refine inBlock_q ?_
      replace f7 := n5.at_ f7 (by omega) (by omega)
      replace f8 := n5.at_ f8 (by omega) (by omega)
      replace f9 := n5.at_ f9 (by omega) (by omega)
      replace L := L.keep n5 (by omega) (by omega)
      repeat refine wp_seq ?_
      refine wp_cond_false (by exact f125) ?_
      refine wp_skip ?_
      repeat first | with_reducible refine then_q ?_ | with_reducible refine inBlock_q ?_
      have HB5 : BJob b9 act.j w5 := (hs5 b9 rfl).trans HB
      repeat refine wp_seq ?_
      refine q22 _ _ _ wx (fun q => q = b9) bh bz id (.slice (some ⟨ba, oa, none⟩) n cap) row L l _ (by omega) act.j b9 f7 f9 HB5 HI5 (fun A6 w6 row6 n6 f7' HI6 hs6 => ?_)
      repeat first | with_reducible refine then_q ?_ | with_reducible refine inBlock_q ?_
      have := putJ_le l act.j
      replace f8 := n6.at_ f8 (by omega) (by omega)
      replace L := L.keep n6 (by omega) (by omega)
      exact ⟨rfl, row6, _, L, f7', f8, by omega, HI6.less fun _ h => h.elim⟩
    · have e1 : (act.kind == 1) = false := beq_false_of_ne hk1
      repeat refine wp_seq ?_
      refine q19 _ _ _ _ _ e1 n3.1 n3.2.1 f54 (fun A4 n4 f108 => ?_)
      repeat first | with_reducible refine then_q ?_ | with_reducible refine inBlock_q ?_
      replace f7 := n4.at_ f7 (by omega) (by omega)
      replace f8 := n4.at_ f8 (by omega) (by omega)
      replace f9 := n4.at_ f9 (by omega) (by omega)
      replace f11 := n4.at_ f11 (by omega) (by omega)
      replace L := L.keep n4 (by omega) (by omega)
      repeat refine wp_seq ?_
      refine wp_cond_false (by exact f108) ?_
      by_cases hk2 : act.kind = 2
      · have e2 : (act.kind == 2) = true := by rw [hk2]; rfl
        replace f54 := n4.at_ f54 (by omega) (by omega)
        repeat refine wp_seq ?_
        refine q23 _ _ _ _ _ e2 n4.1 n4.2.1 f54 (fun A5 n5 f129 => ?_)
        repeat first | with_reducible refine then_q ?_ | with_reducible refine inBlock_q ?_
        replace f7 := n5.at_ f7 (by omega) (by omega)
        replace f8 := n5.at_ f8 (by omega) (by omega)
        replace f9 := n5.at_ f9 (by omega) (by omega)
        replace f11 := n5.at_ f11 (by omega) (by omega)
        replace L := L.keep n5 (by omega) (by omega)
        repeat refine wp_seq ?_
        refine wp_cond_true (by exact f129) ?_
        repeat refine wp_seq ?_
        refine q24 _ _ _ wx (fun q => q = b9) bh bz id (.slice (some ⟨ba, oa, none⟩) n cap) row L l (by omega) act.j hok b9 f9 HB rfl f11 HI1 (fun A6 w6 n6 f144 HI6 hs6 => ?_)
        repeat first | with_reducible refine then_q ?_ | with_reducible refine inBlock_q ?_
        replace f7 := n6.at_ f7 (by omega) (by omega)
        replace f8 := n6.at_ f8 (by omega) (by omega)
        replace f9 := n6.at_ f9 (by omega) (by omega)
        replace L := L.keep n6 (by omega) (by omega)
        repeat refine wp_seq ?_
        refine wp_cond_false (by exact f144) ?_
        refine wp_skip ?_
        repeat first | with_reducible refine then_q ?_ | with_reducible refine inBlock_q ?_
        have HB6 : BJob b9 act.j w6 := (hs6 b9 rfl).trans HB
        repeat refine wp_seq ?_
        refine q26 _ _ _ wx (fun q => q = b9) bh bz id (.slice (some ⟨ba, oa, none⟩) n cap) row L l _ (by omega) act.j b9 f7 f9 HB6 HI6 (fun A7 w7 row7 n7 f7' HI7 hs7 => ?_)
        repeat first | with_reducible refine then_q ?_ | with_reducible refine inBlock_q ?_
        have := dropJ_le l act.j.id
        replace f8 := n7.at_ f8 (by omega) (by omega)
        replace L := L.keep n7 (by omega) (by omega)
        exact ⟨rfl, row7, _, L, f7', f8, by omega, HI7.less fun _ h => h.elim⟩
      · have e2 : (act.kind == 2) = false := beq_false_of_ne hk2
        replace f54 := n4.at_ f54 (by omega) (by omega)
        repeat refine wp_seq ?_
        refine q23 _ _ _ _ _ e2 n4.1 n4.2.1 f54 (fun A5 n5 f129 => ?_)
        repeat first | with_reducible refine then_q ?_ | with_reducible refine inBlock_q ?_
        replace f7 := n5.at_ f7 (by omega) (by omega)
        replace f8 := n5.at_ f8 (by omega) (by omega)
        replace f9 := n5.at_ f9 (by omega) (by omega)
        replace f11 := n5.at_ f11 (by omega) (by omega)
        replace L := L.keep n5 (by omega) (by omega)
        repeat refine wp_seq ?_
        refine wp_cond_false (by exact f129) ?_
        repeat refine wp_seq ?_
        refine q11 _ _ _ wx (fun q => q = b9) bh bz id (.slice (some ⟨ba, oa, none⟩) n cap) row L l l l (by omega) HI1 (fun A6 w6 n6 f12 f13 hb6 => ?_)
        repeat first | with_reducible refine then_q ?_ | with_reducible refine inBlock_q ?_
        replace f7 := n6.at_ f7 (by omega) (by omega)
        replace f8 := n6.at_ f8 (by omega) (by omega)
        replace L := L.keep n6 (by omega) (by omega)
        have HB12 := jv_blk w6 (headJ l)
        have hbb := hb6.trans ((jv_below w6 (headJ l)).mono hb6.size)
        have HI6 := HI1.more (G' := fun q => q = w6.heap.size) hbb (fun q hq => .inr (by have := hb6.size; rw [hq]; exact ⟨this, by simp⟩))
        clear hb6 hbb
        generalize w6.heap.size = b12 at *
        generalize jv w6 (headJ l) = w7 at *
        by_cases hk3 : act.kind = 3
        · cases l with
          | nil =>
            have e3 : (act.kind == 3) = true := by rw [hk3]; rfl
            repeat refine wp_seq ?_
            refine q12 _ _ _ wx k n cap ba oa bh bz id act hlt hn HC L f8 HI6.bel true e3 (fun A7 n7 f65 => ?_)
            repeat first | with_reducible refine then_q ?_ | with_reducible refine inBlock_q ?_
            replace f7 := n7.at_ f7 (by omega) (by omega)
            replace f8 := n7.at_ f8 (by omega) (by omega)
            replace f12 := n7.at_ f12 (by omega) (by omega)
            replace f13 := n7.at_ f13 (by omega) (by omega)
            replace L := L.keep n7 (by omega) (by omega)
            repeat refine wp_seq ?_
            refine wp_cond_true (by exact f65) ?_
            repeat refine wp_seq ?_
            refine q13 _ _ _ wx (fun q => q = b12) bh bz id (.slice (some ⟨ba, oa, none⟩) n cap) row L [] [] [] (by omega) (headJ []) b12 f12 HB12 rfl HI6 (fun A8 w8 n8 f13' HB8 HI8 hs8 => ?_)
            repeat first | with_reducible refine then_q ?_ | with_reducible refine inBlock_q ?_
            clear f13
            rename sl A8.tmps 13 = _ => f13
            replace f7 := n8.at_ f7 (by omega) (by omega)
            replace f8 := n8.at_ f8 (by omega) (by omega)
            replace f12 := n8.at_ f12 (by omega) (by omega)
            replace L := L.keep n8 (by omega) (by omega)
            repeat refine wp_seq ?_
            refine q14 _ _ _ wx (fun q => q = b12) bh bz id (.slice (some ⟨ba, oa, none⟩) n cap) row L [] _ _ (by simp at hl ⊢; try omega) HI8 (fun A9 w9 n9 HI9 hs9 => ?_)
            repeat first | with_reducible refine then_q ?_ | with_reducible refine inBlock_q ?_
            replace f7 := n9.at_ f7 (by omega) (by omega)
            replace f8 := n9.at_ f8 (by omega) (by omega)
            replace f12 := n9.at_ f12 (by omega) (by omega)
            replace f13 := n9.at_ f13 (by omega) (by omega)
            replace L := L.keep n9 (by omega) (by omega)
            have HB9 : BJob b12 (headJ []) w9 := (hs9 b12 rfl).trans HB8
            repeat refine wp_seq ?_
            refine q15_nil _ _ _ wx (fun q => q = b12) bh bz id (.slice (some ⟨ba, oa, none⟩) n cap) row L _ _ b12 f7 f12 f13 HB9 HI9 (fun A10 w10 n10 f96 hb10 => ?_)
            repeat first | with_reducible refine then_q ?_ | with_reducible refine inBlock_q ?_
            replace f7 := n10.at_ f7 (by omega) (by omega)
            replace f8 := n10.at_ f8 (by omega) (by omega)
            replace f13 := n10.at_ f13 (by omega) (by omega)
            replace L := L.keep n10 (by omega) (by omega)
            repeat refine wp_seq ?_
            refine wp_cond_false (by exact f96) ?_
            refine wp_skip ?_
            repeat first | with_reducible refine then_q ?_ | with_reducible refine inBlock_q ?_
            have HI10 := HI9.below hb10
            repeat refine wp_seq ?_
            refine q17tf _ _ _ wx k n cap ba oa bh bz id act hlt hn HC L f8 HI10.bel e3 f13 (fun A11 n11 f105 => ?_)
            repeat first | with_reducible refine then_q ?_ | with_reducible refine inBlock_q ?_
            replace f7 := n11.at_ f7 (by omega) (by omega)
            replace f8 := n11.at_ f8 (by omega) (by omega)
            replace L := L.keep n11 (by omega) (by omega)
            repeat refine wp_seq ?_
            refine wp_cond_false (by exact f105) ?_
            refine wp_skip ?_
            repeat first | with_reducible refine then_q ?_ | with_reducible refine inBlock_q ?_
            exact ⟨rfl, _, [], L, f7, f8, by simp at hl ⊢; try omega, HI10.less fun _ h => h.elim⟩
          | cons x r =>
            have e3 : (act.kind == 3) = true := by rw [hk3]; rfl
            repeat refine wp_seq ?_
            refine q12 _ _ _ wx k n cap ba oa bh bz id act hlt hn HC L f8 HI6.bel true e3 (fun A7 n7 f65 => ?_)
            repeat first | with_reducible refine then_q ?_ | with_reducible refine inBlock_q ?_
            replace f7 := n7.at_ f7 (by omega) (by omega)
            replace f8 := n7.at_ f8 (by omega) (by omega)
            replace f12 := n7.at_ f12 (by omega) (by omega)
            replace f13 := n7.at_ f13 (by omega) (by omega)
            replace L := L.keep n7 (by omega) (by omega)
            repeat refine wp_seq ?_
            refine wp_cond_true (by exact f65) ?_
            repeat refine wp_seq ?_
            refine q13 _ _ _ wx (fun q => q = b12) bh bz id (.slice (some ⟨ba, oa, none⟩) n cap) row L (x :: r) (x :: r) (x :: r) (by omega) (headJ (x :: r)) b12 f12 HB12 rfl HI6 (fun A8 w8 n8 f13' HB8 HI8 hs8 => ?_)
            repeat first | with_reducible refine then_q ?_ | with_reducible refine inBlock_q ?_
            clear f13
            rename sl A8.tmps 13 = _ => f13
            replace f7 := n8.at_ f7 (by omega) (by omega)
            replace f8 := n8.at_ f8 (by omega) (by omega)
            replace f12 := n8.at_ f12 (by omega) (by omega)
            replace L := L.keep n8 (by omega) (by omega)
            repeat refine wp_seq ?_
            refine q14 _ _ _ wx (fun q => q = b12) bh bz id (.slice (some ⟨ba, oa, none⟩) n cap) row L (x :: r) _ _ (by simp at hl ⊢; try omega) HI8 (fun A9 w9 n9 HI9 hs9 => ?_)
            repeat first | with_reducible refine then_q ?_ | with_reducible refine inBlock_q ?_
            replace f7 := n9.at_ f7 (by omega) (by omega)
            replace f8 := n9.at_ f8 (by omega) (by omega)
            replace f12 := n9.at_ f12 (by omega) (by omega)
            replace f13 := n9.at_ f13 (by omega) (by omega)
            replace L := L.keep n9 (by omega) (by omega)
            have HB9 : BJob b12 (headJ (x :: r)) w9 := (hs9 b12 rfl).trans HB8
            repeat refine wp_seq ?_
            refine q15_cons _ _ _ wx (fun q => q = b12) bh bz id (.slice (some ⟨ba, oa, none⟩) n cap) row L _ _ x r b12 f7 f12 f13 HB9 HI9 (fun A10 w10 n10 f96 hb10 => ?_)
            repeat first | with_reducible refine then_q ?_ | with_reducible refine inBlock_q ?_
            replace f7 := n10.at_ f7 (by omega) (by omega)
            replace f8 := n10.at_ f8 (by omega) (by omega)
            replace f13 := n10.at_ f13 (by omega) (by omega)
            replace L := L.keep n10 (by omega) (by omega)
            repeat refine wp_seq ?_
            refine wp_cond_false (by exact f96) ?_
            refine wp_skip ?_
            repeat first | with_reducible refine then_q ?_ | with_reducible refine inBlock_q ?_
            have HI10 := HI9.below hb10
            repeat refine wp_seq ?_
            refine q17tt _ _ _ wx k n cap ba oa bh bz id act hlt hn HC L f8 HI10.bel e3 f13 (fun A11 n11 f105 => ?_)
            repeat first | with_reducible refine then_q ?_ | with_reducible refine inBlock_q ?_
            replace f7 := n11.at_ f7 (by omega) (by omega)
            replace f8 := n11.at_ f8 (by omega) (by omega)
            replace L := L.keep n11 (by omega) (by omega)
            obtain ⟨AR, cR, rfl, hcR, _⟩ := HI10.form
            obtain ⟨br, or_, rfl, _⟩ := HI10.at_ (k := 0) (by simp)
            repeat refine wp_seq ?_
            refine wp_cond_true (by exact f105) ?_
            repeat refine wp_seq ?_
            refine q18 _ _ _ _ cR br or_ (by simp) hcR (by simp at hl ⊢; omega) L.bs L.bd f7 (fun A12 n12 f7' => ?_)
            repeat first | with_reducible refine then_q ?_ | with_reducible refine inBlock_q ?_
            replace f8 := n12.at_ f8 (by omega) (by omega)
            replace L := L.keep n12 (by omega) (by omega)
            exact ⟨rfl, _, r, L, f7', f8, by simp at hl; omega, qinv_tail (HI10.less fun _ h => h.elim) (by simp)⟩
        · cases l with
          | nil =>
            have e3 : (act.kind == 3) = false := beq_false_of_ne hk3
            repeat refine wp_seq ?_
            refine q12 _ _ _ wx k n cap ba oa bh bz id act hlt hn HC L f8 HI6.bel false e3 (fun A9 n9 f65 => ?_)
            repeat first | with_reducible refine then_q ?_ | with_reducible refine inBlock_q ?_
            replace f7 := n9.at_ f7 (by omega) (by omega)
            replace f8 := n9.at_ f8 (by omega) (by omega)
            replace f12 := n9.at_ f12 (by omega) (by omega)
            replace f13 := n9.at_ f13 (by omega) (by omega)
            replace L := L.keep n9 (by omega) (by omega)
            repeat refine wp_seq ?_
            refine wp_cond_false (by exact f65) ?_
            refine wp_skip ?_
            repeat first | with_reducible refine then_q ?_ | with_reducible refine inBlock_q ?_
            have HB9 := HB12
            have HI9 := HI6
            repeat refine wp_seq ?_
            refine q15_nil _ _ _ wx (fun q => q = b12) bh bz id (.slice (some ⟨ba, oa, none⟩) n cap) row L _ _ b12 f7 f12 f13 HB9 HI9 (fun A10 w10 n10 f96 hb10 => ?_)
            repeat first | with_reducible refine then_q ?_ | with_reducible refine inBlock_q ?_
            replace f7 := n10.at_ f7 (by omega) (by omega)
            replace f8 := n10.at_ f8 (by omega) (by omega)
            replace f13 := n10.at_ f13 (by omega) (by omega)
            replace L := L.keep n10 (by omega) (by omega)
            repeat refine wp_seq ?_
            refine wp_cond_false (by exact f96) ?_
            refine wp_skip ?_
            repeat first | with_reducible refine then_q ?_ | with_reducible refine inBlock_q ?_
            have HI10 := HI9.below hb10
            repeat refine wp_seq ?_
            refine q17ff _ _ _ wx k n cap ba oa bh bz id act hlt hn HC L f8 HI10.bel e3 f13 (fun A11 n11 f105 => ?_)
            repeat first | with_reducible refine then_q ?_ | with_reducible refine inBlock_q ?_
            replace f7 := n11.at_ f7 (by omega) (by omega)
            replace f8 := n11.at_ f8 (by omega) (by omega)
            replace L := L.keep n11 (by omega) (by omega)
            repeat refine wp_seq ?_
            refine wp_cond_false (by exact f105) ?_
            refine wp_skip ?_
            repeat first | with_reducible refine then_q ?_ | with_reducible refine inBlock_q ?_
            exact ⟨rfl, _, [], L, f7, f8, by simp at hl ⊢; try omega, HI10.less fun _ h => h.elim⟩
          | cons x r =>
            have e3 : (act.kind == 3) = false := beq_false_of_ne hk3
            repeat refine wp_seq ?_
            refine q12 _ _ _ wx k n cap ba oa bh bz id act hlt hn HC L f8 HI6.bel false e3 (fun A9 n9 f65 => ?_)
            repeat first | with_reducible refine then_q ?_ | with_reducible refine inBlock_q ?_
            replace f7 := n9.at_ f7 (by omega) (by omega)
            replace f8 := n9.at_ f8 (by omega) (by omega)
            replace f12 := n9.at_ f12 (by omega) (by omega)
            replace f13 := n9.at_ f13 (by omega) (by omega)
            replace L := L.keep n9 (by omega) (by omega)
            repeat refine wp_seq ?_
            refine wp_cond_false (by exact f65) ?_
            refine wp_skip ?_
            repeat first | with_reducible refine then_q ?_ | with_reducible refine inBlock_q ?_
            have HB9 := HB12
            have HI9 := HI6
            repeat refine wp_seq ?_
            refine q15_cons _ _ _ wx (fun q => q = b12) bh bz id (.slice (some ⟨ba, oa, none⟩) n cap) row L _ _ x r b12 f7 f12 f13 HB9 HI9 (fun A10 w10 n10 f96 hb10 => ?_)
            repeat first | with_reducible refine then_q ?_ | with_reducible refine inBlock_q ?_
            replace f7 := n10.at_ f7 (by omega) (by omega)
            replace f8 := n10.at_ f8 (by omega) (by omega)
            replace f13 := n10.at_ f13 (by omega) (by omega)
            replace L := L.keep n10 (by omega) (by omega)
            repeat refine wp_seq ?_
            refine wp_cond_false (by exact f96) ?_
            refine wp_skip ?_
            repeat first | with_reducible refine then_q ?_ | with_reducible refine inBlock_q ?_
            have HI10 := HI9.below hb10
            repeat refine wp_seq ?_
            refine q17ft _ _ _ wx k n cap ba oa bh bz id act hlt hn HC L f8 HI10.bel e3 f13 (fun A11 n11 f105 => ?_)
            repeat first | with_reducible refine then_q ?_ | with_reducible refine inBlock_q ?_
            replace f7 := n11.at_ f7 (by omega) (by omega)
            replace f8 := n11.at_ f8 (by omega) (by omega)
            replace L := L.keep n11 (by omega) (by omega)
            repeat refine wp_seq ?_
            refine wp_cond_false (by exact f105) ?_
            refine wp_skip ?_
            repeat first | with_reducible refine then_q ?_ | with_reducible refine inBlock_q ?_
            exact ⟨rfl, _, (x :: r), L, f7, f8, by simp at hl ⊢; try omega, HI10.less fun _ h => h.elim⟩
  · rintro Ac wc ⟨rowc, l', Lc, c7, c8, hl', HIc⟩
    clear L f7 f8 f9 f11 f54 HB HI HI1
    rename LQ Ac _ _ _ _ => L
    rename sl Ac.tmps 7 = _ => f7
    rename sl Ac.tmps 8 = _ => f8
    repeat first | with_reducible refine then_q ?_ | with_reducible refine inBlock_q ?_
    repeat refine wp_seq ?_
    refine q27 _ _ _ wx (fun _ => False) bh bz id (.slice (some ⟨ba, oa, none⟩) n cap) rowc L l' l' l' hid HIc (fun A1' w1' n1' f14 f15 hb1 => ?_)
    repeat first | with_reducible refine then_q ?_ | with_reducible refine inBlock_q ?_
    replace f7 := n1'.at_ f7 (by omega) (by omega)
    replace f8 := n1'.at_ f8 (by omega) (by omega)
    replace L := L.keep n1' (by omega) (by omega)
    have HB14 := jv_blk w1' ((getJ l' id).getD zeroJ)
    have hbb := hb1.trans ((jv_below w1' ((getJ l' id).getD zeroJ)).mono hb1.size)
    replace HIc := HIc.below hbb
    clear hb1 hbb
    generalize w1'.heap.size = b14 at *
    generalize jv w1' ((getJ l' id).getD zeroJ) = w2' at *
    repeat refine wp_seq ?_
    refine q28 _ _ _ wx (fun _ => False) bh bz id (.slice (some ⟨ba, oa, none⟩) n cap) rowc L l' l' l' (by omega) f7 HIc (fun A2' w3' n2' f16 f17 hb3 => ?_)
    repeat first | with_reducible refine then_q ?_ | with_reducible refine inBlock_q ?_
    replace f7 := n2'.at_ f7 (by omega) (by omega)
    replace f8 := n2'.at_ f8 (by omega) (by omega)
    replace f14 := n2'.at_ f14 (by omega) (by omega)
    replace f15 := n2'.at_ f15 (by omega) (by omega)
    replace L := L.keep n2' (by omega) (by omega)
    have HB16 := jv_blk w3' ((getJ l' id).getD zeroJ)
    have hbb := hb3.trans ((jv_below w3' ((getJ l' id).getD zeroJ)).mono hb3.size)
    replace HIc := HIc.below hbb
    replace HB14 := HB14.below hbb HB14.lt
    clear hb3 hbb
    generalize w3'.heap.size = b16 at *
    generalize jv w3' ((getJ l' id).getD zeroJ) = w4' at *
    repeat refine wp_seq ?_
    refine q29 _ _ _ wx (fun _ => False) bh bz id (.slice (some ⟨ba, oa, none⟩) n cap) rowc L l' (by omega) _ _ b14 b16 f7 f14 f15 f16 f17 HB14 HB16 HIc (fun A3' w5' n3' f189 hb5 => ?_)
    repeat first | with_reducible refine then_q ?_ | with_reducible refine inBlock_q ?_
    replace f7 := n3'.at_ f7 (by omega) (by omega)
    replace f8 := n3'.at_ f8 (by omega) (by omega)
    replace L := L.keep n3' (by omega) (by omega)
    repeat refine wp_seq ?_
    refine wp_cond_false (by exact f189) ?_
    refine wp_skip ?_
    repeat first | with_reducible refine then_q ?_ | with_reducible refine inBlock_q ?_
    repeat refine wp_seq ?_
    refine q7 _ _ _ k (by omega) L.bs L.bd f8 (fun A4' n4' f8' => ?_)
    repeat first | with_reducible refine then_q ?_ | with_reducible refine inBlock_q ?_
    exact hK _ _ rowc l' (L.keep n4' (by omega) (by omega)) (n4'.at_ f7 (by omega) (by omega)) f8' hl' (HIc.below hb5)
theorem qloop (A : Act) (w wx : World) (Q : Exit → Act → World → Prop) (cap bh bz : Nat) (id : Int) (hid : inI id) (a0 : Option Addr) (acts : List ActQ) (hn : acts.length ≤ 80) (HA : ∀ k (hk : k < acts.length), ∃ b o, a0 = some ⟨b, o, none⟩ ∧ ∀ w', Below wx.heap.size wx w' → ActJ b (o + k * 9) acts[k] w')
    (HOK : ∀ a ∈ acts, a.j.ok) (L : LQ A (.slice a0 acts.length cap) id bh bz) (f7 : sl A.tmps 7 = .slice none 0 0) (f8 : sl A.tmps 8 = .int .i64 0) (HI : QInv3 wx (fun _ => False) (ptrB bh) [] (ptrB bz) [] (.slice none 0 0) [] w)
    (hQ : ∀ A' w' row' l', LQ A' (.slice a0 acts.length cap) id bh bz → QInv3 wx (fun _ => False) (ptrB bh) l' (ptrB bz) l' row' l' w' → Q (.exit 0) A' w') : Code.wp Try.prog (.loop qpL) Q A w := by
  refine wp_loop_ghost (fun g A w => ∃ k row l, k + g = acts.length ∧ LQ A (.slice a0 acts.length cap) id bh bz ∧ sl A.tmps 7 = row ∧ sl A.tmps 8 = .int .i64 (k : Int) ∧ l.length ≤ k ∧ QInv3 wx (fun _ => False) (ptrB bh) l (ptrB bz) l row l w) acts.length ⟨0, _, [], by omega, L, f7, f8, by simp, HI⟩ ?_
  rintro g A w ⟨k, row, l, hkg, L, f7, f8, hl, HI⟩
  by_cases hlt : k < acts.length
  · obtain ⟨ba, oa, rfl, HC⟩ := HA k hlt
    exact qround A w wx Q _ k acts.length cap ba oa bh bz id hid row l acts[k] hlt hn HC (HOK _ (List.getElem_mem hlt)) L f7 f8 hl HI (fun A' w' row' l' L' g7 g8 hl' HI' => ⟨acts.length - (k + 1), by omega, k + 1, row', l', by omega, L', g7, by rw [g8]; rfl, hl', HI'⟩)
  · conv => arg 2; whnf
    repeat refine wp_seq ?_
    refine q6f _ _ _ k acts.length cap a0 id bh bz (decide_eq_false hlt) L f8 (fun A0 n0 h35 => ?_)
    repeat first | with_reducible refine then_q ?_ | with_reducible refine inBlock_q ?_
    repeat refine wp_seq ?_
    refine wp_cond_false (by exact h35) ?_
    refine wp_exit ?_
    exact hQ _ _ _ _ (L.keep n0 (by omega) (by omega)) HI
end Go.Proofs.Ytalpocgajecjbaa
