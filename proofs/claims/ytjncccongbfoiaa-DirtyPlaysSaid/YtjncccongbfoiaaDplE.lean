/- A round of DirtyPlays, put together of its regions, and the loop. Conditions: as stated. -/
import Derived.Test.YtjncccongbfoiaaDplD
import Derived.Deep.LoopGhost
namespace Go.Proofs.Ytjncccongbfoiaa
open Go.ChangeShapes Go.WideShapes Go.ChangeAt Go.RowKit
set_option linter.unusedVariables false
set_option maxRecDepth 100000
set_option linter.unusedSimpArgs false
set_option maxHeartbeats 4000000

theorem then_q {K : Act → World → Prop} {Q : Exit → Act → World → Prop} {a : Act} {w : World} (h : K a w) : Exit.then K Q .normal a w := h
theorem inBlock_q {Q : Exit → Act → World → Prop} {a : Act} {w : World} {id : Nat} (h : Q .normal a w) : Exit.inBlock id Q .normal a w := h
theorem dround (A : Act) (w wx : World) (Q : Exit → Act → World → Prop) (K : Act → World → Prop) (k n cap ba oa bh bz : Nat) (row : Value) (l : List Int) (act : ActD) (hlt : k < n) (hn : n ≤ 120) (HC : ∀ w', Below wx.heap.size wx w' → ActC ba (oa + k * 3) act w') (hok : act.ok)
    (L : LD A (.slice (some ⟨ba, oa, none⟩) n cap) bh bz) (f5 : sl A.tmps 5 = row) (f6 : sl A.tmps 6 = .int .i64 (k : Int)) (hl : l.length ≤ 2 * k) (HI : DInv wx (ptrB bh) l (ptrB bz) l row l w)
    (hK : ∀ A' w' row' l', LD A' (.slice (some ⟨ba, oa, none⟩) n cap) bh bz → sl A'.tmps 5 = row' → sl A'.tmps 6 = .int .i64 ((k : Int) + 1) → l'.length ≤ 2 * (k + 1) → DInv wx (ptrB bh) l' (ptrB bz) l' row' l' w' → K A' w') :
    Code.wp Try.prog dpL (Exit.then K Q) A w := by
  conv => arg 2; whnf
  repeat refine wp_seq ?_
  refine d6t _ _ _ k n cap _ bh bz (decide_eq_true hlt) L f6 (fun A0 n0 f20 => ?_)
  repeat first | with_reducible refine then_q ?_ | with_reducible refine inBlock_q ?_
  replace f5 := n0.at_ f5 (by omega) (by omega)
  replace f6 := n0.at_ f6 (by omega) (by omega)
  replace L := L.keep n0 (by omega) (by omega)
  repeat refine wp_seq ?_
  refine wp_cond_true (by exact f20) ?_
  refine wp_skip ?_
  repeat first | with_reducible refine then_q ?_ | with_reducible refine inBlock_q ?_
  repeat refine wp_seq ?_
  refine wp_block ?_
  obtain ⟨AR, c, hrow, _, _⟩ := HI.form
  have f5' := f5.trans hrow
  repeat refine wp_seq ?_
  refine d8 _ _ _ AR l.length c L.bs L.bd f5' (fun A1 n1 f7 => ?_)
  repeat first | with_reducible refine then_q ?_ | with_reducible refine inBlock_q ?_
  clear f5'
  replace f5 := n1.at_ f5 (by omega) (by omega)
  replace f6 := n1.at_ f6 (by omega) (by omega)
  replace L := L.keep n1 (by omega) (by omega)
  repeat refine wp_seq ?_
  refine d9 _ _ _ wx k n cap ba oa bh bz act hlt hn HC L row l (by omega) f5 f6 HI (fun A2 n2 f8 => ?_)
  repeat first | with_reducible refine then_q ?_ | with_reducible refine inBlock_q ?_
  replace f5 := n2.at_ f5 (by omega) (by omega)
  replace f6 := n2.at_ f6 (by omega) (by omega)
  replace f7 := n2.at_ f7 (by omega) (by omega)
  replace L := L.keep n2 (by omega) (by omega)
  repeat refine wp_seq ?_
  refine d10 _ _ _ wx k n cap ba oa bh bz act hlt hn HC L f6 HI.bel (fun A3 n3 f36 => ?_)
  repeat first | with_reducible refine then_q ?_ | with_reducible refine inBlock_q ?_
  replace f5 := n3.at_ f5 (by omega) (by omega)
  replace f6 := n3.at_ f6 (by omega) (by omega)
  replace f7 := n3.at_ f7 (by omega) (by omega)
  replace f8 := n3.at_ f8 (by omega) (by omega)
  replace L := L.keep n3 (by omega) (by omega)
  repeat refine wp_seq ?_
  refine fv_cut (fun A' w' => ∃ row' l', LD A' (.slice (some ⟨ba, oa, none⟩) n cap) bh bz ∧ sl A'.tmps 5 = row' ∧ sl A'.tmps 6 = .int .i64 (k : Int) ∧ l'.length ≤ 2 * (k + 1) ∧ DInv wx (ptrB bh) l' (ptrB bz) l' row' l' w') ?_ ?_
  · refine wp_block ?_
    by_cases hk1 : act.kind = 1
    · have e1 : (act.kind == 1) = true := by rw [hk1]; rfl
      repeat refine wp_seq ?_
      refine d11 _ _ _ _ _ e1 n3.1 n3.2.1 f36 (fun A4 n4 f37 => ?_)
      repeat first | with_reducible refine then_q ?_ | with_reducible refine inBlock_q ?_
      replace f5 := n4.at_ f5 (by omega) (by omega)
      replace f6 := n4.at_ f6 (by omega) (by omega)
      replace f7 := n4.at_ f7 (by omega) (by omega)
      replace f8 := n4.at_ f8 (by omega) (by omega)
      replace L := L.keep n4 (by omega) (by omega)
      repeat refine wp_seq ?_
      refine wp_cond_true (by exact f37) ?_
      repeat refine wp_seq ?_
      refine d12 _ _ _ wx k n cap ba oa bh bz act hlt hn HC L row l l (by omega) f5 f6 HI (fun A5 w5 row5 n5 f5' HI5 => ?_)
      repeat first | with_reducible refine then_q ?_ | with_reducible refine inBlock_q ?_
      clear f5
      replace f6 := n5.at_ f6 (by omega) (by omega)
      replace f7 := n5.at_ f7 (by omega) (by omega)
      replace f8 := n5.at_ f8 (by omega) (by omega)
      replace L := L.keep n5 (by omega) (by omega)
      repeat refine wp_seq ?_
      refine d13 _ _ _ wx k n cap ba oa bh bz act hlt hn HC L l _ row5 (by omega) hok rfl f5' f6 f7 HI5 (fun A6 w6 n6 f89 HI6 => ?_)
      repeat first | with_reducible refine then_q ?_ | with_reducible refine inBlock_q ?_
      replace f6 := n6.at_ f6 (by omega) (by omega)
      replace L := L.keep n6 (by omega) (by omega)
      replace f5' := n6.at_ f5' (by omega) (by omega)
      repeat refine wp_seq ?_
      refine wp_cond_false (by exact f89) ?_
      refine wp_skip ?_
      repeat first | with_reducible refine then_q ?_ | with_reducible refine inBlock_q ?_
      have := putsI_len_le [act.n, act.m] l
      exact ⟨rfl, row5, _, L, f5', f6, by simp at this; omega, HI6⟩
    · have e1 : (act.kind == 1) = false := beq_false_of_ne hk1
      repeat refine wp_seq ?_
      refine d11 _ _ _ _ _ e1 n3.1 n3.2.1 f36 (fun A4 n4 f37 => ?_)
      repeat first | with_reducible refine then_q ?_ | with_reducible refine inBlock_q ?_
      replace f5 := n4.at_ f5 (by omega) (by omega)
      replace f6 := n4.at_ f6 (by omega) (by omega)
      replace f7 := n4.at_ f7 (by omega) (by omega)
      replace f8 := n4.at_ f8 (by omega) (by omega)
      replace L := L.keep n4 (by omega) (by omega)
      repeat refine wp_seq ?_
      refine wp_cond_false (by exact f37) ?_
      by_cases hk2 : act.kind = 2
      · have e2 : (act.kind == 2) = true := by rw [hk2]; rfl
        replace f36 := n4.at_ f36 (by omega) (by omega)
        repeat refine wp_seq ?_
        refine d15 _ _ _ _ _ e2 n4.1 n4.2.1 f36 (fun A5 n5 f90 => ?_)
        repeat first | with_reducible refine then_q ?_ | with_reducible refine inBlock_q ?_
        replace f5 := n5.at_ f5 (by omega) (by omega)
        replace f6 := n5.at_ f6 (by omega) (by omega)
        replace f7 := n5.at_ f7 (by omega) (by omega)
        replace f8 := n5.at_ f8 (by omega) (by omega)
        replace L := L.keep n5 (by omega) (by omega)
        repeat refine wp_seq ?_
        refine wp_cond_true (by exact f90) ?_
        repeat refine wp_seq ?_
        refine d16 _ _ _ wx k n cap ba oa bh bz act hlt hn HC L row l l (by omega) f5 f6 HI (fun A6 w6 row6 n6 f5' HI6 => ?_)
        repeat first | with_reducible refine then_q ?_ | with_reducible refine inBlock_q ?_
        clear f5
        replace f6 := n6.at_ f6 (by omega) (by omega)
        replace f7 := n6.at_ f7 (by omega) (by omega)
        replace f8 := n6.at_ f8 (by omega) (by omega)
        replace L := L.keep n6 (by omega) (by omega)
        repeat refine wp_seq ?_
        refine d17 _ _ _ wx k n cap ba oa bh bz act hlt hn HC L row6 l _ hok.1 f6 f8 HI6 (fun A7 w7 n7 f118 HI7 => ?_)
        repeat first | with_reducible refine then_q ?_ | with_reducible refine inBlock_q ?_
        replace f6 := n7.at_ f6 (by omega) (by omega)
        replace L := L.keep n7 (by omega) (by omega)
        replace f5' := n7.at_ f5' (by omega) (by omega)
        repeat refine wp_seq ?_
        refine wp_cond_false (by exact f118) ?_
        refine wp_skip ?_
        repeat first | with_reducible refine then_q ?_ | with_reducible refine inBlock_q ?_
        have := dropI_le l act.n
        exact ⟨rfl, row6, _, L, f5', f6, by omega, HI7⟩
      · have e2 : (act.kind == 2) = false := beq_false_of_ne hk2
        replace f36 := n4.at_ f36 (by omega) (by omega)
        repeat refine wp_seq ?_
        refine d15 _ _ _ _ _ e2 n4.1 n4.2.1 f36 (fun A5 n5 f90 => ?_)
        repeat first | with_reducible refine then_q ?_ | with_reducible refine inBlock_q ?_
        replace f5 := n5.at_ f5 (by omega) (by omega)
        replace f6 := n5.at_ f6 (by omega) (by omega)
        replace f7 := n5.at_ f7 (by omega) (by omega)
        replace f8 := n5.at_ f8 (by omega) (by omega)
        replace L := L.keep n5 (by omega) (by omega)
        repeat refine wp_seq ?_
        refine wp_cond_false (by exact f90) ?_
        by_cases hk3 : act.kind = 3
        · have e3 : (act.kind == 3) = true := by rw [hk3]; rfl
          replace f36 := n5.at_ f36 (by omega) (by omega)
          repeat refine wp_seq ?_
          refine d19 _ _ _ _ _ e3 n5.1 n5.2.1 f36 (fun A6 n6 f119 => ?_)
          repeat first | with_reducible refine then_q ?_ | with_reducible refine inBlock_q ?_
          replace f5 := n6.at_ f5 (by omega) (by omega)
          replace f6 := n6.at_ f6 (by omega) (by omega)
          replace f7 := n6.at_ f7 (by omega) (by omega)
          replace f8 := n6.at_ f8 (by omega) (by omega)
          replace L := L.keep n6 (by omega) (by omega)
          repeat refine wp_seq ?_
          refine wp_cond_true (by exact f119) ?_
          repeat refine wp_seq ?_
          refine d20 _ _ _ wx bh bz (.slice (some ⟨ba, oa, none⟩) n cap) L row l (by omega) f5 HI (fun A7 w7 n7 f132 HI7 => ?_)
          repeat first | with_reducible refine then_q ?_ | with_reducible refine inBlock_q ?_
          replace f6 := n7.at_ f6 (by omega) (by omega)
          replace L := L.keep n7 (by omega) (by omega)
          repeat refine wp_seq ?_
          refine wp_cond_false (by exact f132) ?_
          refine wp_skip ?_
          repeat first | with_reducible refine then_q ?_ | with_reducible refine inBlock_q ?_
          repeat refine wp_seq ?_
          refine d22 _ _ _ L.bs L.bd (fun A8 n8 f5' => ?_)
          repeat first | with_reducible refine then_q ?_ | with_reducible refine inBlock_q ?_
          replace f6 := n8.at_ f6 (by omega) (by omega)
          replace L := L.keep n8 (by omega) (by omega)
          exact ⟨rfl, _, [], L, f5', f6, by simp, HI7.norow⟩
        · have e3 : (act.kind == 3) = false := beq_false_of_ne hk3
          replace f36 := n5.at_ f36 (by omega) (by omega)
          repeat refine wp_seq ?_
          refine d19 _ _ _ _ _ e3 n5.1 n5.2.1 f36 (fun A6 n6 f119 => ?_)
          repeat first | with_reducible refine then_q ?_ | with_reducible refine inBlock_q ?_
          replace f5 := n6.at_ f5 (by omega) (by omega)
          replace f6 := n6.at_ f6 (by omega) (by omega)
          replace f7 := n6.at_ f7 (by omega) (by omega)
          replace f8 := n6.at_ f8 (by omega) (by omega)
          replace L := L.keep n6 (by omega) (by omega)
          repeat refine wp_seq ?_
          refine wp_cond_false (by exact f119) ?_
          refine wp_skip ?_
          repeat first | with_reducible refine then_q ?_ | with_reducible refine inBlock_q ?_
          exact ⟨rfl, row, l, L, f5, f6, by omega, HI⟩
  · rintro Ac wc ⟨rowc, l', Lc, c5, c6, hl', HIc⟩
    clear L f5 f6 f7 f8 f36 HI
    rename LD Ac _ _ _ => L
    rename sl Ac.tmps 5 = _ => f5
    rename sl Ac.tmps 6 = _ => f6
    repeat first | with_reducible refine then_q ?_ | with_reducible refine inBlock_q ?_
    repeat refine wp_seq ?_
    refine d23 _ _ _ wx k n cap ba oa bh bz act hlt hn HC L rowc l' (by omega) hok.2 f5 f6 HIc (fun A3' w5' n3' f161 hb5 => ?_)
    repeat first | with_reducible refine then_q ?_ | with_reducible refine inBlock_q ?_
    replace f5 := n3'.at_ f5 (by omega) (by omega)
    replace f6 := n3'.at_ f6 (by omega) (by omega)
    replace L := L.keep n3' (by omega) (by omega)
    repeat refine wp_seq ?_
    refine wp_cond_false (by exact f161) ?_
    refine wp_skip ?_
    repeat first | with_reducible refine then_q ?_ | with_reducible refine inBlock_q ?_
    repeat refine wp_seq ?_
    refine d7 _ _ _ k (by omega) L.bs L.bd f6 (fun A4' n4' f6' => ?_)
    repeat first | with_reducible refine then_q ?_ | with_reducible refine inBlock_q ?_
    exact hK _ _ rowc l' (L.keep n4' (by omega) (by omega)) (n4'.at_ f5 (by omega) (by omega)) f6' hl' (HIc.below hb5)
theorem dloop (A : Act) (w wx : World) (Q : Exit → Act → World → Prop) (cap bh bz : Nat) (a0 : Option Addr) (acts : List ActD) (hn : acts.length ≤ 120) (HA : ∀ k (hk : k < acts.length), ∃ b o, a0 = some ⟨b, o, none⟩ ∧ ∀ w', Below wx.heap.size wx w' → ActC b (o + k * 3) acts[k] w')
    (HOK : ∀ a ∈ acts, a.ok) (L : LD A (.slice a0 acts.length cap) bh bz) (f5 : sl A.tmps 5 = .slice none 0 0) (f6 : sl A.tmps 6 = .int .i64 0) (HI : DInv wx (ptrB bh) [] (ptrB bz) [] (.slice none 0 0) [] w)
    (hQ : ∀ A' w' row' l', LD A' (.slice a0 acts.length cap) bh bz → DInv wx (ptrB bh) l' (ptrB bz) l' row' l' w' → Q (.exit 0) A' w') : Code.wp Try.prog (.loop dpL) Q A w := by
  refine wp_loop_ghost (fun g A w => ∃ k row l, k + g = acts.length ∧ LD A (.slice a0 acts.length cap) bh bz ∧ sl A.tmps 5 = row ∧ sl A.tmps 6 = .int .i64 (k : Int) ∧ l.length ≤ 2 * k ∧ DInv wx (ptrB bh) l (ptrB bz) l row l w) acts.length ⟨0, _, [], by omega, L, f5, f6, by simp, HI⟩ ?_
  rintro g A w ⟨k, row, l, hkg, L, f5, f6, hl, HI⟩
  by_cases hlt : k < acts.length
  · obtain ⟨ba, oa, rfl, HC⟩ := HA k hlt
    exact dround A w wx Q _ k acts.length cap ba oa bh bz row l acts[k] hlt hn HC (HOK _ (List.getElem_mem hlt)) L f5 f6 hl HI (fun A' w' row' l' L' g5 g6 hl' HI' => ⟨acts.length - (k + 1), by omega, k + 1, row', l', by omega, L', g5, by rw [g6]; rfl, hl', HI'⟩)
  · conv => arg 2; whnf
    repeat refine wp_seq ?_
    refine d6f _ _ _ k acts.length cap a0 bh bz (decide_eq_false hlt) L f6 (fun A0 n0 h20 => ?_)
    repeat first | with_reducible refine then_q ?_ | with_reducible refine inBlock_q ?_
    repeat refine wp_seq ?_
    refine wp_cond_false (by exact h20) ?_
    refine wp_exit ?_
    exact hQ _ _ _ _ (L.keep n0 (by omega) (by omega)) HI
end Go.Proofs.Ytjncccongbfoiaa
