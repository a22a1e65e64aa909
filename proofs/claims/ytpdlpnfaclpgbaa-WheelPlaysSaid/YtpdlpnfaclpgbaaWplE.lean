/- A round of WheelPlays, put together of its regions, and the loop. Conditions: as stated. -/
import Derived.Test.YtpdlpnfaclpgbaaWplD
import Derived.Test.YtpdlpnfaclpgbaaWplF
import Derived.Test.YtpdlpnfaclpgbaaWplG
import Derived.Test.YtpdlpnfaclpgbaaWplH
import Derived.Deep.LoopGhost
namespace Go.Proofs.Ytpdlpnfaclpgbaa
open Go.ChangeShapes Go.WideShapes Go.ChangeAt Go.RowKit
set_option linter.unusedVariables false
set_option maxRecDepth 100000
set_option linter.unusedSimpArgs false
set_option maxHeartbeats 4000000

theorem then_q {K : Act → World → Prop} {Q : Exit → Act → World → Prop} {a : Act} {w : World} (h : K a w) : Exit.then K Q .normal a w := h
theorem inBlock_q {Q : Exit → Act → World → Prop} {a : Act} {w : World} {id : Nat} (h : Q .normal a w) : Exit.inBlock id Q .normal a w := h
theorem wround (A : Act) (w wx : World) (Q : Exit → Act → World → Prop) (K : Act → World → Prop) (k n cap ba oa bh bz : Nat) (id : Int) (row : Value) (l : List Tm) (act : ActD) (hlt : k < n) (hn : n ≤ 100) (hid : inI id) (HC : ∀ w', Below wx.heap.size wx w' → ActC ba (oa + k * 3) act w') (hok : act.ok)
    (L : LD A (.slice (some ⟨ba, oa, none⟩) n cap) id (ptrB bh) (ptrB bz)) (f7 : sl A.tmps 7 = row) (f8 : sl A.tmps 8 = .int .i64 (k : Int)) (hl : l.length ≤ k) (HI : Two0 wx (ptrB bh) l (ptrB bz) l row l w)
    (hK : ∀ A' w' row' l', LD A' (.slice (some ⟨ba, oa, none⟩) n cap) id (ptrB bh) (ptrB bz) → sl A'.tmps 7 = row' → sl A'.tmps 8 = .int .i64 ((k : Int) + 1) → l'.length ≤ k + 1 → Two0 wx (ptrB bh) l' (ptrB bz) l' row' l' w' → K A' w') :
    Code.wp Try.prog wpLp (Exit.then K Q) A w := by
  conv => arg 2; whnf
  repeat refine wp_seq ?_
  refine p6t _ _ _ k n cap _ id (ptrB bh) (ptrB bz) (decide_eq_true hlt) L f8 (fun A0 n0 f34 => ?_)
  repeat first | with_reducible refine then_q ?_ | with_reducible refine inBlock_q ?_
  replace f7 := n0.at_ f7 (by omega) (by omega)
  replace f8 := n0.at_ f8 (by omega) (by omega)
  replace L := L.keep n0 (by omega) (by omega)
  repeat refine wp_seq ?_
  refine wp_cond_true (by exact f34) ?_
  refine wp_skip ?_
  repeat first | with_reducible refine then_q ?_ | with_reducible refine inBlock_q ?_
  repeat refine wp_seq ?_
  refine wp_block ?_
  repeat refine wp_seq ?_
  refine p8 _ _ _ wx k n cap ba oa bh bz id act row l hlt hn HC L f8 HI (fun A1 w1 n1 f9 HT => ?_)
  repeat first | with_reducible refine then_q ?_ | with_reducible refine inBlock_q ?_
  clear HI
  rename TI _ _ _ _ _ _ _ _ _ _ _ => HI
  generalize w.heap.size = g at *
  generalize (fun k => k = g) = G at HI
  replace f7 := n1.at_ f7 (by omega) (by omega)
  replace f8 := n1.at_ f8 (by omega) (by omega)
  replace L := L.keep n1 (by omega) (by omega)
  repeat refine wp_seq ?_
  refine p9 _ _ _ wx bh bz g G id (.slice (some ⟨ba, oa, none⟩) n cap) act L row l (by omega) f7 f9 HI (fun A2 n2 f10 => ?_)
  repeat first | with_reducible refine then_q ?_ | with_reducible refine inBlock_q ?_
  replace f7 := n2.at_ f7 (by omega) (by omega)
  replace f8 := n2.at_ f8 (by omega) (by omega)
  replace f9 := n2.at_ f9 (by omega) (by omega)
  replace L := L.keep n2 (by omega) (by omega)
  repeat refine wp_seq ?_
  refine p10 _ _ _ wx bh bz g G id (.slice (some ⟨ba, oa, none⟩) n cap) act L row l f9 HI (fun A3 n3 f46 => ?_)
  repeat first | with_reducible refine then_q ?_ | with_reducible refine inBlock_q ?_
  replace f7 := n3.at_ f7 (by omega) (by omega)
  replace f8 := n3.at_ f8 (by omega) (by omega)
  replace f9 := n3.at_ f9 (by omega) (by omega)
  replace f10 := n3.at_ f10 (by omega) (by omega)
  replace L := L.keep n3 (by omega) (by omega)
  repeat refine wp_seq ?_
  refine fv_cut (fun A' w' => ∃ G' row' l', LD A' (.slice (some ⟨ba, oa, none⟩) n cap) id (ptrB bh) (ptrB bz) ∧ sl A'.tmps 7 = row' ∧ sl A'.tmps 8 = .int .i64 (k : Int) ∧ l'.length ≤ k + 1 ∧ TI wx G' g act (ptrB bh) l' (ptrB bz) l' row' l' w') ?_ ?_
  · refine wp_block ?_
    by_cases hk1 : act.kind = 1
    · have e1 : (act.kind == 1) = true := by rw [hk1]; rfl
      repeat refine wp_seq ?_
      refine p15 _ _ _ _ _ e1 n3.1 n3.2.1 f46 (fun A4 n4 f71 => ?_)
      repeat first | with_reducible refine then_q ?_ | with_reducible refine inBlock_q ?_
      replace f7 := n4.at_ f7 (by omega) (by omega)
      replace f8 := n4.at_ f8 (by omega) (by omega)
      replace f9 := n4.at_ f9 (by omega) (by omega)
      replace f10 := n4.at_ f10 (by omega) (by omega)
      replace L := L.keep n4 (by omega) (by omega)
      repeat refine wp_seq ?_
      refine wp_cond_true (by exact f71) ?_
      repeat refine wp_seq ?_
      refine p16 _ _ _ wx bh bz g G id (.slice (some ⟨ba, oa, none⟩) n cap) act L row l f9 HI (fun A5 n5 f11 => ?_)
      repeat first | with_reducible refine then_q ?_ | with_reducible refine inBlock_q ?_
      replace f7 := n5.at_ f7 (by omega) (by omega)
      replace f8 := n5.at_ f8 (by omega) (by omega)
      replace f9 := n5.at_ f9 (by omega) (by omega)
      replace L := L.keep n5 (by omega) (by omega)
      repeat refine wp_seq ?_
      refine p17 _ _ _ wx bh bz g G id (.slice (some ⟨ba, oa, none⟩) n cap) act L row l (by omega) hok f9 f11 HI (fun A6 w6 n6 f98 HI6 => ?_)
      repeat first | with_reducible refine then_q ?_ | with_reducible refine inBlock_q ?_
      replace f7 := n6.at_ f7 (by omega) (by omega)
      replace f8 := n6.at_ f8 (by omega) (by omega)
      replace f9 := n6.at_ f9 (by omega) (by omega)
      replace L := L.keep n6 (by omega) (by omega)
      repeat refine wp_seq ?_
      refine wp_cond_false (by exact f98) ?_
      refine wp_skip ?_
      repeat first | with_reducible refine then_q ?_ | with_reducible refine inBlock_q ?_
      repeat refine wp_seq ?_
      refine p19 _ _ _ wx bh bz g G id (.slice (some ⟨ba, oa, none⟩) n cap) act L row l _ (by omega) f7 f9 HI6 (fun A7 w7 row7 n7 f7' HI7 => ?_)
      repeat first | with_reducible refine then_q ?_ | with_reducible refine inBlock_q ?_
      clear f7
      replace f8 := n7.at_ f8 (by omega) (by omega)
      replace L := L.keep n7 (by omega) (by omega)
      have := setW_len l ⟨act.n, act.m⟩
      exact ⟨rfl, G, row7, _, L, f7', f8, by omega, HI7⟩
    · have e1 : (act.kind == 1) = false := beq_false_of_ne hk1
      repeat refine wp_seq ?_
      refine p15 _ _ _ _ _ e1 n3.1 n3.2.1 f46 (fun A4 n4 f71 => ?_)
      repeat first | with_reducible refine then_q ?_ | with_reducible refine inBlock_q ?_
      replace f7 := n4.at_ f7 (by omega) (by omega)
      replace f8 := n4.at_ f8 (by omega) (by omega)
      replace f9 := n4.at_ f9 (by omega) (by omega)
      replace f10 := n4.at_ f10 (by omega) (by omega)
      replace L := L.keep n4 (by omega) (by omega)
      repeat refine wp_seq ?_
      refine wp_cond_false (by exact f71) ?_
      by_cases hk2 : act.kind = 2
      · have e2 : (act.kind == 2) = true := by rw [hk2]; rfl
        replace f46 := n4.at_ f46 (by omega) (by omega)
        repeat refine wp_seq ?_
        refine p20 _ _ _ _ _ e2 n4.1 n4.2.1 f46 (fun A5 n5 f106 => ?_)
        repeat first | with_reducible refine then_q ?_ | with_reducible refine inBlock_q ?_
        replace f7 := n5.at_ f7 (by omega) (by omega)
        replace f8 := n5.at_ f8 (by omega) (by omega)
        replace f9 := n5.at_ f9 (by omega) (by omega)
        replace f10 := n5.at_ f10 (by omega) (by omega)
        replace L := L.keep n5 (by omega) (by omega)
        repeat refine wp_seq ?_
        refine wp_cond_true (by exact f106) ?_
        repeat refine wp_seq ?_
        refine p21 _ _ _ wx bh bz g G id (.slice (some ⟨ba, oa, none⟩) n cap) act L row l (by omega) hok f9 f10 HI (fun A6 w6 n6 f123 HI6 => ?_)
        repeat first | with_reducible refine then_q ?_ | with_reducible refine inBlock_q ?_
        replace f7 := n6.at_ f7 (by omega) (by omega)
        replace f8 := n6.at_ f8 (by omega) (by omega)
        replace f9 := n6.at_ f9 (by omega) (by omega)
        replace L := L.keep n6 (by omega) (by omega)
        repeat refine wp_seq ?_
        refine wp_cond_false (by exact f123) ?_
        refine wp_skip ?_
        repeat first | with_reducible refine then_q ?_ | with_reducible refine inBlock_q ?_
        repeat refine wp_seq ?_
        refine p23 _ _ _ wx bh bz g G id (.slice (some ⟨ba, oa, none⟩) n cap) act L row l _ (by omega) f7 f9 HI6 (fun A7 w7 row7 n7 f7' HI7 => ?_)
        repeat first | with_reducible refine then_q ?_ | with_reducible refine inBlock_q ?_
        clear f7
        replace f8 := n7.at_ f8 (by omega) (by omega)
        replace L := L.keep n7 (by omega) (by omega)
        have := dropW_len l act.n
        exact ⟨rfl, G, row7, _, L, f7', f8, by omega, HI7⟩
      · have e2 : (act.kind == 2) = false := beq_false_of_ne hk2
        replace f46 := n4.at_ f46 (by omega) (by omega)
        repeat refine wp_seq ?_
        refine p20 _ _ _ _ _ e2 n4.1 n4.2.1 f46 (fun A5 n5 f106 => ?_)
        repeat first | with_reducible refine then_q ?_ | with_reducible refine inBlock_q ?_
        replace f7 := n5.at_ f7 (by omega) (by omega)
        replace f8 := n5.at_ f8 (by omega) (by omega)
        replace f9 := n5.at_ f9 (by omega) (by omega)
        replace f10 := n5.at_ f10 (by omega) (by omega)
        replace L := L.keep n5 (by omega) (by omega)
        repeat refine wp_seq ?_
        refine wp_cond_false (by exact f106) ?_
        repeat refine wp_seq ?_
        refine p11 _ _ _ wx bh bz g G id (.slice (some ⟨ba, oa, none⟩) n cap) act L row l (by omega) f7 f9 HI (fun A6 w6 u6 r6 G6 n6 f12 f13 HD => ?_)
        repeat first | with_reducible refine then_q ?_ | with_reducible refine inBlock_q ?_
        clear f7
        replace f8 := n6.at_ f8 (by omega) (by omega)
        replace f9 := n6.at_ f9 (by omega) (by omega)
        replace L := L.keep n6 (by omega) (by omega)
        repeat refine wp_seq ?_
        refine p12 _ _ _ wx bh bz g G6 id (.slice (some ⟨ba, oa, none⟩) n cap) act L r6 u6 l _ (by omega) f9 f12 HD (fun A7 w7 n7 f69 HI7 => ?_)
        repeat first | with_reducible refine then_q ?_ | with_reducible refine inBlock_q ?_
        replace f8 := n7.at_ f8 (by omega) (by omega)
        replace f9 := n7.at_ f9 (by omega) (by omega)
        replace f13 := n7.at_ f13 (by omega) (by omega)
        replace L := L.keep n7 (by omega) (by omega)
        repeat refine wp_seq ?_
        refine wp_cond_false (by exact f69) ?_
        refine wp_skip ?_
        repeat first | with_reducible refine then_q ?_ | with_reducible refine inBlock_q ?_
        repeat refine wp_seq ?_
        refine p14 _ _ _ r6 n7.1 n7.2.1 f13 (fun A8 n8 f7 => ?_)
        repeat first | with_reducible refine then_q ?_ | with_reducible refine inBlock_q ?_
        replace f8 := n8.at_ f8 (by omega) (by omega)
        replace L := L.keep n8 (by omega) (by omega)
        have := leftW_len l act.m
        exact ⟨rfl, G6, r6, _, L, f7, f8, by omega, HI7⟩
  · rintro Ac wc ⟨Gc, rowc, l', Lc, c7, c8, hl', HIc⟩
    clear L f7 f8 f9 f10 f46 HI
    rename LD Ac _ _ _ _ => L
    rename sl Ac.tmps 7 = _ => f7
    rename sl Ac.tmps 8 = _ => f8
    rename TI _ _ _ _ _ _ _ _ _ _ _ => HI
    repeat first | with_reducible refine then_q ?_ | with_reducible refine inBlock_q ?_
    repeat refine wp_seq ?_
    refine p24 _ _ _ wx bh bz g Gc id (.slice (some ⟨ba, oa, none⟩) n cap) act L rowc l' hid HI (fun A5' w5' n5' f14 f15 HI5 => ?_)
    repeat first | with_reducible refine then_q ?_ | with_reducible refine inBlock_q ?_
    replace f7 := n5'.at_ f7 (by omega) (by omega)
    replace f8 := n5'.at_ f8 (by omega) (by omega)
    replace L := L.keep n5' (by omega) (by omega)
    repeat refine wp_seq ?_
    refine p25 _ _ _ wx bh bz g Gc id (.slice (some ⟨ba, oa, none⟩) n cap) act L rowc l' (by omega) f7 HI5 (fun A6' n6' f16 => ?_)
    repeat first | with_reducible refine then_q ?_ | with_reducible refine inBlock_q ?_
    replace f7 := n6'.at_ f7 (by omega) (by omega)
    replace f8 := n6'.at_ f8 (by omega) (by omega)
    replace f14 := n6'.at_ f14 (by omega) (by omega)
    replace f15 := n6'.at_ f15 (by omega) (by omega)
    replace L := L.keep n6' (by omega) (by omega)
    repeat refine wp_seq ?_
    refine p26 _ _ _ wx bh bz g Gc id (.slice (some ⟨ba, oa, none⟩) n cap) act L rowc l' HI5 (fun A7' w7' n7' f17 f18 HI7 => ?_)
    repeat first | with_reducible refine then_q ?_ | with_reducible refine inBlock_q ?_
    replace f7 := n7'.at_ f7 (by omega) (by omega)
    replace f8 := n7'.at_ f8 (by omega) (by omega)
    replace f14 := n7'.at_ f14 (by omega) (by omega)
    replace f15 := n7'.at_ f15 (by omega) (by omega)
    replace f16 := n7'.at_ f16 (by omega) (by omega)
    replace L := L.keep n7' (by omega) (by omega)
    repeat refine wp_seq ?_
    refine p27 _ _ _ wx bh bz g Gc id (.slice (some ⟨ba, oa, none⟩) n cap) act L rowc l' (by omega) f7 f14 f15 f16 f17 f18 HI7 (fun A8' w8' n8' f205 HI8 => ?_)
    repeat first | with_reducible refine then_q ?_ | with_reducible refine inBlock_q ?_
    replace f7 := n8'.at_ f7 (by omega) (by omega)
    replace f8 := n8'.at_ f8 (by omega) (by omega)
    replace L := L.keep n8' (by omega) (by omega)
    repeat refine wp_seq ?_
    refine wp_cond_false (by exact f205) ?_
    refine wp_skip ?_
    repeat first | with_reducible refine then_q ?_ | with_reducible refine inBlock_q ?_
    repeat refine wp_seq ?_
    refine p7 _ _ _ k (by omega) L.bs L.bd f8 (fun A9' n9' f8' => ?_)
    repeat first | with_reducible refine then_q ?_ | with_reducible refine inBlock_q ?_
    exact hK _ _ rowc l' (L.keep n9' (by omega) (by omega)) (n9'.at_ f7 (by omega) (by omega)) f8' hl' HI8.less
theorem wloop (A : Act) (w wx : World) (Q : Exit → Act → World → Prop) (cap bh bz : Nat) (id : Int) (a0 : Option Addr) (acts : List ActD) (hn : acts.length ≤ 100) (hid : inI id) (HA : ∀ k (hk : k < acts.length), ∃ b o, a0 = some ⟨b, o, none⟩ ∧ ∀ w', Below wx.heap.size wx w' → ActC b (o + k * 3) acts[k] w')
    (HOK : ∀ a ∈ acts, a.ok) (L : LD A (.slice a0 acts.length cap) id (ptrB bh) (ptrB bz)) (f7 : sl A.tmps 7 = .slice none 0 0) (f8 : sl A.tmps 8 = .int .i64 0) (HI : Two0 wx (ptrB bh) [] (ptrB bz) [] (.slice none 0 0) [] w)
    (hQ : ∀ A' w' row' l', LD A' (.slice a0 acts.length cap) id (ptrB bh) (ptrB bz) → Two0 wx (ptrB bh) l' (ptrB bz) l' row' l' w' → Q (.exit 0) A' w') : Code.wp Try.prog (.loop wpLp) Q A w := by
  refine wp_loop_ghost (fun g A w => ∃ k row l, k + g = acts.length ∧ LD A (.slice a0 acts.length cap) id (ptrB bh) (ptrB bz) ∧ sl A.tmps 7 = row ∧ sl A.tmps 8 = .int .i64 (k : Int) ∧ l.length ≤ k ∧ Two0 wx (ptrB bh) l (ptrB bz) l row l w) acts.length ⟨0, _, [], by omega, L, f7, f8, by simp, HI⟩ ?_
  rintro g A w ⟨k, row, l, hkg, L, f7, f8, hl, HI⟩
  by_cases hlt : k < acts.length
  · obtain ⟨ba, oa, rfl, HC⟩ := HA k hlt
    exact wround A w wx Q _ k acts.length cap ba oa bh bz id row l acts[k] hlt hn hid HC (HOK _ (List.getElem_mem hlt)) L f7 f8 hl HI (fun A' w' row' l' L' g7 g8 hl' HI' => ⟨acts.length - (k + 1), by omega, k + 1, row', l', by omega, L', g7, by rw [g8]; rfl, hl', HI'⟩)
  · conv => arg 2; whnf
    repeat refine wp_seq ?_
    refine p6f _ _ _ k acts.length cap a0 id (ptrB bh) (ptrB bz) (decide_eq_false hlt) L f8 (fun A0 n0 h34 => ?_)
    repeat first | with_reducible refine then_q ?_ | with_reducible refine inBlock_q ?_
    repeat refine wp_seq ?_
    refine wp_cond_false (by exact h34) ?_
    refine wp_exit ?_
    exact hQ _ _ _ _ (L.keep n0 (by omega) (by omega)) HI
end Go.Proofs.Ytpdlpnfaclpgbaa
