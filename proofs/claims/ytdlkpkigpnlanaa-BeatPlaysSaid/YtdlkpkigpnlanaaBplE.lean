/- A round of BeatPlays, put together of its regions, and the loop. Conditions: as stated. -/
import Derived.Test.YtdlkpkigpnlanaaBplD
import Derived.Deep.LoopGhost
namespace Go.Proofs.Ytdlkpkigpnlanaa
open Go.ChangeShapes Go.WideShapes Go.ChangeAt Go.RowKit
set_option linter.unusedVariables false
set_option maxRecDepth 100000
set_option linter.unusedSimpArgs false
set_option maxHeartbeats 4000000

theorem bround (A : Act) (w wx : World) (Q : Exit → Act → World → Prop) (K : Act → World → Prop) (k n cap ba oa bz gx : Nat) (nd : Int) (v row u : Value) (s : Int) (l ds : List Bt) (a : ActE) (hlt : k < n) (hn : n ≤ 100) (hid : inI nd) (HC : ∀ w', Below wx.heap.size wx w' → AcEC ba (oa + k * 4) a w') (hok : a.ok)
    (L : LD A (.slice (some ⟨ba, oa, none⟩) n cap) nd v gx bz) (f12 : sl A.tmps 12 = .int .i64 (k : Int)) (hl : l.length ≤ k) (HI : TA wx [(gx, tbX s row)] v ⟨s, l⟩ bz row u l ds w)
    (hK : ∀ A' w' row' u' l' ds', LD A' (.slice (some ⟨ba, oa, none⟩) n cap) nd v gx bz → sl A'.tmps 12 = .int .i64 ((k : Int) + 1) → l'.length ≤ k + 1 → TA wx [(gx, tbX s row')] v ⟨s, l'⟩ bz row' u' l' ds' w' → K A' w') :
    Code.wp Try.prog bpLp (Exit.then K Q) A w := by
  conv => arg 2; whnf
  repeat refine wp_seq ?_
  refine b12t _ _ _ k n cap _ nd v gx bz (decide_eq_true hlt) L f12 (fun A0 n0 f64 => ?_)
  repeat first | with_reducible refine then_q ?_ | with_reducible refine inBlock_q ?_
  replace f12 := n0.at_ f12 (by omega) (by omega)
  replace L := L.keep n0 (by omega) (by omega)
  repeat refine wp_seq ?_
  refine wp_cond_true (by exact f64) ?_
  refine wp_skip ?_
  repeat first | with_reducible refine then_q ?_ | with_reducible refine inBlock_q ?_
  repeat refine wp_seq ?_
  refine wp_block ?_
  repeat refine wp_seq ?_
  refine b14 _ _ _ wx k n cap ba oa bz gx v nd a ⟨s, l⟩ row u ds hlt hn HC L f12 HI (fun A1 w1 ga n1 f13 hne HT => ?_)
  repeat first | with_reducible refine then_q ?_ | with_reducible refine inBlock_q ?_
  clear HI
  rename TA _ _ _ _ _ _ _ _ _ _ => HI
  replace f12 := n1.at_ f12 (by omega) (by omega)
  replace L := L.keep n1 (by omega) (by omega)
  repeat refine wp_seq ?_
  refine b15 _ _ _ wx bz gx ga (.slice (some ⟨ba, oa, none⟩) n cap) v nd a L f13 ⟨s, l⟩ row u ds HI (fun A2 n2 f72 => ?_)
  repeat first | with_reducible refine then_q ?_ | with_reducible refine inBlock_q ?_
  replace f12 := n2.at_ f12 (by omega) (by omega)
  replace f13 := n2.at_ f13 (by omega) (by omega)
  replace L := L.keep n2 (by omega) (by omega)
  repeat refine wp_seq ?_
  refine fv_cut (fun A' w' => ∃ row' u' l' ds', LD A' (.slice (some ⟨ba, oa, none⟩) n cap) nd v gx bz ∧ sl A'.tmps 12 = .int .i64 (k : Int) ∧ sl A'.tmps 13 = ptrB ga ∧ l'.length ≤ k + 1 ∧ TA wx (B2 ga a gx s row') v ⟨s, l'⟩ bz row' u' l' ds' w') ?_ ?_
  · refine wp_block ?_
    by_cases hk1 : a.kind = 1
    · have e1 : (a.kind == 1) = true := by rw [hk1]; rfl
      repeat refine wp_seq ?_
      refine b20 _ _ _ _ n2.1 n2.2.1 f72 (fun A3 n3 f102 => ?_)
      repeat first | with_reducible refine then_q ?_ | with_reducible refine inBlock_q ?_
      replace f12 := n3.at_ f12 (by omega) (by omega)
      replace f13 := n3.at_ f13 (by omega) (by omega)
      replace L := L.keep n3 (by omega) (by omega)
      repeat refine wp_seq ?_
      refine wp_cond_true (by exact f102.trans (by rw [e1])) ?_
      repeat refine wp_seq ?_
      refine b21 _ _ _ wx bz gx ga (.slice (some ⟨ba, oa, none⟩) n cap) v nd a L f13 ⟨s, l⟩ row u ds HI (by simp; omega) (fun A4 w4 r gn n4 f14 f15 HI4 => ?_)
      repeat first | with_reducible refine then_q ?_ | with_reducible refine inBlock_q ?_
      replace f12 := n4.at_ f12 (by omega) (by omega)
      replace f13 := n4.at_ f13 (by omega) (by omega)
      replace L := L.keep n4 (by omega) (by omega)
      repeat refine wp_seq ?_
      refine b22 _ _ _ wx bz gx ga (.slice (some ⟨ba, oa, none⟩) n cap) v nd a L f13 ⟨s, l⟩ row r u _ ds gn hne f14 HI4 (fun A5 w5 n5 HI5 => ?_)
      repeat first | with_reducible refine then_q ?_ | with_reducible refine inBlock_q ?_
      replace f12 := n5.at_ f12 (by omega) (by omega)
      replace f13 := n5.at_ f13 (by omega) (by omega)
      replace f15 := n5.at_ f15 (by omega) (by omega)
      replace L := L.keep n5 (by omega) (by omega)
      repeat refine wp_seq ?_
      refine b23 _ _ _ wx bz gx ga (.slice (some ⟨ba, oa, none⟩) n cap) v nd a L f13 ⟨s, l⟩ r u _ ds hok.2.1 f15 HI5 (fun A6 w6 n6 f147 HI6 => ?_)
      repeat first | with_reducible refine then_q ?_ | with_reducible refine inBlock_q ?_
      replace f12 := n6.at_ f12 (by omega) (by omega)
      replace f13 := n6.at_ f13 (by omega) (by omega)
      replace L := L.keep n6 (by omega) (by omega)
      repeat refine wp_seq ?_
      refine wp_cond_false (by exact f147) ?_
      refine wp_skip ?_
      have := seenB_len s l a.n a.m a.e
      exact ⟨rfl, r, u, _, ds, L, f12, f13, by simp; omega, HI6⟩
    · have e1 : (a.kind == 1) = false := beq_false_of_ne hk1
      repeat refine wp_seq ?_
      refine b20 _ _ _ _ n2.1 n2.2.1 f72 (fun A3 n3 f102 => ?_)
      repeat first | with_reducible refine then_q ?_ | with_reducible refine inBlock_q ?_
      replace f12 := n3.at_ f12 (by omega) (by omega)
      replace f13 := n3.at_ f13 (by omega) (by omega)
      replace L := L.keep n3 (by omega) (by omega)
      repeat refine wp_seq ?_
      refine wp_cond_false (by exact f102.trans (by rw [e1])) ?_
      by_cases hk2 : a.kind = 2
      · have e2 : (a.kind == 2) = true := by rw [hk2]; rfl
        replace f72 := n3.at_ f72 (by omega) (by omega)
        repeat refine wp_seq ?_
        refine b25 _ _ _ _ n3.1 n3.2.1 f72 (fun A3' n3' f148 => ?_)
        repeat first | with_reducible refine then_q ?_ | with_reducible refine inBlock_q ?_
        replace f12 := n3'.at_ f12 (by omega) (by omega)
        replace f13 := n3'.at_ f13 (by omega) (by omega)
        replace L := L.keep n3' (by omega) (by omega)
        repeat refine wp_seq ?_
        refine wp_cond_true (by exact f148.trans (by rw [e2])) ?_
        repeat refine wp_seq ?_
        refine b26 _ _ _ wx bz gx ga (.slice (some ⟨ba, oa, none⟩) n cap) v nd a L f13 ⟨s, l⟩ row u ds HI (by simp; omega) (fun A4 w4 r gn n4 f16 f17 HI4 => ?_)
        repeat first | with_reducible refine then_q ?_ | with_reducible refine inBlock_q ?_
        replace f12 := n4.at_ f12 (by omega) (by omega)
        replace f13 := n4.at_ f13 (by omega) (by omega)
        replace L := L.keep n4 (by omega) (by omega)
        repeat refine wp_seq ?_
        refine b27 _ _ _ wx bz gx ga (.slice (some ⟨ba, oa, none⟩) n cap) v nd a L f13 ⟨s, l⟩ row r u _ ds gn hne f16 HI4 (fun A5 w5 n5 HI5 => ?_)
        repeat first | with_reducible refine then_q ?_ | with_reducible refine inBlock_q ?_
        replace f12 := n5.at_ f12 (by omega) (by omega)
        replace f13 := n5.at_ f13 (by omega) (by omega)
        replace f17 := n5.at_ f17 (by omega) (by omega)
        replace L := L.keep n5 (by omega) (by omega)
        repeat refine wp_seq ?_
        refine b28 _ _ _ wx bz gx ga (.slice (some ⟨ba, oa, none⟩) n cap) v nd a L f13 ⟨s, l⟩ r u _ ds hok.2.1 f17 HI5 (fun A6 w6 n6 f183 HI6 => ?_)
        repeat first | with_reducible refine then_q ?_ | with_reducible refine inBlock_q ?_
        replace f12 := n6.at_ f12 (by omega) (by omega)
        replace f13 := n6.at_ f13 (by omega) (by omega)
        replace L := L.keep n6 (by omega) (by omega)
        repeat refine wp_seq ?_
        refine wp_cond_false (by exact f183) ?_
        refine wp_skip ?_
        have := dropB_len l a.n a.m
        exact ⟨rfl, r, u, _, ds, L, f12, f13, by simp; omega, HI6⟩
      · have e2 : (a.kind == 2) = false := beq_false_of_ne hk2
        replace f72 := n3.at_ f72 (by omega) (by omega)
        repeat refine wp_seq ?_
        refine b25 _ _ _ _ n3.1 n3.2.1 f72 (fun A3' n3' f148 => ?_)
        repeat first | with_reducible refine then_q ?_ | with_reducible refine inBlock_q ?_
        replace f12 := n3'.at_ f12 (by omega) (by omega)
        replace f13 := n3'.at_ f13 (by omega) (by omega)
        replace L := L.keep n3' (by omega) (by omega)
        repeat refine wp_seq ?_
        refine wp_cond_false (by exact f148.trans (by rw [e2])) ?_
        repeat refine wp_seq ?_
        refine b16 _ _ _ wx bz gx ga (.slice (some ⟨ba, oa, none⟩) n cap) v nd a L f13 ⟨s, l⟩ row u ds HI (by simp; omega) (fun A4 w4 r o gn n4 f18 f19 HI4 => ?_)
        repeat first | with_reducible refine then_q ?_ | with_reducible refine inBlock_q ?_
        replace f12 := n4.at_ f12 (by omega) (by omega)
        replace f13 := n4.at_ f13 (by omega) (by omega)
        replace L := L.keep n4 (by omega) (by omega)
        repeat refine wp_seq ?_
        refine b17 _ _ _ wx bz gx ga (.slice (some ⟨ba, oa, none⟩) n cap) v nd a L f13 ⟨s, l⟩ row r o _ _ gn hne f18 HI4 (fun A5 w5 n5 HI5 => ?_)
        repeat first | with_reducible refine then_q ?_ | with_reducible refine inBlock_q ?_
        replace f12 := n5.at_ f12 (by omega) (by omega)
        replace f13 := n5.at_ f13 (by omega) (by omega)
        replace f19 := n5.at_ f19 (by omega) (by omega)
        replace L := L.keep n5 (by omega) (by omega)
        repeat refine wp_seq ?_
        refine b18 _ _ _ wx bz gx ga (.slice (some ⟨ba, oa, none⟩) n cap) v nd a L f13 ⟨s, l⟩ r o _ (by have := (dueB_len 16 l a.e).1; simp; omega) f19 HI5 (fun A6 w6 n6 f101 HI6 => ?_)
        repeat first | with_reducible refine then_q ?_ | with_reducible refine inBlock_q ?_
        replace f12 := n6.at_ f12 (by omega) (by omega)
        replace f13 := n6.at_ f13 (by omega) (by omega)
        replace L := L.keep n6 (by omega) (by omega)
        repeat refine wp_seq ?_
        refine wp_cond_false (by exact f101) ?_
        refine wp_skip ?_
        have := (dueB_len 16 l a.e).2
        exact ⟨rfl, r, o, _, _, L, f12, f13, by simp; omega, HI6⟩
  · rintro Ac wc ⟨rowc, uc, l', dc, Lc, c12, c13, hl', HIc⟩
    clear L f12 f13 f72 HI
    rename LD Ac _ _ _ _ _ => L
    rename sl Ac.tmps 12 = _ => f12
    rename sl Ac.tmps 13 = _ => f13
    rename TA _ _ _ _ _ _ _ _ _ _ => HI
    repeat first | with_reducible refine then_q ?_ | with_reducible refine inBlock_q ?_
    repeat refine wp_seq ?_
    refine b30 _ _ _ wx bz gx ga (.slice (some ⟨ba, oa, none⟩) n cap) v nd a L f13 ⟨s, l'⟩ rowc uc dc HI hid (fun A7 w7 gb n7 f20 f21 HI7 => ?_)
    repeat first | with_reducible refine then_q ?_ | with_reducible refine inBlock_q ?_
    replace f12 := n7.at_ f12 (by omega) (by omega)
    replace f13 := n7.at_ f13 (by omega) (by omega)
    replace L := L.keep n7 (by omega) (by omega)
    repeat refine wp_seq ?_
    refine b31 _ _ _ wx bz gx ga (.slice (some ⟨ba, oa, none⟩) n cap) v nd a L f13 ⟨s, l'⟩ rowc uc dc _ (by simp; omega) HI7 (fun A8 n8 f22 => ?_)
    repeat first | with_reducible refine then_q ?_ | with_reducible refine inBlock_q ?_
    replace f12 := n8.at_ f12 (by omega) (by omega)
    replace f13 := n8.at_ f13 (by omega) (by omega)
    replace f20 := n8.at_ f20 (by omega) (by omega)
    replace f21 := n8.at_ f21 (by omega) (by omega)
    replace L := L.keep n8 (by omega) (by omega)
    repeat refine wp_seq ?_
    refine b32 _ _ _ wx bz gx ga (.slice (some ⟨ba, oa, none⟩) n cap) v nd a L f13 ⟨s, l'⟩ rowc uc dc gb (by simp; omega) f20 f21 f22 HI7 (fun A9 w9 n9 f226 HI9 => ?_)
    repeat first | with_reducible refine then_q ?_ | with_reducible refine inBlock_q ?_
    replace f12 := n9.at_ f12 (by omega) (by omega)
    replace f13 := n9.at_ f13 (by omega) (by omega)
    replace L := L.keep n9 (by omega) (by omega)
    repeat refine wp_seq ?_
    refine wp_cond_false (by exact f226) ?_
    refine wp_skip ?_
    repeat first | with_reducible refine then_q ?_ | with_reducible refine inBlock_q ?_
    repeat refine wp_seq ?_
    refine b13 _ _ _ k (by omega) L.bs L.bd f12 (fun A10 n10 f12' => ?_)
    repeat first | with_reducible refine then_q ?_ | with_reducible refine inBlock_q ?_
    exact hK _ _ rowc uc l' dc (L.keep n10 (by omega) (by omega)) f12' hl' HI9.tail
theorem bloop (A : Act) (w wx : World) (Q : Exit → Act → World → Prop) (cap bz gx : Nat) (nd : Int) (v row u : Value) (s : Int) (ds : List Bt) (a0 : Option Addr) (acts : List ActE) (hn : acts.length ≤ 100) (hid : inI nd) (HA : ∀ k (hk : k < acts.length), ∃ b o, a0 = some ⟨b, o, none⟩ ∧ ∀ w', Below wx.heap.size wx w' → AcEC b (o + k * 4) acts[k] w')
    (HOK : ∀ a ∈ acts, a.ok) (L : LD A (.slice a0 acts.length cap) nd v gx bz) (f12 : sl A.tmps 12 = .int .i64 0) (HI : TA wx [(gx, tbX s row)] v ⟨s, []⟩ bz row u [] ds w)
    (hQ : ∀ A' w' row' u' l' ds', LD A' (.slice a0 acts.length cap) nd v gx bz → TA wx [(gx, tbX s row')] v ⟨s, l'⟩ bz row' u' l' ds' w' → Q (.exit 0) A' w') : Code.wp Try.prog (.loop bpLp) Q A w := by
  refine wp_loop_ghost (fun g A w => ∃ k row u l ds, k + g = acts.length ∧ LD A (.slice a0 acts.length cap) nd v gx bz ∧ sl A.tmps 12 = .int .i64 (k : Int) ∧ l.length ≤ k ∧ TA wx [(gx, tbX s row)] v ⟨s, l⟩ bz row u l ds w) acts.length ⟨0, row, u, [], ds, by omega, L, f12, by simp, HI⟩ ?_
  rintro g A w ⟨k, row, u, l, ds, hkg, L, f12, hl, HI⟩
  by_cases hlt : k < acts.length
  · obtain ⟨ba, oa, rfl, HC⟩ := HA k hlt
    exact bround A w wx Q _ k acts.length cap ba oa bz gx nd v row u s l ds acts[k] hlt hn hid HC (HOK _ (List.getElem_mem hlt)) L f12 hl HI (fun A' w' row' u' l' ds' L' g12 hl' HI' => ⟨acts.length - (k + 1), by omega, k + 1, row', u', l', ds', by omega, L', by rw [g12]; rfl, hl', HI'⟩)
  · conv => arg 2; whnf
    repeat refine wp_seq ?_
    refine b12f _ _ _ k acts.length cap a0 nd v gx bz (decide_eq_false hlt) L f12 (fun A0 n0 h64 => ?_)
    repeat first | with_reducible refine then_q ?_ | with_reducible refine inBlock_q ?_
    repeat refine wp_seq ?_
    refine wp_cond_false (by exact h64) ?_
    refine wp_exit ?_
    exact hQ _ _ _ _ _ _ (L.keep n0 (by omega) (by omega)) HI
end Go.Proofs.Ytdlkpkigpnlanaa
