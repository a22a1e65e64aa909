/- A round of BeatApart, put together of its regions, and the loop. Conditions: as stated. -/
import Derived.Test.YtdlkpkigpnlanaaBapD
import Derived.Deep.LoopGhost
namespace Go.Proofs.Ytdlkpkigpnlanaa
open Go.ChangeShapes Go.WideShapes Go.ChangeAt Go.RowKit
set_option linter.unusedVariables false
set_option maxRecDepth 100000
set_option linter.unusedSimpArgs false
set_option maxHeartbeats 4000000

theorem srt16 {l : List Bt} (h : sortedB l) (ho : ∀ b ∈ l, okB b) : l.length ≤ 16 := by
  rcases rise_len l h (fun b hb => (ho b hb).2.1) 0 (fun b hb => (ho b hb).1) with q | q
  · omega
  · rw [q]; simp
/-- What is told of a node does not hang on others. -/
theorem seen_code {s : Int} {l : List Bt} {n i now m : Int} (hs : s ≠ 0) (h : n ≠ m) : (seenB s (wobB l m) n i now).2 = (seenB s l n i now).2 := by
  unfold seenB
  rw [if_neg hs, if_neg hs, beat_wob h]
  split
  · rfl
  · cases beatB l n with
    | none => rfl
    | some x => simp only; split <;> rfl
theorem around (A : Act) (w wx : World) (Q : Exit → Act → World → Prop) (K : Act → World → Prop) (k n cap ba oa : Nat) (nd : Int) (v1 v2 : Value) (l : List Bt) (a : ActE) (hlt : k < n) (hn : n ≤ 100) (HC : ∀ w', Below wx.heap.size wx w' → AcEC ba (oa + k * 4) a w') (hok : a.ok)
    (L : LD A (.slice (some ⟨ba, oa, none⟩) n cap) nd v1 v2) (f9 : sl A.tmps 9 = .int .i64 (k : Int)) (HI : TQ wx [] v1 ⟨5, l⟩ v2 ⟨5, wobB l nd⟩ w)
    (hK : ∀ A' w' l', LD A' (.slice (some ⟨ba, oa, none⟩) n cap) nd v1 v2 → sl A'.tmps 9 = .int .i64 ((k : Int) + 1) → TQ wx [] v1 ⟨5, l'⟩ v2 ⟨5, wobB l' nd⟩ w' → K A' w') :
    Code.wp Try.prog baLp (Exit.then K Q) A w := by
  conv => arg 2; whnf
  repeat refine wp_seq ?_
  refine a8t _ _ _ k n cap _ nd v1 v2 (decide_eq_true hlt) L f9 (fun A0 n0 f43 => ?_)
  repeat first | with_reducible refine then_q ?_ | with_reducible refine inBlock_q ?_
  replace f9 := n0.at_ f9 (by omega) (by omega)
  replace L := L.keep n0 (by omega) (by omega)
  repeat refine wp_seq ?_
  refine wp_cond_true (by exact f43) ?_
  refine wp_skip ?_
  repeat first | with_reducible refine then_q ?_ | with_reducible refine inBlock_q ?_
  repeat refine wp_seq ?_
  refine wp_block ?_
  repeat refine wp_seq ?_
  refine a10 _ _ _ wx k n cap ba oa v1 v2 nd a ⟨5, l⟩ ⟨5, wobB l nd⟩ hlt hn HC L f9 HI (fun A1 w1 ga n1 f10 HT => ?_)
  repeat first | with_reducible refine then_q ?_ | with_reducible refine inBlock_q ?_
  clear HI
  rename TQ _ _ _ _ _ _ _ => HI
  replace f9 := n1.at_ f9 (by omega) (by omega)
  replace L := L.keep n1 (by omega) (by omega)
  repeat refine wp_seq ?_
  refine a11 _ _ _ wx ga (.slice (some ⟨ba, oa, none⟩) n cap) v1 v2 nd a L f10 ⟨5, l⟩ ⟨5, wobB l nd⟩ HI (fun A2 n2 f11 => ?_)
  repeat first | with_reducible refine then_q ?_ | with_reducible refine inBlock_q ?_
  replace f9 := n2.at_ f9 (by omega) (by omega)
  replace f10 := n2.at_ f10 (by omega) (by omega)
  replace L := L.keep n2 (by omega) (by omega)
  repeat refine wp_seq ?_
  refine a12 _ _ _ wx ga (.slice (some ⟨ba, oa, none⟩) n cap) v1 v2 nd a L f10 ⟨5, l⟩ ⟨5, wobB l nd⟩ HI (fun A3 n3 f55 => ?_)
  repeat first | with_reducible refine then_q ?_ | with_reducible refine inBlock_q ?_
  replace f9 := n3.at_ f9 (by omega) (by omega)
  replace f10 := n3.at_ f10 (by omega) (by omega)
  replace f11 := n3.at_ f11 (by omega) (by omega)
  replace L := L.keep n3 (by omega) (by omega)
  obtain ⟨hs1, hs2⟩ := HI.bok1
  have h16 : l.length ≤ 16 := srt16 hs1 hs2
  repeat refine wp_seq ?_
  refine fv_cut (fun A' w' => ∃ l', LD A' (.slice (some ⟨ba, oa, none⟩) n cap) nd v1 v2 ∧ sl A'.tmps 9 = .int .i64 (k : Int) ∧ sl A'.tmps 10 = ptrB ga ∧ TQ wx [(ga, acB a)] v1 ⟨5, l'⟩ v2 ⟨5, wobB l' nd⟩ w') ?_ ?_
  · try refine wp_block ?_
    repeat refine wp_seq ?_
    refine a15 _ _ _ _ n3.1 n3.2.1 f55 (fun A4 n4 f68 => ?_)
    repeat first | with_reducible refine then_q ?_ | with_reducible refine inBlock_q ?_
    replace f9 := n4.at_ f9 (by omega) (by omega)
    replace f10 := n4.at_ f10 (by omega) (by omega)
    replace f11 := n4.at_ f11 (by omega) (by omega)
    replace f55 := n4.at_ f55 (by omega) (by omega)
    replace L := L.keep n4 (by omega) (by omega)
    by_cases hk1 : a.kind = 1
    · rw [show (a.kind == 1) = true by rw [hk1]; rfl] at f68
      repeat refine wp_seq ?_
      refine wp_cond_true (by exact f68) ?_
      repeat refine wp_seq ?_
      refine a16 _ _ _ wx ga (.slice (some ⟨ba, oa, none⟩) n cap) v1 v2 nd a L f10 ⟨5, l⟩ ⟨5, wobB l nd⟩ hok.2.1 HI (fun B1 w1 m1 f12 HI1 => ?_)
      repeat first | with_reducible refine then_q ?_ | with_reducible refine inBlock_q ?_
      replace f9 := m1.at_ f9 (by omega) (by omega)
      replace f10 := m1.at_ f10 (by omega) (by omega)
      replace f11 := m1.at_ f11 (by omega) (by omega)
      replace L := L.keep m1 (by omega) (by omega)
      by_cases hm : a.n = nd
      · rw [show (a.n == nd) = true by rw [hm]; simp] at f11
        repeat refine wp_seq ?_
        refine a17m _ _ _ wx ga (.slice (some ⟨ba, oa, none⟩) n cap) v1 v2 nd a L f10 ⟨5, (seenB 5 l a.n a.m a.e).1⟩ ⟨5, wobB l nd⟩ f11 HI1 (fun B2 m2 f91 => ?_)
        repeat first | with_reducible refine then_q ?_ | with_reducible refine inBlock_q ?_
        replace f9 := m2.at_ f9 (by omega) (by omega)
        replace f10 := m2.at_ f10 (by omega) (by omega)
        replace L := L.keep m2 (by omega) (by omega)
        repeat refine wp_seq ?_
        refine wp_cond_false (by exact f91) ?_
        try refine wp_skip ?_
        repeat first | with_reducible refine then_q ?_ | with_reducible refine inBlock_q ?_
        have hl' : wobB (seenB 5 l a.n a.m a.e).1 nd = wobB l nd := by
          rw [hm]
          exact (seen_mine (s := 5) (l := l) (m := nd) (i := a.m) (now := a.e) hs1 (by have := HI1.bok1.1; rw [hm] at this; exact this))
        rw [← hl'] at HI1
        exact ⟨rfl, _, L, f9, f10, HI1⟩
      · rw [show (a.n == nd) = false from beq_false_of_ne hm] at f11
        repeat refine wp_seq ?_
        refine a17o _ _ _ wx ga (.slice (some ⟨ba, oa, none⟩) n cap) v1 v2 nd a L f10 ⟨5, (seenB 5 l a.n a.m a.e).1⟩ ⟨5, wobB l nd⟩ hok.2.1 f11 (by rw [f12]; exact congrArg _ (seen_code (s := 5) (by omega) hm).symm) HI1 (fun B2 w2 m2 f91 HI2 => ?_)
        repeat first | with_reducible refine then_q ?_ | with_reducible refine inBlock_q ?_
        replace f9 := m2.at_ f9 (by omega) (by omega)
        replace f10 := m2.at_ f10 (by omega) (by omega)
        replace L := L.keep m2 (by omega) (by omega)
        repeat refine wp_seq ?_
        refine wp_cond_false (by exact f91) ?_
        try refine wp_skip ?_
        repeat first | with_reducible refine then_q ?_ | with_reducible refine inBlock_q ?_
        have hq := seen_apart (s := 5) (i := a.m) (now := a.e) (by omega) hm HI2.bok2.1 HI1.bok1.1
        have hq1 : (seenB 5 (wobB l nd) a.n a.m a.e).1 = wobB (seenB 5 l a.n a.m a.e).1 nd := by rw [hq]
        simp only [hq1] at HI2
        exact ⟨rfl, _, L, f9, f10, HI2⟩
    · rw [show (a.kind == 1) = false from beq_false_of_ne hk1] at f68
      repeat refine wp_seq ?_
      refine wp_cond_false (by exact f68) ?_
      repeat refine wp_seq ?_
      refine a19 _ _ _ _ n4.1 n4.2.1 f55 (fun A5 n5 f92 => ?_)
      repeat first | with_reducible refine then_q ?_ | with_reducible refine inBlock_q ?_
      replace f9 := n5.at_ f9 (by omega) (by omega)
      replace f10 := n5.at_ f10 (by omega) (by omega)
      replace f11 := n5.at_ f11 (by omega) (by omega)
      replace L := L.keep n5 (by omega) (by omega)
      by_cases hk2 : a.kind = 2
      · rw [show (a.kind == 2) = true by rw [hk2]; rfl] at f92
        repeat refine wp_seq ?_
        refine wp_cond_true (by exact f92) ?_
        repeat refine wp_seq ?_
        refine a20 _ _ _ wx ga (.slice (some ⟨ba, oa, none⟩) n cap) v1 v2 nd a L f10 ⟨5, l⟩ ⟨5, wobB l nd⟩ hok.2.1 HI (fun B1 w1 m1 f13 HI1 => ?_)
        repeat first | with_reducible refine then_q ?_ | with_reducible refine inBlock_q ?_
        replace f9 := m1.at_ f9 (by omega) (by omega)
        replace f10 := m1.at_ f10 (by omega) (by omega)
        replace f11 := m1.at_ f11 (by omega) (by omega)
        replace L := L.keep m1 (by omega) (by omega)
        by_cases hm : a.n = nd
        · rw [show (a.n == nd) = true by rw [hm]; simp] at f11
          repeat refine wp_seq ?_
          refine a21m _ _ _ wx ga (.slice (some ⟨ba, oa, none⟩) n cap) v1 v2 nd a L f10 ⟨5, (dropB l a.n a.m).1⟩ ⟨5, wobB l nd⟩ f11 HI1 (fun B2 m2 f111 => ?_)
          repeat first | with_reducible refine then_q ?_ | with_reducible refine inBlock_q ?_
          replace f9 := m2.at_ f9 (by omega) (by omega)
          replace f10 := m2.at_ f10 (by omega) (by omega)
          replace L := L.keep m2 (by omega) (by omega)
          repeat refine wp_seq ?_
          refine wp_cond_false (by exact f111) ?_
          try refine wp_skip ?_
          repeat first | with_reducible refine then_q ?_ | with_reducible refine inBlock_q ?_
          have hl' : wobB (dropB l a.n a.m).1 nd = wobB l nd := by rw [hm]; exact drop_mine
          rw [← hl'] at HI1
          exact ⟨rfl, _, L, f9, f10, HI1⟩
        · rw [show (a.n == nd) = false from beq_false_of_ne hm] at f11
          have hq := drop_apart (l := l) (i := a.m) hm
          repeat refine wp_seq ?_
          refine a21o _ _ _ wx ga (.slice (some ⟨ba, oa, none⟩) n cap) v1 v2 nd a L f10 ⟨5, (dropB l a.n a.m).1⟩ ⟨5, wobB l nd⟩ hok.2.1 f11 (by rw [f13, show (dropB (wobB l nd) a.n a.m).2 = (dropB l a.n a.m).2 by rw [hq]]) HI1 (fun B2 w2 m2 f111 HI2 => ?_)
          repeat first | with_reducible refine then_q ?_ | with_reducible refine inBlock_q ?_
          replace f9 := m2.at_ f9 (by omega) (by omega)
          replace f10 := m2.at_ f10 (by omega) (by omega)
          replace L := L.keep m2 (by omega) (by omega)
          repeat refine wp_seq ?_
          refine wp_cond_false (by exact f111) ?_
          try refine wp_skip ?_
          repeat first | with_reducible refine then_q ?_ | with_reducible refine inBlock_q ?_
          have hq1 : (dropB (wobB l nd) a.n a.m).1 = wobB (dropB l a.n a.m).1 nd := by rw [hq]
          simp only [hq1] at HI2
          exact ⟨rfl, _, L, f9, f10, HI2⟩
      · rw [show (a.kind == 2) = false from beq_false_of_ne hk2] at f92
        repeat refine wp_seq ?_
        refine wp_cond_false (by exact f92) ?_
        have hq := due_apart (now := a.e) (m := nd) hs1 h16
        have hq1 : (dueB 16 (wobB l nd) a.e).1 = wobB (dueB 16 l a.e).1 nd := by rw [hq]
        have hq2 : (dueB 16 (wobB l nd) a.e).2 = wobB (dueB 16 l a.e).2 nd := by rw [hq]
        repeat refine wp_seq ?_
        refine a13 _ _ _ wx ga (.slice (some ⟨ba, oa, none⟩) n cap) v1 v2 nd a L f10 ⟨5, l⟩ ⟨5, wobB l nd⟩ (by have := (dueB_len 16 l a.e).1; simp; omega) hq1 HI (fun B2 w2 m2 f67 HI2 => ?_)
        repeat first | with_reducible refine then_q ?_ | with_reducible refine inBlock_q ?_
        replace f9 := m2.at_ f9 (by omega) (by omega)
        replace f10 := m2.at_ f10 (by omega) (by omega)
        replace L := L.keep m2 (by omega) (by omega)
        repeat refine wp_seq ?_
        refine wp_cond_false (by exact f67) ?_
        try refine wp_skip ?_
        repeat first | with_reducible refine then_q ?_ | with_reducible refine inBlock_q ?_
        simp only [hq2] at HI2
        exact ⟨rfl, _, L, f9, f10, HI2⟩
  · rintro Ac wc ⟨l', Lc, c9, c10, HIc⟩
    clear L f9 f10 f11 f55 HI hs1 hs2 h16
    rename LD Ac _ _ _ _ => L
    rename sl Ac.tmps 9 = _ => f9
    rename sl Ac.tmps 10 = _ => f10
    obtain ⟨hs1, hs2⟩ := HIc.bok1
    have h16 : l'.length ≤ 16 := srt16 hs1 hs2
    repeat first | with_reducible refine then_q ?_ | with_reducible refine inBlock_q ?_
    repeat refine wp_seq ?_
    refine a23 _ _ _ wx ga (.slice (some ⟨ba, oa, none⟩) n cap) v1 v2 nd a L f10 ⟨5, l'⟩ ⟨5, wobB l' nd⟩ (by simp; omega) rfl HIc (fun B3 w3 m3 f119 HI3 => ?_)
    repeat first | with_reducible refine then_q ?_ | with_reducible refine inBlock_q ?_
    replace f9 := m3.at_ f9 (by omega) (by omega)
    replace L := L.keep m3 (by omega) (by omega)
    repeat refine wp_seq ?_
    refine wp_cond_false (by exact f119) ?_
    refine wp_skip ?_
    repeat first | with_reducible refine then_q ?_ | with_reducible refine inBlock_q ?_
    repeat refine wp_seq ?_
    refine a9 _ _ _ k (by omega) L.bs L.bd f9 (fun B4 m4 f9' => ?_)
    repeat first | with_reducible refine then_q ?_ | with_reducible refine inBlock_q ?_
    exact hK _ _ l' (L.keep m4 (by omega) (by omega)) f9' HI3.tail
theorem aloop (A : Act) (w wx : World) (Q : Exit → Act → World → Prop) (cap : Nat) (nd : Int) (v1 v2 : Value) (a0 : Option Addr) (ls : List ActE) (hn : ls.length ≤ 100) (HA : ∀ k (hk : k < ls.length), ∃ b o, a0 = some ⟨b, o, none⟩ ∧ ∀ w', Below wx.heap.size wx w' → AcEC b (o + k * 4) ls[k] w')
    (HOK : ∀ a ∈ ls, a.ok) (L : LD A (.slice a0 ls.length cap) nd v1 v2) (f9 : sl A.tmps 9 = .int .i64 0) (HI : TQ wx [] v1 ⟨5, []⟩ v2 ⟨5, []⟩ w)
    (hQ : ∀ A' w' l', LD A' (.slice a0 ls.length cap) nd v1 v2 → TQ wx [] v1 ⟨5, l'⟩ v2 ⟨5, wobB l' nd⟩ w' → Q (.exit 0) A' w') : Code.wp Try.prog (.loop baLp) Q A w := by
  refine wp_loop_ghost (fun q A w => ∃ (k : Nat) (l : List Bt), k + q = ls.length ∧ LD A (.slice a0 ls.length cap) nd v1 v2 ∧ sl A.tmps 9 = .int .i64 (k : Int) ∧ TQ wx [] v1 ⟨5, l⟩ v2 ⟨5, wobB l nd⟩ w) ls.length ⟨0, [], by omega, L, f9, HI⟩ ?_
  clear L f9 HI A w
  rintro q A w ⟨k, l, hkg, L, f9, HI⟩
  by_cases hlt : k < ls.length
  · obtain ⟨ba, oa, rfl, HC⟩ := HA k hlt
    exact around A w wx Q _ k ls.length cap ba oa nd v1 v2 l ls[k] hlt hn HC (HOK _ (List.getElem_mem hlt)) L f9 HI (fun A' w' l' L' g9 HI' => ⟨ls.length - (k + 1), by omega, k + 1, l', by omega, L', by rw [g9]; rfl, HI'⟩)
  · conv => arg 2; whnf
    repeat refine wp_seq ?_
    refine a8f _ _ _ k ls.length cap a0 nd v1 v2 (decide_eq_false hlt) L f9 (fun A0 n0 h43 => ?_)
    repeat first | with_reducible refine then_q ?_ | with_reducible refine inBlock_q ?_
    repeat refine wp_seq ?_
    refine wp_cond_false (by exact h43) ?_
    refine wp_exit ?_
    exact hQ _ _ _ (L.keep n0 (by omega) (by omega)) HI
end Go.Proofs.Ytdlkpkigpnlanaa
