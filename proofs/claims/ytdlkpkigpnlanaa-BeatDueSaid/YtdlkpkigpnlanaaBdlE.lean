/- The loops of BeatDue and a round, put together of the regions. Conditions: as stated. -/
import Derived.Test.YtdlkpkigpnlanaaBdlD
import Derived.Deep.LoopGhost
namespace Go.Proofs.Ytdlkpkigpnlanaa
open Go.ChangeShapes Go.WideShapes Go.ChangeAt Go.RowKit
set_option linter.unusedVariables false
set_option maxRecDepth 100000
set_option linter.unusedSimpArgs false
set_option maxHeartbeats 4000000

/-- What stays all through a round. -/
structure LO (A : Act) (av v : Value) (s : Int) (g8 g9 : Nat) (now i : Int) : Prop where
  l : LD A av v s g8 g9
  f10 : sl A.tmps 10 = .int .i64 now
  f11 : sl A.tmps 11 = .int .i64 i
theorem LO.keep {A A' : Act} {av v : Value} {s : Int} {g8 g9 : Nat} {now i : Int} {n f g : Nat} (h : LO A av v s g8 g9 now i) (hn : NearD n f g A A') (h7 : 12 ≤ n) (he : 12 ≤ f) : LO A' av v s g8 g9 now i :=
  ⟨h.l.keep hn (by omega) (by omega), hn.at_ h.f10 (by omega) (by omega), hn.at_ h.f11 (by omega) (by omega)⟩
theorem dj_round (A : Act) (w : World) (Q : Exit → Act → World → Prop) (K : Act → World → Prop) (wx : World) (av v : Value) (s now i : Int) (g8 g9 : Nat) (x : Tv) (last inc : Int → Int) (B : Nat) (A0 : Option Addr) (c : Nat) (ds : List Bt) (hat : ∀ k (hk : k < ds.length), 0 ≤ ds[k].n ∧ ds[k].n ≤ 15 ∧ zerZ inc ((ds.take k).map Bt.n) ds[k].n = ds[k].i ∧ last ds[k].n ≤ now) (k : Nat) (hk : k < ds.length) (hn : ds.length ≤ 16) (hne : g8 ≠ g9) (L : LO A av v s g8 g9 now i) (f15 : sl A.tmps 15 = (.slice A0 ds.length c)) (f16 : sl A.tmps 16 = .int .i64 k) (HI : OD wx v x g8 g9 last (zerZ inc ((ds.take k).map Bt.n)) B (.slice A0 ds.length c) ds w)
    (hK : ∀ A' w', LO A' av v s g8 g9 now i → sl A'.tmps 15 = (.slice A0 ds.length c) → sl A'.tmps 16 = .int .i64 ((k : Int) + 1) → OD wx v x g8 g9 last (zerZ inc ((ds.take (k + 1)).map Bt.n)) B (.slice A0 ds.length c) ds w' → K A' w') : Code.wp Try.prog dlJ (Exit.then K Q) A w := by
  obtain ⟨h0, h1, hi, hl⟩ := hat k hk
  conv => arg 2; whnf
  repeat refine wp_seq ?_
  refine bd24t _ _ _ k ds.length c A0 (decide_eq_true hk) L.l.bs L.l.bd f15 f16 (fun A1 n1 f102 => ?_)
  repeat first | with_reducible refine then_q ?_ | with_reducible refine inBlock_q ?_
  replace f15 := n1.at_ f15 (by omega) (by omega)
  replace f16 := n1.at_ f16 (by omega) (by omega)
  replace L := L.keep n1 (by omega) (by omega)
  repeat refine wp_seq ?_
  refine wp_cond_true (by exact f102) ?_
  refine wp_skip ?_
  repeat first | with_reducible refine then_q ?_ | with_reducible refine inBlock_q ?_
  repeat refine wp_seq ?_
  try refine wp_block ?_
  repeat refine wp_seq ?_
  refine bd26 _ _ _ wx av v s g8 g9 L.l x last _ B A0 c ds k hk (by omega) f15 f16 HI (fun A2 w2 gx n2 f17 HX => ?_)
  repeat first | with_reducible refine then_q ?_ | with_reducible refine inBlock_q ?_
  replace f15 := n2.at_ f15 (by omega) (by omega)
  replace f16 := n2.at_ f16 (by omega) (by omega)
  replace L := L.keep n2 (by omega) (by omega)
  repeat refine wp_seq ?_
  refine bd27 _ _ _ wx av v s g8 g9 L.l x last _ B _ ds gx ds[k] now h0 h1 hi hl L.f10 f17 HX (fun A3 w3 n3 f133 HX3 => ?_)
  repeat first | with_reducible refine then_q ?_ | with_reducible refine inBlock_q ?_
  replace f15 := n3.at_ f15 (by omega) (by omega)
  replace f16 := n3.at_ f16 (by omega) (by omega)
  replace f17 := n3.at_ f17 (by omega) (by omega)
  replace L := L.keep n3 (by omega) (by omega)
  repeat refine wp_seq ?_
  refine wp_cond_false (by exact f133) ?_
  refine wp_skip ?_
  repeat first | with_reducible refine then_q ?_ | with_reducible refine inBlock_q ?_
  repeat refine wp_seq ?_
  refine bd29 _ _ _ wx av v s g8 g9 L.l x last _ B _ ds gx ds[k] h0 h1 hne f17 HX3 (fun A4 w4 n4 HI4 => ?_)
  repeat first | with_reducible refine then_q ?_ | with_reducible refine inBlock_q ?_
  replace f15 := n4.at_ f15 (by omega) (by omega)
  replace f16 := n4.at_ f16 (by omega) (by omega)
  replace L := L.keep n4 (by omega) (by omega)
  repeat refine wp_seq ?_
  refine bd25 _ _ _ k (by omega) L.l.bs L.l.bd f16 (fun A5 n5 f16' => ?_)
  repeat first | with_reducible refine then_q ?_ | with_reducible refine inBlock_q ?_
  rw [zerZ_step inc ds k hk] at HI4
  exact hK _ _ (L.keep n5 (by omega) (by omega)) (n5.at_ f15 (by omega) (by omega)) f16' HI4
theorem dj_loop (A : Act) (w : World) (Q : Exit → Act → World → Prop) (wx : World) (av v : Value) (s now i : Int) (g8 g9 : Nat) (x : Tv) (last inc : Int → Int) (B : Nat) (A0 : Option Addr) (c : Nat) (ds : List Bt) (hat : ∀ k (hk : k < ds.length), 0 ≤ ds[k].n ∧ ds[k].n ≤ 15 ∧ zerZ inc ((ds.take k).map Bt.n) ds[k].n = ds[k].i ∧ last ds[k].n ≤ now) (hn : ds.length ≤ 16) (hne : g8 ≠ g9) (L : LO A av v s g8 g9 now i) (f15 : sl A.tmps 15 = (.slice A0 ds.length c)) (f16 : sl A.tmps 16 = .int .i64 0) (HI : OD wx v x g8 g9 last inc B (.slice A0 ds.length c) ds w)
    (hQ : ∀ A' w', LO A' av v s g8 g9 now i → OA wx v x g8 g9 last (zerZ inc (ds.map Bt.n)) w' → Q (.exit 2) A' w') : Code.wp Try.prog (.loop dlJ) Q A w := by
  refine wp_loop_ghost (fun q A w => ∃ k : Nat, k + q = ds.length ∧ LO A av v s g8 g9 now i ∧ sl A.tmps 15 = (.slice A0 ds.length c) ∧ sl A.tmps 16 = .int .i64 (k : Int) ∧ OD wx v x g8 g9 last (zerZ inc ((ds.take k).map Bt.n)) B (.slice A0 ds.length c) ds w) ds.length ⟨0, by omega, L, f15, f16, by rw [show (ds.take 0).map Bt.n = [] from rfl, zerZ_nil]; exact HI⟩ ?_
  clear L f15 f16 HI A w
  rintro q A w ⟨k, hkq, L, f15, f16, HI⟩
  by_cases hlt : k < ds.length
  · exact dj_round A w Q _ wx av v s now i g8 g9 x last inc B A0 c ds hat k hlt hn hne L f15 f16 HI (fun A' w' L' g15 g16 HI' => ⟨ds.length - (k + 1), by omega, k + 1, by omega, L', g15, by rw [g16]; rfl, HI'⟩)
  · conv => arg 2; whnf
    repeat refine wp_seq ?_
    refine bd24f _ _ _ k ds.length c A0 (decide_eq_false hlt) L.l.bs L.l.bd f15 f16 (fun A1 n1 h102 => ?_)
    repeat first | with_reducible refine then_q ?_ | with_reducible refine inBlock_q ?_
    repeat refine wp_seq ?_
    refine wp_cond_false (by exact h102) ?_
    refine wp_exit ?_
    obtain rfl : k = ds.length := by omega
    rw [List.take_length] at HI
    exact hQ _ _ (L.keep n1 (by omega) (by omega)) HI.ob
theorem dm_loop (A : Act) (w : World) (Q : Exit → Act → World → Prop) (wx : World) (av v : Value) (s now i : Int) (g8 g9 : Nat) (x : Tv) (last inc : Int → Int) (hrel : ∀ j : Nat, j < 16 → (beatB x.l (j : Int)).isSome = decide (0 < inc (j : Int)) ∧ (decide (0 < inc (j : Int)) = true → now < last (j : Int))) (L : LO A av v s g8 g9 now i) (f18 : sl A.tmps 18 = .int .i64 0) (HI : OA wx v x g8 g9 last inc w)
    (hQ : ∀ A' w', LO A' av v s g8 g9 now i → OA wx v x g8 g9 last inc w' → Q (.exit 4) A' w') : Code.wp Try.prog (.loop dlM) Q A w := by
  refine wp_loop_ghost (fun q A w => ∃ k : Nat, k + q = 16 ∧ LO A av v s g8 g9 now i ∧ sl A.tmps 18 = .int .i64 (k : Int) ∧ OA wx v x g8 g9 last inc w) 16 ⟨0, by omega, L, f18, HI⟩ ?_
  clear L f18 HI A w
  rintro q A w ⟨k, hkq, L, f18, HI⟩
  by_cases hlt : k < 16
  · conv => arg 2; whnf
    repeat refine wp_seq ?_
    refine bd31t _ _ _ k (decide_eq_true hlt) L.l.bs L.l.bd f18 (fun A1 n1 f138 => ?_)
    repeat first | with_reducible refine then_q ?_ | with_reducible refine inBlock_q ?_
    replace f18 := n1.at_ f18 (by omega) (by omega)
    replace L := L.keep n1 (by omega) (by omega)
    repeat refine wp_seq ?_
    refine wp_cond_true (by exact f138) ?_
    refine wp_skip ?_
    repeat first | with_reducible refine then_q ?_ | with_reducible refine inBlock_q ?_
    repeat refine wp_seq ?_
    try refine wp_block ?_
    repeat refine wp_seq ?_
    refine bd33 _ _ _ wx av v s g8 g9 L.l x last inc k (by unfold inI; omega) f18 HI (fun A2 w2 n2 f20 HI2 => ?_)
    repeat first | with_reducible refine then_q ?_ | with_reducible refine inBlock_q ?_
    replace f18 := n2.at_ f18 (by omega) (by omega)
    replace L := L.keep n2 (by omega) (by omega)
    obtain ⟨r1, r2⟩ := hrel k hlt
    rw [r1] at f20
    repeat refine wp_seq ?_
    refine bd34 _ _ _ wx av v s g8 g9 L.l x last inc k now _ hlt rfl r2 L.f10 f18 f20 HI2 (fun A3 n3 f165 => ?_)
    repeat first | with_reducible refine then_q ?_ | with_reducible refine inBlock_q ?_
    replace f18 := n3.at_ f18 (by omega) (by omega)
    replace L := L.keep n3 (by omega) (by omega)
    repeat refine wp_seq ?_
    refine wp_cond_false (by exact f165) ?_
    refine wp_skip ?_
    repeat first | with_reducible refine then_q ?_ | with_reducible refine inBlock_q ?_
    repeat refine wp_seq ?_
    refine bd32 _ _ _ k (by omega) L.l.bs L.l.bd f18 (fun A4 n4 f18' => ?_)
    repeat first | with_reducible refine then_q ?_ | with_reducible refine inBlock_q ?_
    exact ⟨16 - (k + 1), by omega, k + 1, by omega, L.keep n4 (by omega) (by omega), by rw [f18']; rfl, HI2⟩
  · conv => arg 2; whnf
    repeat refine wp_seq ?_
    refine bd31f _ _ _ k (decide_eq_false hlt) L.l.bs L.l.bd f18 (fun A1 n1 h138 => ?_)
    repeat first | with_reducible refine then_q ?_ | with_reducible refine inBlock_q ?_
    repeat refine wp_seq ?_
    refine wp_cond_false (by exact h138) ?_
    refine wp_exit ?_
    exact hQ _ _ (L.keep n1 (by omega) (by omega)) HI
theorem dround (A : Act) (w wx : World) (Q : Exit → Act → World → Prop) (K : Act → World → Prop) (k n cap ba oa g8 g9 : Nat) (a : ActE) (v : Value) (s now : Int) (l : List Bt) (last inc : Int → Int) (hlt : k < n) (hn : n ≤ 150) (hs : 1 ≤ s) (hs2 : s ≤ 64) (hne : g8 ≠ g9) (h0 : 0 ≤ now) (h1 : now ≤ 7 * (k : Int)) (hr : RelB l inc last (now + s)) (HC : ∀ w', Below wx.heap.size wx w' → AcEC ba (oa + k * 4) a w')
    (L : LO A (.slice (some ⟨ba, oa, none⟩) n cap) v s g8 g9 now (k : Int)) (HI : OA wx v ⟨s, l⟩ g8 g9 last inc w)
    (hK : ∀ A' w' l' last' inc' now', 0 ≤ now' → now' ≤ 7 * ((k : Int) + 1) → RelB l' inc' last' (now' + s) → LO A' (.slice (some ⟨ba, oa, none⟩) n cap) v s g8 g9 now' ((k : Int) + 1) → OA wx v ⟨s, l'⟩ g8 g9 last' inc' w' → K A' w') :
    Code.wp Try.prog dlLp (Exit.then K Q) A w := by
  conv => arg 2; whnf
  repeat refine wp_seq ?_
  refine bd10t _ _ _ k n cap _ v s g8 g9 (decide_eq_true hlt) L.l L.f11 (fun A0 n0 f43 => ?_)
  repeat first | with_reducible refine then_q ?_ | with_reducible refine inBlock_q ?_
  replace L := L.keep n0 (by omega) (by omega)
  repeat refine wp_seq ?_
  refine wp_cond_true (by exact f43) ?_
  refine wp_skip ?_
  repeat first | with_reducible refine then_q ?_ | with_reducible refine inBlock_q ?_
  repeat refine wp_seq ?_
  try refine wp_block ?_
  obtain ⟨L, f10, f11⟩ := L
  repeat refine wp_seq ?_
  refine bd12 _ _ _ k n cap ba oa v s g8 g9 a hlt hn (HC _ HI.bel) L f11 now h0 (by omega) f10 (fun A1 now' n1 f10' t1 t2 => ?_)
  repeat first | with_reducible refine then_q ?_ | with_reducible refine inBlock_q ?_
  clear f10
  rename sl A1.tmps 10 = _ => f10
  replace f11 := n1.at_ f11 (by omega) (by omega)
  replace L := L.keep n1 (by omega) (by omega)
  repeat refine wp_seq ?_
  refine bd13 _ _ _ k n cap ba oa v s g8 g9 a hlt hn (HC _ HI.bel) L f11 (fun A2 kk n2 f12 k0 k1 => ?_)
  repeat first | with_reducible refine then_q ?_ | with_reducible refine inBlock_q ?_
  replace f10 := n2.at_ f10 (by omega) (by omega)
  replace f11 := n2.at_ f11 (by omega) (by omega)
  replace L := L.keep n2 (by omega) (by omega)
  repeat refine wp_seq ?_
  refine bd14 _ _ _ k n cap ba oa v s g8 g9 a hlt hn (HC _ HI.bel) L f11 (fun A3 n3 f65 => ?_)
  repeat first | with_reducible refine then_q ?_ | with_reducible refine inBlock_q ?_
  replace f10 := n3.at_ f10 (by omega) (by omega)
  replace f11 := n3.at_ f11 (by omega) (by omega)
  replace f12 := n3.at_ f12 (by omega) (by omega)
  replace L := L.keep n3 (by omega) (by omega)
  replace hr := hr.more (t2 := now' + s) (by omega)
  obtain ⟨_, _, _, ho1, ho2⟩ := HI.bok
  repeat refine wp_seq ?_
  refine fv_cut (fun A' w' => ∃ l' last' inc', RelB l' inc' last' (now' + s) ∧ LO A' (.slice (some ⟨ba, oa, none⟩) n cap) v s g8 g9 now' (k : Int) ∧ OA wx v ⟨s, l'⟩ g8 g9 last' inc' w') ?_ ?_
  · try refine wp_block ?_
    by_cases hk1 : a.kind = 1
    · rw [show (a.kind == 1) = true by rw [hk1]; rfl] at f65
      repeat refine wp_seq ?_
      refine wp_cond_true (by exact f65) ?_
      repeat refine wp_seq ?_
      refine bd15 _ _ _ k n cap ba oa v s g8 g9 a hlt hn (HC _ HI.bel) L f11 (fun A4 m n4 f13 m0 m1 => ?_)
      repeat first | with_reducible refine then_q ?_ | with_reducible refine inBlock_q ?_
      replace f10 := n4.at_ f10 (by omega) (by omega)
      replace f11 := n4.at_ f11 (by omega) (by omega)
      replace f12 := n4.at_ f12 (by omega) (by omega)
      replace L := L.keep n4 (by omega) (by omega)
      repeat refine wp_seq ?_
      refine bd16 _ _ _ wx _ v s g8 g9 L ⟨s, l⟩ last inc kk m now' (by unfold inI; omega) f10 f12 f13 HI (fun A5 w5 n5 f14 HI5 => ?_)
      repeat first | with_reducible refine then_q ?_ | with_reducible refine inBlock_q ?_
      replace f10 := n5.at_ f10 (by omega) (by omega)
      replace f11 := n5.at_ f11 (by omega) (by omega)
      replace f12 := n5.at_ f12 (by omega) (by omega)
      replace f13 := n5.at_ f13 (by omega) (by omega)
      replace L := L.keep n5 (by omega) (by omega)
      obtain ⟨_, _, _, hp1, _⟩ := HI5.bok
      obtain ⟨y1, y2⟩ := hr.seen hs hs2 k0 k1 m0 m1 (by omega) (by omega) (srt_uniq ho1) (srt_uniq hp1)
      have hb : ((seenB s l kk m now').2 == 0) = decide (inc kk ≤ m) := by
        by_cases q : inc kk ≤ m
        · rw [(y1 q).1, decide_eq_true q]; rfl
        · rw [(y2 q).1, decide_eq_false q]; rfl
      repeat refine wp_seq ?_
      refine bd17 _ _ _ wx _ v s g8 g9 L ⟨s, (seenB s l kk m now').1⟩ last inc kk m _ _ k0 k1 hb rfl f12 f13 f14 HI5 (fun A6 n6 f85 => ?_)
      repeat first | with_reducible refine then_q ?_ | with_reducible refine inBlock_q ?_
      replace f10 := n6.at_ f10 (by omega) (by omega)
      replace f11 := n6.at_ f11 (by omega) (by omega)
      replace f12 := n6.at_ f12 (by omega) (by omega)
      replace f13 := n6.at_ f13 (by omega) (by omega)
      replace f14 := n6.at_ f14 (by omega) (by omega)
      replace L := L.keep n6 (by omega) (by omega)
      repeat refine wp_seq ?_
      refine wp_cond_false (by exact f85) ?_
      refine wp_skip ?_
      repeat first | with_reducible refine then_q ?_ | with_reducible refine inBlock_q ?_
      repeat refine wp_seq ?_
      refine bd19 _ _ _ _ n6.1 n6.2.1 f14 (fun A7 n7 f87 => ?_)
      repeat first | with_reducible refine then_q ?_ | with_reducible refine inBlock_q ?_
      replace f10 := n7.at_ f10 (by omega) (by omega)
      replace f11 := n7.at_ f11 (by omega) (by omega)
      replace f12 := n7.at_ f12 (by omega) (by omega)
      replace f13 := n7.at_ f13 (by omega) (by omega)
      replace L := L.keep n7 (by omega) (by omega)
      rw [show ((seenB s l kk m now').2 == 0) = _ from hb] at f87
      by_cases q : inc kk ≤ m
      · rw [decide_eq_true q] at f87
        repeat refine wp_seq ?_
        refine wp_cond_true (by exact f87) ?_
        repeat refine wp_seq ?_
        refine bd20 _ _ _ wx _ v s g8 g9 L ⟨s, (seenB s l kk m now').1⟩ last inc kk m k0 k1 hne f12 f13 HI5 (fun A8 w8 n8 HI8 => ?_)
        repeat first | with_reducible refine then_q ?_ | with_reducible refine inBlock_q ?_
        replace f10 := n8.at_ f10 (by omega) (by omega)
        replace f11 := n8.at_ f11 (by omega) (by omega)
        replace f12 := n8.at_ f12 (by omega) (by omega)
        replace L := L.keep n8 (by omega) (by omega)
        repeat refine wp_seq ?_
        refine bd21 _ _ _ wx _ v s g8 g9 L ⟨s, (seenB s l kk m now').1⟩ last (setZ inc kk m) kk now' k0 k1 hne (by omega) f10 f12 HI8 (fun A9 w9 n9 HI9 => ?_)
        repeat first | with_reducible refine then_q ?_ | with_reducible refine inBlock_q ?_
        replace f10 := n9.at_ f10 (by omega) (by omega)
        replace f11 := n9.at_ f11 (by omega) (by omega)
        replace L := L.keep n9 (by omega) (by omega)
        exact ⟨rfl, _, _, _, (y1 q).2, ⟨L, f10, f11⟩, HI9⟩
      · rw [decide_eq_false q] at f87
        repeat refine wp_seq ?_
        refine wp_cond_false (by exact f87) ?_
        try refine wp_skip ?_
        repeat first | with_reducible refine then_q ?_ | with_reducible refine inBlock_q ?_
        rw [(y2 q).2] at HI5
        exact ⟨rfl, _, _, _, hr, ⟨L, f10, f11⟩, HI5⟩
    · rw [show (a.kind == 1) = false from beq_false_of_ne hk1] at f65
      repeat refine wp_seq ?_
      refine wp_cond_false (by exact f65) ?_
      try refine wp_skip ?_
      repeat first | with_reducible refine then_q ?_ | with_reducible refine inBlock_q ?_
      exact ⟨rfl, l, _, _, hr, ⟨L, f10, f11⟩, HI⟩
  · rintro Ac wc ⟨l', last', inc', hr', Lc, HIc⟩
    clear L f10 f11 f12 f65 HI
    rename LO Ac _ _ _ _ _ _ _ => L
    obtain ⟨_, _, _, hs1, hs3⟩ := HIc.bok
    have hu := srt_uniq hs1
    have h16 := srt_len hs1 hs3
    repeat first | with_reducible refine then_q ?_ | with_reducible refine inBlock_q ?_
    repeat refine wp_seq ?_
    refine bd22 _ _ _ wx _ v s g8 g9 L.l ⟨s, l'⟩ last' inc' now' L.f10 HIc (fun B1 w1 A0 c B m1 f15 HD => ?_)
    repeat first | with_reducible refine then_q ?_ | with_reducible refine inBlock_q ?_
    replace L := L.keep m1 (by omega) (by omega)
    repeat refine wp_seq ?_
    refine bd23 _ _ _ L.l.bs L.l.bd (fun B2 m2 f16 => ?_)
    repeat first | with_reducible refine then_q ?_ | with_reducible refine inBlock_q ?_
    replace f15 := m2.at_ f15 (by omega) (by omega)
    replace L := L.keep m2 (by omega) (by omega)
    have hds : (dueB 16 l' now').1.length ≤ 16 := (dueB_len 16 l' now').1
    have hat := fun k hk => due_at hr' (now := now') hu h16 (fun b hb => ⟨(hs3 b hb).1, (hs3 b hb).2.1⟩) k hk
    obtain ⟨e1, e2⟩ := due_end hr' (now := now') hu h16
    repeat refine wp_seq ?_
    try refine wp_block ?_
    repeat refine wp_seq ?_
    refine dj_loop _ _ _ wx _ v s now' (k : Int) g8 g9 ⟨s, (dueB 16 l' now').2⟩ last' inc' B A0 c _ hat hds hne L f15 f16 HD (fun B3 w3 L3 HI3 => ?_)
    clear L
    rename LO B3 _ _ _ _ _ _ _ => L
    repeat first | with_reducible refine inBlock_x ?_ | with_reducible refine then_q ?_ | with_reducible refine inBlock_q ?_
    repeat refine wp_seq ?_
    refine bd30 _ _ _ L.l.bs L.l.bd (fun B4 m4 f18 => ?_)
    repeat first | with_reducible refine then_q ?_ | with_reducible refine inBlock_q ?_
    replace L := L.keep m4 (by omega) (by omega)
    generalize hld : (dueB 16 l' now').2 = ld at *
    generalize hid : zerZ inc' ((dueB 16 l' now').1.map Bt.n) = iz at *
    have hrel : ∀ j : Nat, j < 16 → (beatB ld (j : Int)).isSome = decide (0 < iz (j : Int)) ∧ (decide (0 < iz (j : Int)) = true → now' < last' (j : Int)) := fun j hj => ⟨e1.has (by omega) (by omega), fun hp => by
      rcases e1.at_ (j : Int) (by omega) (by omega) with ⟨q1, q2⟩ | ⟨b, q1, q2, q3, q4⟩
      · have := of_decide_eq_true hp; omega
      · have := e2 b (beat_some q1).1; omega⟩
    repeat refine wp_seq ?_
    try refine wp_block ?_
    repeat refine wp_seq ?_
    refine dm_loop _ _ _ wx _ v s now' (k : Int) g8 g9 ⟨s, ld⟩ last' iz hrel L f18 HI3 (fun B5 w5 L5 HI5 => ?_)
    clear L
    rename LO B5 _ _ _ _ _ _ _ => L
    repeat first | with_reducible refine inBlock_x ?_ | with_reducible refine then_q ?_ | with_reducible refine inBlock_q ?_
    repeat refine wp_seq ?_
    refine bd11 _ _ _ k (by omega) L.l.bs L.l.bd L.f11 (fun B6 m6 f11' => ?_)
    repeat first | with_reducible refine then_q ?_ | with_reducible refine inBlock_q ?_
    exact hK _ _ _ _ _ now' (by omega) (by omega) e1 ⟨L.l.keep m6 (by omega) (by omega), m6.at_ L.f10 (by omega) (by omega), f11'⟩ HI5
theorem dloop (A : Act) (w wx : World) (Q : Exit → Act → World → Prop) (cap g8 g9 : Nat) (v : Value) (s : Int) (a0 : Option Addr) (ls : List ActE) (last : Int → Int) (hn : ls.length ≤ 150) (hs : 1 ≤ s) (hs2 : s ≤ 64) (hne : g8 ≠ g9) (HA : ∀ k (hk : k < ls.length), ∃ b o, a0 = some ⟨b, o, none⟩ ∧ ∀ w', Below wx.heap.size wx w' → AcEC b (o + k * 4) ls[k] w')
    (L : LO A (.slice a0 ls.length cap) v s g8 g9 0 0) (HI : OA wx v ⟨s, []⟩ g8 g9 last (fun _ => 0) w)
    (hQ : ∀ A' w' l' last' inc', LD A' (.slice a0 ls.length cap) v s g8 g9 → OA wx v ⟨s, l'⟩ g8 g9 last' inc' w' → Q (.exit 0) A' w') : Code.wp Try.prog (.loop dlLp) Q A w := by
  refine wp_loop_ghost (fun q A w => ∃ (k : Nat) (now : Int) (l : List Bt) (last inc : Int → Int), k + q = ls.length ∧ 0 ≤ now ∧ now ≤ 7 * (k : Int) ∧ RelB l inc last (now + s) ∧ LO A (.slice a0 ls.length cap) v s g8 g9 now (k : Int) ∧ OA wx v ⟨s, l⟩ g8 g9 last inc w) ls.length ⟨0, 0, [], last, fun _ => 0, by omega, by omega, by omega, RelB.start _ _, L, HI⟩ ?_
  clear L HI A w
  rintro q A w ⟨k, now, l, last, inc, hkg, h0, h1, hr, L, HI⟩
  by_cases hlt : k < ls.length
  · obtain ⟨ba, oa, rfl, HC⟩ := HA k hlt
    exact dround A w wx Q _ k ls.length cap ba oa g8 g9 ls[k] v s now l last inc hlt hn hs hs2 hne h0 h1 hr HC L HI (fun A' w' l' last' inc' now' p0 p1 hr' L' HI' => ⟨ls.length - (k + 1), by omega, k + 1, now', l', last', inc', by omega, p0, by omega, hr', L', HI'⟩)
  · conv => arg 2; whnf
    repeat refine wp_seq ?_
    refine bd10f _ _ _ k ls.length cap a0 v s g8 g9 (decide_eq_false hlt) L.l L.f11 (fun A0 n0 h43 => ?_)
    repeat first | with_reducible refine then_q ?_ | with_reducible refine inBlock_q ?_
    repeat refine wp_seq ?_
    refine wp_cond_false (by exact h43) ?_
    refine wp_exit ?_
    exact hQ _ _ _ _ _ (L.l.keep n0 (by omega) (by omega)) HI
end Go.Proofs.Ytdlkpkigpnlanaa
