/- The loops of the document's own Due, and the whole. Conditions: tables of at most 100,000 beats. -/
import Derived.Test.YtdlkpkigpnlanaaBduD
import Derived.Deep.LoopGhost
namespace Go.Proofs.Ytdlkpkigpnlanaa
open Go.ChangeShapes Go.WideShapes Go.ChangeAt Go.RowKit
set_option linter.unusedVariables false
set_option maxRecDepth 100000
set_option linter.unusedSimpArgs false
set_option maxHeartbeats 4000000

/-- What stays all through a round. -/
structure LU (A : Act) (now : Int) (bx : Nat) (v6 : Value) (k : Nat) : Prop where
  l : LDu A now bx
  f6 : sl A.tmps 6 = v6
  f7 : sl A.tmps 7 = .int .i64 (k : Int)
theorem LU.keep {A A' : Act} {now : Int} {bx k n e f : Nat} {v6 : Value} (h : LU A now bx v6 k) (hn : NearU n e f A A') (h7 : 8 ≤ n) (he : 8 ≤ e) : LU A' now bx v6 k :=
  ⟨h.l.keep hn (by omega) (by omega), hn.at_ h.f6 (by omega) (by omega), hn.at_ h.f7 (by omega) (by omega)⟩
theorem then_r {K : Act → World → Prop} {Q : Exit → Act → World → Prop} {a : Act} {w : World} (h : Q .ret a w) : Exit.then K Q .ret a w := h
theorem inBlock_r {Q : Exit → Act → World → Prop} {a : Act} {w : World} {id : Nat} (h : Q .ret a w) : Exit.inBlock id Q .ret a w := h
section
variable {wL : World} {K : Nat → Prop} {s now : Int} {v6 : Value} {od l : List Bt} {A0 : Option Addr} {c k : Nat}
theorem d9 (A : Act) (w : World) (Q : Exit → Act → World → Prop) (hl : l.length ≤ 100000) (i : Nat) (hi : i < l.length) (L : LDu A now wL.heap.size) (f8 : sl A.tmps 8 = .int .i64 (bestZ (bestB l now i))) (f9 : sl A.tmps 9 = .int .i64 (i : Int)) (HI : DS wL K s v6 od (.slice A0 l.length c) l w)
    (hQ : ∀ A' w' cv, NearU 10 10 10 A A' → sl A'.tmps 47 = .bool cv → (cv = true ↔ (l[i].u ≤ now ∧ (∀ j (hj : j < l.length), bestB l now i = some j → l[i].u < l[j].u))) → DS wL K s v6 od (.slice A0 l.length c) l w' → Q .normal A' w') : Code.wp Try.prog (duR 9) Q A w := by
  by_cases hd : l[i].u ≤ now
  · cases hb : bestB l now i with
    | none =>
      rw [hb] at f8
      exact d9n _ _ _ wL K s v6 od A0 c l hl now L HI i hi _ rfl f9 f8 hd (fun A' w' n f h => hQ _ _ true n f ⟨fun _ => ⟨hd, fun j _ h => by rw [hb] at h; cases h⟩, fun _ => rfl⟩ h)
    | some j =>
      have hj := Nat.lt_trans (bestB_lt l now i (by omega) j hb) hi
      have f8b : sl A.tmps 8 = .int .i64 (j : Int) := by rw [f8, hb]; rfl
      refine d9s _ _ _ wL K s v6 od A0 c l hl now L HI i hi _ rfl f9 j hj _ rfl f8b hd _ rfl (fun A' w' n f h => hQ _ _ _ n f ⟨fun h => ⟨hd, fun j' _ h' => by rw [hb] at h'; cases h'; exact of_decide_eq_true h⟩, fun h => decide_eq_true (h.2 j hj hb)⟩ h)
  · exact d9f _ _ _ wL K s v6 od A0 c l hl now L HI i hi _ rfl f9 _ f8 hd (fun A' w' n f h => hQ _ _ false n f ⟨fun h => (by cases h), fun h => absurd h.1 hd⟩ h)
theorem du_round (A : Act) (w : World) (Q : Exit → Act → World → Prop) (J : Act → World → Prop) (hl : l.length ≤ 100000) (i : Nat) (hi : i < l.length) (L : LU A now wL.heap.size v6 k) (f8 : sl A.tmps 8 = .int .i64 (bestZ (bestB l now i))) (f9 : sl A.tmps 9 = .int .i64 (i : Int)) (HI : DS wL K s v6 od (.slice A0 l.length c) l w)
    (hK : ∀ A' w', LU A' now wL.heap.size v6 k → sl A'.tmps 8 = .int .i64 (bestZ (bestB l now (i + 1))) → sl A'.tmps 9 = .int .i64 ((i : Int) + 1) → DS wL K s v6 od (.slice A0 l.length c) l w' → J A' w') : Code.wp Try.prog duLn (Exit.then J Q) A w := by
  have hst := bestB_step l now i hi
  conv => arg 2; whnf
  repeat refine wp_seq ?_
  refine d7t _ _ _ wL K s v6 od A0 c l hl now L.l HI i (decide_eq_true hi) f9 (fun A1 n1 f18 => ?_)
  repeat first | with_reducible refine then_qu ?_ | with_reducible refine inBlock_qu ?_
  replace f8 := n1.at_ f8 (by omega) (by omega)
  replace f9 := n1.at_ f9 (by omega) (by omega)
  replace L := L.keep n1 (by omega) (by omega)
  repeat refine wp_seq ?_
  refine wp_cond_true (by exact f18) ?_
  refine wp_skip ?_
  repeat first | with_reducible refine then_qu ?_ | with_reducible refine inBlock_qu ?_
  repeat refine wp_seq ?_
  try refine wp_block ?_
  repeat refine wp_seq ?_
  refine d9 _ _ _ hl i hi L.l f8 f9 HI (fun A2 w2 cv n2 f47 hcv HI2 => ?_)
  repeat first | with_reducible refine then_qu ?_ | with_reducible refine inBlock_qu ?_
  replace f8 := n2.at_ f8 (by omega) (by omega)
  replace f9 := n2.at_ f9 (by omega) (by omega)
  replace L := L.keep n2 (by omega) (by omega)
  repeat refine wp_seq ?_
  refine fv_cut (fun A' w' => LU A' now wL.heap.size v6 k ∧ sl A'.tmps 8 = .int .i64 (bestZ (bestB l now (i + 1))) ∧ sl A'.tmps 9 = .int .i64 (i : Int) ∧ DS wL K s v6 od (.slice A0 l.length c) l w') ?_ ?_
  · cases cv with
    | true =>
      rw [if_pos (hcv.1 rfl)] at hst
      repeat refine wp_seq ?_
      refine wp_cond_true (by exact f47) ?_
      repeat refine wp_seq ?_
      refine d10 _ _ _ _ n2.1 n2.2.1 f9 (fun A3 n3 f8' => ?_)
      repeat first | with_reducible refine then_qu ?_ | with_reducible refine inBlock_qu ?_
      clear f8
      replace f9 := n3.at_ f9 (by omega) (by omega)
      replace L := L.keep n3 (by omega) (by omega)
      exact ⟨rfl, L, by rw [f8', hst]; rfl, f9, HI2⟩
    | false =>
      rw [if_neg (fun h => by have := hcv.2 h; cases this)] at hst
      repeat refine wp_seq ?_
      refine wp_cond_false (by exact f47) ?_
      try refine wp_skip ?_
      repeat first | with_reducible refine then_qu ?_ | with_reducible refine inBlock_qu ?_
      exact ⟨rfl, L, by rw [f8, hst], f9, HI2⟩
  · rintro Ac wc ⟨Lc, c8, c9, HIc⟩
    clear L f8 f9 HI
    rename LU Ac _ _ _ _ => L
    repeat first | with_reducible refine then_qu ?_ | with_reducible refine inBlock_qu ?_
    repeat refine wp_seq ?_
    refine d8 _ _ _ i (by omega) L.l.bs L.l.bd c9 (fun A4 n4 f9 => ?_)
    repeat first | with_reducible refine then_qu ?_ | with_reducible refine inBlock_qu ?_
    exact hK _ _ (L.keep n4 (by omega) (by omega)) (n4.at_ c8 (by omega) (by omega)) f9 HIc
theorem du_in (A : Act) (w : World) (Q : Exit → Act → World → Prop) (hl : l.length ≤ 100000) (L : LU A now wL.heap.size v6 k) (f8 : sl A.tmps 8 = .int .i64 (-1)) (f9 : sl A.tmps 9 = .int .i64 0) (HI : DS wL K s v6 od (.slice A0 l.length c) l w)
    (hQ : ∀ A' w', LU A' now wL.heap.size v6 k → sl A'.tmps 8 = .int .i64 (bestZ (bestB l now l.length)) → DS wL K s v6 od (.slice A0 l.length c) l w' → Q (.exit 2) A' w') : Code.wp Try.prog (.loop duLn) Q A w := by
  refine wp_loop_ghost (fun q A w => ∃ i, i + q = l.length ∧ LU A now wL.heap.size v6 k ∧ sl A.tmps 8 = .int .i64 (bestZ (bestB l now i)) ∧ sl A.tmps 9 = .int .i64 (i : Int) ∧ DS wL K s v6 od (.slice A0 l.length c) l w) l.length ⟨0, by omega, L, f8, f9, HI⟩ ?_
  clear L f8 f9 HI A w
  rintro q A w ⟨i, hiq, L, f8, f9, HI⟩
  by_cases hlt : i < l.length
  · exact du_round A w Q _ hl i hlt L f8 f9 HI (fun A' w' L' g8 g9 HI' => ⟨l.length - (i + 1), by omega, i + 1, by omega, L', g8, by rw [g9]; rfl, HI'⟩)
  · obtain rfl : i = l.length := by omega
    conv => arg 2; whnf
    repeat refine wp_seq ?_
    refine d7f _ _ _ wL K s v6 od A0 c l hl now L.l HI l.length (decide_eq_false hlt) f9 (fun A1 n1 h18 => ?_)
    repeat first | with_reducible refine then_qu ?_ | with_reducible refine inBlock_qu ?_
    repeat refine wp_seq ?_
    refine wp_cond_false (by exact h18) ?_
    refine wp_exit ?_
    exact hQ _ _ (L.keep n1 (by omega) (by omega)) (n1.at_ f8 (by omega) (by omega)) HI
end
theorem due_stepU (l : List Bt) (now : Int) (f : Nat) : (bestB l now l.length = none → dueB (f + 1) l now = ([], l)) ∧ ∀ j (hj : j < l.length), bestB l now l.length = some j → dueB (f + 1) l now = (l[j] :: (dueB f (wobB l l[j].n) now).1, (dueB f (wobB l l[j].n) now).2) := by
  refine ⟨fun h => ?_, fun j hj h => ?_⟩
  · conv => lhs; unfold dueB
    rw [h]
  · conv => lhs; unfold dueB
    rw [h]
    simp only [List.getElem?_eq_getElem hj]
theorem du_out (A : Act) (w : World) (Q : Exit → Act → World → Prop) (wL : World) (K : Nat → Prop) (s now : Int) (l0 : List Bt) (h0 : ∃ v6 od l A0 c, dueB 16 l0 now = (od ++ (dueB (16) l now).1, (dueB (16) l now).2) ∧ l.length ≤ 100000 ∧ od.length ≤ 0 ∧ LU A now wL.heap.size v6 0 ∧ DS wL K s v6 od (.slice A0 l.length c) l w)
    (hQ : (∀ A' w' v6 od l A0 c, LDu A' now wL.heap.size → sl A'.tmps 5 = v6 → dueB 16 l0 now = (od, l) → DE wL K s v6 od (.slice A0 l.length c) l w' → Q .ret A' w'))
    (hX : ∀ A' w' v6 od l A0 c, l.length ≤ 100000 → LU A' now wL.heap.size v6 16 → dueB 16 l0 now = (od, l) → DS wL K s v6 od (.slice A0 l.length c) l w' → Q (.exit 0) A' w') : Code.wp Try.prog (.loop duLp) Q A w := by
  refine wp_loop_ghost (fun q A w => ∃ k, k + q = 16 ∧ ∃ v6 od l A0 c, dueB 16 l0 now = (od ++ (dueB (16 - k) l now).1, (dueB (16 - k) l now).2) ∧ l.length ≤ 100000 ∧ od.length ≤ k ∧ LU A now wL.heap.size v6 k ∧ DS wL K s v6 od (.slice A0 l.length c) l w) 16 ⟨0, by omega, h0⟩ ?_
  clear h0 A w
  rintro q A w ⟨k, hkq, v6, od, l, A0, c, hdu, hl, hod, L, HI⟩
  by_cases hlt : k < 16
  · conv => arg 2; whnf
    repeat refine wp_seq ?_
    refine d3t _ _ _ k (decide_eq_true hlt) L.l.bs L.l.bd L.f7 (fun A1 n1 f11 => ?_)
    repeat first | with_reducible refine then_qu ?_ | with_reducible refine inBlock_qu ?_
    replace L := L.keep n1 (by omega) (by omega)
    repeat refine wp_seq ?_
    refine wp_cond_true (by exact f11) ?_
    refine wp_skip ?_
    repeat first | with_reducible refine then_qu ?_ | with_reducible refine inBlock_qu ?_
    repeat refine wp_seq ?_
    try refine wp_block ?_
    repeat refine wp_seq ?_
    refine d5 _ _ _ L.l.bs L.l.bd (fun A2 n2 f8 => ?_)
    repeat first | with_reducible refine then_qu ?_ | with_reducible refine inBlock_qu ?_
    replace L := L.keep n2 (by omega) (by omega)
    repeat refine wp_seq ?_
    refine d6 _ _ _ L.l.bs L.l.bd (fun A3 n3 f9 => ?_)
    repeat first | with_reducible refine then_qu ?_ | with_reducible refine inBlock_qu ?_
    replace f8 := n3.at_ f8 (by omega) (by omega)
    replace L := L.keep n3 (by omega) (by omega)
    repeat refine wp_seq ?_
    try refine wp_block ?_
    repeat refine wp_seq ?_
    refine du_in _ _ _ hl L f8 f9 HI (fun A4 w4 L4 g8 HI4 => ?_)
    clear L f8 f9 HI
    rename LU A4 _ _ _ _ => L
    repeat first | with_reducible refine inBlock_xu ?_ | with_reducible refine then_qu ?_ | with_reducible refine inBlock_qu ?_
    repeat refine wp_seq ?_
    refine d11 _ _ _ _ L.l.bs L.l.bd g8 (fun A5 n5 f50 => ?_)
    repeat first | with_reducible refine then_qu ?_ | with_reducible refine inBlock_qu ?_
    replace g8 := n5.at_ g8 (by omega) (by omega)
    replace L := L.keep n5 (by omega) (by omega)
    obtain ⟨f, hf⟩ : ∃ f, 16 - k = f + 1 := ⟨16 - k - 1, by omega⟩
    rw [hf] at hdu
    cases hb : bestB l now l.length with
    | none =>
      rw [hb] at f50
      rw [(due_stepU l now f).1 hb] at hdu
      repeat refine wp_seq ?_
      refine wp_cond_true (by exact f50) ?_
      repeat refine wp_seq ?_
      refine d12 _ _ _ wL K s v6 od A0 c l hl now L.l HI4 L.f6 (fun A6 w6 n6 f5 HE => ?_)
      repeat first | with_reducible refine then_qu ?_ | with_reducible refine inBlock_qu ?_
      repeat refine wp_seq ?_
      refine wp_ret ?_
      repeat first | with_reducible refine inBlock_r ?_ | with_reducible refine then_r ?_
      exact hQ _ _ v6 od l A0 c (L.l.keep n6 (by omega) (by omega)) f5 (by rw [hdu]; simp) HE
    | some j =>
      have hj := bestB_lt l now l.length (Nat.le_refl _) j hb
      rw [hb] at f50 g8
      have f50' : sl A5.tmps 50 = .bool false := by rw [f50]; exact congrArg Value.bool (decide_eq_false (by show ¬ (j : Int) < 0; omega))
      rw [(due_stepU l now f).2 j hj hb] at hdu
      repeat refine wp_seq ?_
      refine wp_cond_false (by exact f50') ?_
      try refine wp_skip ?_
      repeat first | with_reducible refine then_qu ?_ | with_reducible refine inBlock_qu ?_
      repeat refine wp_seq ?_
      refine d13 _ _ _ wL K s v6 od A0 c l hl now L.l HI4 (by omega) j hj l[j] rfl L.f6 g8 (fun A6 w6 v6' n6 f6 HI6 => ?_)
      repeat first | with_reducible refine then_qu ?_ | with_reducible refine inBlock_qu ?_
      replace g8 := n6.at_ g8 (by omega) (by omega)
      have f7 := n6.at_ L.f7 (by omega) (by omega)
      have LL := L.l.keep n6 (by omega) (by omega)
      repeat refine wp_seq ?_
      refine d14 _ _ _ wL K s v6' (od ++ [l[j]]) A0 c l hl now LL HI6 j hj _ rfl g8 (fun A7 w7 A1 c1 n7 HI7 => ?_)
      repeat first | with_reducible refine then_qu ?_ | with_reducible refine inBlock_qu ?_
      have f7' := n7.at_ f7 (by omega) (by omega)
      have f6' := n7.at_ f6 (by omega) (by omega)
      replace LL := LL.keep n7 (by omega) (by omega)
      repeat refine wp_seq ?_
      refine d4 _ _ _ k (by omega) LL.bs LL.bd f7' (fun A8 n8 f7'' => ?_)
      repeat first | with_reducible refine then_qu ?_ | with_reducible refine inBlock_qu ?_
      have hw := wobB_len l l[j].n
      exact ⟨q - 1, by omega, k + 1, by omega, v6', od ++ [l[j]], _, A1, c1, by rw [hdu, show 16 - (k + 1) = f by omega]; simp, by omega, by simp; omega, ⟨LL.keep n8 (by omega) (by omega), n8.at_ f6' (by omega) (by omega), by rw [f7'']; rfl⟩, HI7⟩
  · obtain rfl : k = 16 := by omega
    conv => arg 2; whnf
    repeat refine wp_seq ?_
    refine d3f _ _ _ 16 (by decide) L.l.bs L.l.bd L.f7 (fun A1 n1 h11 => ?_)
    repeat first | with_reducible refine then_qu ?_ | with_reducible refine inBlock_qu ?_
    repeat refine wp_seq ?_
    refine wp_cond_false (by exact h11) ?_
    refine wp_exit ?_
    exact hX _ _ v6 od l A0 c hl (L.keep n1 (by omega) (by omega)) (by rw [hdu]; simp [dueB]) HI
theorem de_ret {wL : World} {K : Nat → Prop} {s now : Int} {v6 u : Value} {od l : List Bt} {A : Act} {w : World} (bs : A.tmps.size = 73) (bd : A.defers = []) (l4 : sl A.tmps 4 = ptrU (wL.heap.size + 1)) (f5 : sl A.tmps 5 = v6) (h : DE wL K s v6 od u l w) (l0 : List Bt) (hd : dueB 16 l0 now = (od, l)) :
    bodyPost Try.prog Try.f12 (fun e w' => ∃ u o, e = .returned (.tuple #[tbV s u, o]) ∧ RdB w' (fun b => ((K b ∧ b < wL.heap.size) ∨ wL.heap.size + 2 ≤ b) ∧ ¬ o.ownBlock = some b) u (dueB 16 l0 now).2 ∧ RdB w' (fun b => wL.heap.size + 2 ≤ b) o (dueB 16 l0 now).1 ∧ Below wL.heap.size wL w') .ret A w := by
  rw [hd]
  refine bodyPost_ret (results_ctv (g := wL.heap.size + 1) (x := v6) rfl l4 f5 h.res Try.underlying30 rfl (by kernel_rfl)) bd ⟨u, v6, rfl, h.row, rdB_own h.own rfl, h.bel⟩
theorem bdue_any (s : Int) (v : Value) (l : List Bt) (now : Int) (K : Nat → Prop) (w : World) (hn : l.length ≤ 100000) (h : RdB w K v l) :
    Calls Try.prog 12 #[tbV s v, .int .i64 now] w fun e w' => ∃ u o, e = .returned (.tuple #[tbV s u, o]) ∧ RdB w' (fun b => ((K b ∧ b < w.heap.size) ∨ w.heap.size + 2 ≤ b) ∧ ¬ o.ownBlock = some b) u (dueB 16 l now).2 ∧ RdB w' (fun b => w.heap.size + 2 ≤ b) o (dueB 16 l now).1 ∧ Below w.heap.size w w' := by
  obtain ⟨A0, c, rfl, hc, _⟩ := rdB_form h
  have S0 := Lib.hid (tr_start w (tb2 s (.slice A0 l.length c)) (tb2 0 (.slice none 0 0)))
  have HI := Lib.hid (show DS w K s (.slice none 0 0) [] (.slice A0 l.length c) l _ from ⟨S0.out, (h.imp (K' := KD w K (.slice none 0 0)) fun b hb hl => ⟨.inl ⟨hb, hl⟩, fun e => by cases e⟩).below S0.out.bel, World.ownsRow_nil _ _ _ _, by simp⟩)
  unfold tbV
  unfold tb2 at S0 HI
  clear h
  go_enter Try.func12, Try.ntmps12
  go_wp2_with fail
  refine du_out _ _ _ w K s now l ⟨_, [], l, A0, c, rfl, hn, by simp, ⟨⟨rfl, rfl, rfl, rfl, rfl⟩, rfl, rfl⟩, HI.out⟩ ?_ ?_
  · intro A' w' v6 od l2 A2 c2 L f5 hd HE
    repeat first | with_reducible refine inBlock_r ?_ | with_reducible refine then_r ?_
    exact de_ret L.bs L.bd L.l4 f5 HE l hd
  · intro A' w' v6 od l2 A2 c2 hl2 L hd HI2
    repeat first | with_reducible refine inBlock_xu ?_ | with_reducible refine then_qu ?_
    obtain ⟨y0, y1, yf1, z0, z1, zf0, zf1⟩ := TR.cells HI2.tr
    have HE := Lib.hid (ds_end HI2)
    have HD := Lib.hid hd
    obtain ⟨⟨bs, bd, p1, p2, p4⟩, p6, p7⟩ := L
    have g2 := sl_get p2
    have g4 := sl_get p4
    have g6 := sl_get p6
    clear p1 p2 p4 p6 p7 HI2 hd S0 HI
    go_wp2_with fail
    refine de_ret ?_ ?_ ?_ ?_ HE.out l HD.out
    · try simp only [put_tmps]
      simp only [Array.size_setIfInBounds, bs]
    · first | exact bd | (simp only [put_defers, bd]; done) | rfl
    · try simp only [put_tmps]
      repeat first | rw [sl_ne _ (by decide)] | rw [sl_eq _ (by simp only [Array.size_setIfInBounds, bs]; decide)]
      try exact sl_of (by rw [bs]; decide) (by assumption)
    · try simp only [put_tmps]
      repeat first | rw [sl_ne _ (by decide)] | rw [sl_eq _ (by simp only [Array.size_setIfInBounds, bs]; decide)]
      try exact sl_of (by rw [bs]; decide) (by assumption)
end Go.Proofs.Ytdlkpkigpnlanaa
