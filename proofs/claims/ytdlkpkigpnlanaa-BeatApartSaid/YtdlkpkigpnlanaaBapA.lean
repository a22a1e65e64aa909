/- The frame of BeatApart. Conditions: as stated. -/
import Derived.Test.YtdlkpkigpnlanaaBeaW
import Derived.Test.YtdlkpkigpnlanaaBeaPlain
import Derived.Test.YtdlkpkigpnlanaaTob
import Derived.Test.YtdlkpkigpnlanaaAct4
import Derived.Test.YtdlkpkigpnlanaaFv
import Derived.Test.YtdlkpkigpnlanaaHoldR
import Derived.Test.YtdlkpkigpnlanaaHoldV
import Derived.StillTailTactics
namespace Go.Proofs.Ytdlkpkigpnlanaa
open Go.ChangeShapes Go.WideShapes Go.ChangeAt Go.RowKit
set_option linter.unusedVariables false
set_option maxRecDepth 100000
set_option linter.unusedSimpArgs false
set_option maxHeartbeats 4000000

noncomputable def baR (n : Nat) : Code := ((Try.f5.body.bind (codeAt n)).getD .skip)
noncomputable def baLp : Code := ((Try.f5.body.bind loopAt).getD .skip)
abbrev ptrB (b : Nat) : Value := .pointer (some ⟨b, 0, none⟩)
structure LD (A : Act) (av : Value) (nd : Int) (v1 v2 : Value) : Prop where
  bs : A.tmps.size = 121
  bd : A.defers = []
  l0 : sl A.tmps 0 = av
  l1 : sl A.tmps 1 = .int .i64 nd
  l5 : sl A.tmps 5 = v1
  l7 : sl A.tmps 7 = v2
def NearD (n e f : Nat) (A A' : Act) : Prop := A'.tmps.size = 121 ∧ A'.defers = [] ∧ ∀ i, i < n → (i < e ∨ f ≤ i) → sl A'.tmps i = sl A.tmps i
theorem LD.keep {A A' : Act} {av : Value} {nd : Int} {v1 v2 : Value} {n e f : Nat} (h : LD A av nd v1 v2) (hn : NearD n e f A A') (h7 : 8 ≤ n) (he : 8 ≤ e) : LD A' av nd v1 v2 :=
  ⟨hn.1, hn.2.1, (hn.2.2 0 (by omega) (by omega)).trans h.l0, (hn.2.2 1 (by omega) (by omega)).trans h.l1, (hn.2.2 5 (by omega) (by omega)).trans h.l5, (hn.2.2 7 (by omega) (by omega)).trans h.l7⟩
theorem NearD.at_ {n e f : Nat} {A A' : Act} (hn : NearD n e f A A') {i : Nat} {v : Value} (h : sl A.tmps i = v) (hi : i < n) (he : i < e ∨ f ≤ i) : sl A'.tmps i = v := (hn.2.2 i hi he).trans h
theorem then_q {K : Act → World → Prop} {Q : Exit → Act → World → Prop} {a : Act} {w : World} (h : K a w) : Exit.then K Q .normal a w := h
theorem inBlock_q {Q : Exit → Act → World → Prop} {a : Act} {w : World} {id : Nat} (h : Q .normal a w) : Exit.inBlock id Q .normal a w := h
theorem inBlock_x {Q : Exit → Act → World → Prop} {a : Act} {w : World} {id : Nat} (h : Q .normal a w) : Exit.inBlock id Q (.exit id) a w := by
  unfold Exit.inBlock; simpa using h
theorem fv_ret2 {P : Program} {fn : Func} {R : Ending → World → Prop} {A : Act} {w : World} {i : Nat} {v : Value} (hr : fn.results = #[.tmp i]) (hv : sl A.tmps i = v) (hd : A.defers = []) (hR : R (.returned v) w) : bodyPost P fn R .ret A w :=
  fv_ret hr hv hd hR
def rdrB1 : Rdr (List Bt) := ⟨fun w K v l => RdB w K v l, fun h hk hs => RdK.keep h hk hs, fun h hk => RdK.imp h hk⟩
def acB (a : ActE) : Obj := .cells #[.int .i64 a.kind, .int .i64 a.n, .int .i64 a.m, .int .i64 a.e] 39 (0, 0)
abbrev TP (wL : World) (bs : List (Nat × Obj)) (v1 : Value) (x1 : Tv) (v2 : Value) (x2 : Tv) (row : Value) (l3 : List Bt) (w : World) : Prop := TB beaO rdrB1 wL bs v1 x1 v2 x2 row l3 w
/-- Whatever the row is. -/
def TQ (wL : World) (bs : List (Nat × Obj)) (v1 : Value) (x1 : Tv) (v2 : Value) (x2 : Tv) (w : World) : Prop := ∃ row l3, TP wL bs v1 x1 v2 x2 row l3 w
section
variable {wL : World} {bs : List (Nat × Obj)} {v1 v2 row u : Value} {x1 x2 : Tv} {l3 ds : List Bt} {w w' : World} {ga : Nat} {a : ActE}
theorem TQ.bel (h : TQ wL bs v1 x1 v2 x2 w) : Below wL.heap.size wL w := by obtain ⟨_, _, h⟩ := h; exact TB.bel h
theorem TQ.below (h : TQ wL bs v1 x1 v2 x2 w) (hb : Below w.heap.size w w') : TQ wL bs v1 x1 v2 x2 w' := by obtain ⟨r, l, h⟩ := h; exact ⟨r, l, TB.below h hb⟩
theorem TQ.draws (h : TQ wL bs v1 x1 v2 x2 w) : TQ wL bs v1 x1 v2 x2 w.drew := h.below below_drew
theorem TQ.bok1 (h : TQ wL bs v1 x1 v2 x2 w) : sortedB x1.l ∧ ∀ b ∈ x1.l, okB b := by obtain ⟨_, _, h⟩ := h; obtain ⟨F, h1⟩ := TB.own1 h; exact (bea_ok h1).2.2.2
theorem TQ.bok2 (h : TQ wL bs v1 x1 v2 x2 w) : sortedB x2.l ∧ ∀ b ∈ x2.l, okB b := by obtain ⟨_, _, h⟩ := h; obtain ⟨F, h1⟩ := TB.own2 h; exact (bea_ok h1).2.2.2
theorem TQ.new (o : Obj) (h : TQ wL bs v1 x1 v2 x2 w) : TQ wL ((w.heap.size, o) :: bs) v1 x1 v2 x2 (w.alloc o) := by obtain ⟨r, l, h⟩ := h; exact ⟨r, l, TB.new o h⟩
theorem TQ.tail {p : Nat × Obj} (h : TQ wL (p :: bs) v1 x1 v2 x2 w) : TQ wL bs v1 x1 v2 x2 w := by obtain ⟨r, l, h⟩ := h; exact ⟨r, l, TB.tail h⟩
theorem tq_act (h : TQ wL [(ga, acB a)] v1 x1 v2 x2 w) : w.cell? ⟨ga, 0, none⟩ = some (.int .i64 a.kind) ∧ w.cell? ⟨ga, 1, none⟩ = some (.int .i64 a.n) ∧ w.cell? ⟨ga, 2, none⟩ = some (.int .i64 a.m) ∧ w.cell? ⟨ga, 3, none⟩ = some (.int .i64 a.e) := by
  obtain ⟨_, _, h⟩ := h
  exact ⟨by rw [blk_cell h.get]; rfl, by rw [blk_cell h.get]; rfl, by rw [blk_cell h.get]; rfl, by rw [blk_cell h.get]; rfl⟩
theorem tq_seen1 {n : Int} (i now : Int) (hn : inI n) (h : TQ wL bs v1 x1 v2 x2 w) : Calls Try.prog 9 #[v1, .int .i64 n, .int .i64 i, .int .i64 now] w fun e w' => e = .returned (.int .i64 (seenB x1.s x1.l n i now).2) ∧ TQ wL bs v1 ⟨x1.s, (seenB x1.s x1.l n i now).1⟩ v2 x2 w' := by
  obtain ⟨r, l, h⟩ := h
  obtain ⟨F1, F2, h1, h2, h3, h4, h5, h6, h7, h8⟩ := h.1
  exact (ta_seen F1 v1 x1 w n i now hn h1).mono fun e w' ⟨he, hp⟩ => ⟨he, r, l, h.turn (two_turn1 h2 h3 h4 h5 h6 h7 h8 hp)⟩
theorem tq_seen2 {n : Int} (i now : Int) (hn : inI n) (h : TQ wL bs v1 x1 v2 x2 w) : Calls Try.prog 9 #[v2, .int .i64 n, .int .i64 i, .int .i64 now] w fun e w' => e = .returned (.int .i64 (seenB x2.s x2.l n i now).2) ∧ TQ wL bs v1 x1 v2 ⟨x2.s, (seenB x2.s x2.l n i now).1⟩ w' := by
  obtain ⟨r, l, h⟩ := h
  obtain ⟨F1, F2, h1, h2, h3, h4, h5, h6, h7, h8⟩ := h.1
  exact (ta_seen F2 v2 x2 w n i now hn h2).mono fun e w' ⟨he, hp⟩ => ⟨he, r, l, h.turn (two_turn2 h1 h3 h4 h5 h6 h7 h8 hp)⟩
theorem tq_drop1 {n : Int} (i : Int) (hn : inI n) (h : TQ wL bs v1 x1 v2 x2 w) : Calls Try.prog 11 #[v1, .int .i64 n, .int .i64 i] w fun e w' => e = .returned (.bool (dropB x1.l n i).2) ∧ TQ wL bs v1 ⟨x1.s, (dropB x1.l n i).1⟩ v2 x2 w' := by
  obtain ⟨r, l, h⟩ := h
  obtain ⟨F1, F2, h1, h2, h3, h4, h5, h6, h7, h8⟩ := h.1
  exact (ta_drop F1 v1 x1 w n i hn h1).mono fun e w' ⟨he, hp⟩ => ⟨he, r, l, h.turn (two_turn1 h2 h3 h4 h5 h6 h7 h8 hp)⟩
theorem tq_drop2 {n : Int} (i : Int) (hn : inI n) (h : TQ wL bs v1 x1 v2 x2 w) : Calls Try.prog 11 #[v2, .int .i64 n, .int .i64 i] w fun e w' => e = .returned (.bool (dropB x2.l n i).2) ∧ TQ wL bs v1 x1 v2 ⟨x2.s, (dropB x2.l n i).1⟩ w' := by
  obtain ⟨r, l, h⟩ := h
  obtain ⟨F1, F2, h1, h2, h3, h4, h5, h6, h7, h8⟩ := h.1
  exact (ta_drop F2 v2 x2 w n i hn h2).mono fun e w' ⟨he, hp⟩ => ⟨he, r, l, h.turn (two_turn2 h1 h3 h4 h5 h6 h7 h8 hp)⟩
theorem tp_due1 (now : Int) (h : TQ wL bs v1 x1 v2 x2 w) : Calls Try.prog 14 #[v1, .int .i64 now] w fun e w' => ∃ o, e = .returned o ∧ TP wL bs v1 ⟨x1.s, (dueB 16 x1.l now).2⟩ v2 x2 o (dueB 16 x1.l now).1 w' := by
  obtain ⟨r, l, h⟩ := h
  obtain ⟨F1, F2, h1, h2, h3, h4, h5, h6, h7, h8⟩ := h.1
  refine (ta_due F1 v1 x1 w now h1).mono fun e w' ⟨o, F', he, hp, ht, hs, hr⟩ => ⟨o, he, h.turn ?_⟩
  have t := two_turn1 (O := beaO) (R := rdrB1) h2 h3 h4 h5 h6 h7 h8 ⟨F', hp, ht, hs⟩
  obtain ⟨⟨F3, F4, q1, q2, q3, q4, q5, q6, q7, q8⟩, q9⟩ := t
  refine ⟨⟨F', F2, hp, beaO.keep h2 (fun k hk => ht.block k (beaO.lt h2 k hk) (fun e => h5 k e hk)) ht.size, fun k hk => ?_, h4, fun k hk hk2 => ?_, RdK.imp hr fun b hb hl => ⟨hb.2, fun e => by have := beaO.lt h2 b e; omega, fun e => by have := (h8 b e).2.2.1; omega⟩, q7, fun k hk => ⟨fun e => ?_, (h8 k hk).2.1, Nat.lt_of_lt_of_le (h8 k hk).2.2.1 ht.size, (h8 k hk).2.2.2⟩⟩, q9⟩
  · rcases hs k hk with e | e
    · exact h3 k e
    · exact Nat.le_trans h7.size e
  · rcases hs k hk with e | e
    · exact h5 k e hk2
    · have := beaO.lt h2 k hk2; omega
  · rcases hs k e with e | e
    · exact (h8 k hk).1 e
    · have := (h8 k hk).2.2.1; omega
theorem tp_due2 (now : Int) (h : TP wL bs v1 x1 v2 x2 row l3 w) : Calls Try.prog 14 #[v2, .int .i64 now] w fun e w' => ∃ o, e = .returned o ∧ TP wL bs v1 x1 v2 ⟨x2.s, (dueB 16 x2.l now).2⟩ row l3 w' ∧ ∃ K, RdB w' K o (dueB 16 x2.l now).1 := by
  obtain ⟨F1, F2, h1, h2, h3, h4, h5, h6, h7, h8⟩ := h.1
  exact (ta_due F2 v2 x2 w now h2).mono fun e w' ⟨o, F', he, hp, ht, hs, hr⟩ => ⟨o, he, h.turn (two_turn2 h1 h3 h4 h5 h6 h7 h8 ⟨F', hp, ht, hs⟩), _, hr⟩
theorem tp_others (n : Int) (hl : l3.length ≤ 100000) (h : TP wL bs v1 x1 v2 x2 row l3 w) : Calls Try.prog 18 #[row, .int .i64 n] w fun e w' => ∃ o, e = .returned o ∧ TP wL bs v1 x1 v2 x2 o (wobB l3 n) w' := by
  obtain ⟨K, hr⟩ := h.rd
  exact (bothers_any row l3 n K w hl hr).mono fun e w' ⟨o, he, ho, hb⟩ => ⟨o, he, TB.rowed h hb fun K' _ => RdK.imp ho fun b hb _ => .inr hb⟩
theorem tp_same {K : Nat → Prop} (hl : l3.length ≤ 100000) (hu : RdB w K u l3) (h : TP wL bs v1 x1 v2 x2 row l3 w) : Calls Try.prog 13 #[row, u] w fun e w' => e = .returned (.bool true) ∧ TP wL bs v1 x1 v2 x2 row l3 w' := by
  obtain ⟨K1, hr⟩ := h.rd
  exact (bsame_any row u l3 K1 K w hl hr hu).mono fun e w' ⟨he, hb⟩ => ⟨he, TB.below h hb⟩
theorem tp_all1 (h : TQ wL bs v1 x1 v2 x2 w) : Calls Try.prog 17 #[v1] w fun e w' => ∃ o, e = .returned o ∧ TP wL bs v1 x1 v2 x2 o x1.l w' := by
  obtain ⟨r, l, h⟩ := h
  obtain ⟨F1, h1⟩ := TB.own1 h
  exact (ta_all F1 v1 x1 w h1).mono fun e w' ⟨o, he, hr, hb⟩ => ⟨o, he, TB.rowed h hb fun K' _ => RdK.imp hr fun b hb _ => .inr hb⟩
theorem tp_all2 (h : TP wL bs v1 x1 v2 x2 row l3 w) : Calls Try.prog 17 #[v2] w fun e w' => ∃ o, e = .returned o ∧ TP wL bs v1 x1 v2 x2 row l3 w' ∧ ∃ K, RdB w' K o x2.l := by
  obtain ⟨F2, h2⟩ := TB.own2 h
  exact (ta_all F2 v2 x2 w h2).mono fun e w' ⟨o, he, hr, hb⟩ => ⟨o, he, TB.below h hb, _, hr⟩
end
end Go.Proofs.Ytdlkpkigpnlanaa
