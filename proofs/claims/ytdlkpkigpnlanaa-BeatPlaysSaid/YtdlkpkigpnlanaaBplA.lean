/- The frame of BeatPlays. Conditions: as stated. -/
import Derived.Test.YtdlkpkigpnlanaaBeaW
import Derived.Test.YtdlkpkigpnlanaaTob
import Derived.Test.YtdlkpkigpnlanaaAct4
import Derived.Test.YtdlkpkigpnlanaaFv
import Derived.Test.YtdlkpkigpnlanaaHoldR
import Derived.Test.YtdlkpkigpnlanaaHoldV
import Derived.StillTailTactics
namespace Go.Proofs.Ytdlkpkigpnlanaa
open Go.ChangeShapes Go.WideShapes Go.ChangeAt Go.RowKit
set_option linter.unusedVariables false
set_option maxRecDepth 100000
set_option linter.unusedSimpArgs false
set_option maxHeartbeats 4000000

noncomputable def bpR (n : Nat) : Code := ((Try.f3.body.bind (codeAt n)).getD .skip)
noncomputable def bpLp : Code := ((Try.f3.body.bind loopAt).getD .skip)
abbrev ptrB (b : Nat) : Value := .pointer (some ⟨b, 0, none⟩)
structure LD (A : Act) (av : Value) (nd : Int) (v : Value) (gx bz : Nat) : Prop where
  bs : A.tmps.size = 238
  bd : A.defers = []
  l1 : sl A.tmps 1 = av
  l2 : sl A.tmps 2 = .int .i64 nd
  l7 : sl A.tmps 7 = v
  l9 : sl A.tmps 9 = ptrB gx
  l10 : sl A.tmps 10 = .pointer none
  l11 : sl A.tmps 11 = ptrB bz
def NearD (n e f : Nat) (A A' : Act) : Prop := A'.tmps.size = 238 ∧ A'.defers = [] ∧ ∀ i, i < n → (i < e ∨ f ≤ i) → sl A'.tmps i = sl A.tmps i
theorem LD.keep {A A' : Act} {av : Value} {nd : Int} {v : Value} {gx bz : Nat} {n e f : Nat} (h : LD A av nd v gx bz) (hn : NearD n e f A A') (h7 : 12 ≤ n) (he : 12 ≤ e) : LD A' av nd v gx bz :=
  ⟨hn.1, hn.2.1, (hn.2.2 1 (by omega) (by omega)).trans h.l1, (hn.2.2 2 (by omega) (by omega)).trans h.l2, (hn.2.2 7 (by omega) (by omega)).trans h.l7, (hn.2.2 9 (by omega) (by omega)).trans h.l9, (hn.2.2 10 (by omega) (by omega)).trans h.l10, (hn.2.2 11 (by omega) (by omega)).trans h.l11⟩
theorem NearD.at_ {n e f : Nat} {A A' : Act} (hn : NearD n e f A A') {i : Nat} {v : Value} (h : sl A.tmps i = v) (hi : i < n) (he : i < e ∨ f ≤ i) : sl A'.tmps i = v := (hn.2.2 i hi he).trans h
theorem then_q {K : Act → World → Prop} {Q : Exit → Act → World → Prop} {a : Act} {w : World} (h : K a w) : Exit.then K Q .normal a w := h
theorem inBlock_q {Q : Exit → Act → World → Prop} {a : Act} {w : World} {id : Nat} (h : Q .normal a w) : Exit.inBlock id Q .normal a w := h
theorem inBlock_x {Q : Exit → Act → World → Prop} {a : Act} {w : World} {id : Nat} (h : Q .normal a w) : Exit.inBlock id Q (.exit id) a w := by
  unfold Exit.inBlock; simpa using h
theorem fv_ret2 {P : Program} {fn : Func} {R : Ending → World → Prop} {A : Act} {w : World} {i : Nat} {v : Value} (hr : fn.results = #[.tmp i]) (hv : sl A.tmps i = v) (hd : A.defers = []) (hR : R (.returned v) w) : bodyPost P fn R .ret A w :=
  fv_ret hr hv hd hR
def rdrB2 : Rdr (List Bt × List Bt) := ⟨fun w K v l => ∃ a b, v = .tuple #[a, b] ∧ RdB w K a l.1 ∧ RdB w K b l.2,
  fun h hk hs => by obtain ⟨a, b, e, h1, h2⟩ := h; exact ⟨a, b, e, RdK.keep h1 hk hs, RdK.keep h2 hk hs⟩,
  fun h hk => by obtain ⟨a, b, e, h1, h2⟩ := h; exact ⟨a, b, e, RdK.imp h1 hk, RdK.imp h2 hk⟩⟩
theorem pair_val {a b c d : Value} (h : Value.tuple #[a, b] = .tuple #[c, d]) : a = c ∧ b = d := by
  have := congrArg Array.toList (Value.tuple.inj h)
  simpa using this
def tbX (s : Int) (row : Value) : Obj := .cells #[.int .i64 s, row] 30 (0, 0)
def acB (a : ActE) : Obj := .cells #[.int .i64 a.kind, .int .i64 a.n, .int .i64 a.m, .int .i64 a.e] 39 (0, 0)
def btX (b : Bt) : Obj := .cells #[.int .i64 b.n, .int .i64 b.i, .int .i64 b.u] 51 (0, 0)
abbrev TA (wL : World) (bs : List (Nat × Obj)) (v : Value) (x : Tv) (bz : Nat) (row u : Value) (l3 ds : List Bt) (w : World) : Prop := TB beaO rdrB2 wL bs v x (ptrB bz) ⟨0, []⟩ (.tuple #[row, u]) (l3, ds) w
abbrev B2 (ga : Nat) (a : ActE) (gx : Nat) (s : Int) (row : Value) : List (Nat × Obj) := [(ga, acB a), (gx, tbX s row)]
section
variable {wL : World} {bs : List (Nat × Obj)} {v : Value} {x : Tv} {bz : Nat} {row row' u : Value} {l3 ds : List Bt} {w w' : World} {ga gx gn gb : Nat} {a : ActE} {b : Bt} {s : Int}
theorem TA.rd1 (h : TA wL bs v x bz row u l3 ds w) : ∃ K, RdB w K row l3 := by
  obtain ⟨K, p, q, e, h1, h2⟩ := h.rd
  obtain ⟨rfl, rfl⟩ := pair_val e
  exact ⟨K, h1⟩
theorem TA.rd2 (h : TA wL bs v x bz row u l3 ds w) : ∃ K, RdB w K u ds := by
  obtain ⟨K, p, q, e, h1, h2⟩ := h.rd
  obtain ⟨rfl, rfl⟩ := pair_val e
  exact ⟨K, h2⟩
theorem TA.bok (h : TA wL bs v x bz row u l3 ds w) : 0 ≤ x.s ∧ x.s ≤ 64 ∧ (x.s = 0 → x.l = []) ∧ sortedB x.l ∧ ∀ b ∈ x.l, okB b := by obtain ⟨F, h1⟩ := h.own1; exact bea_ok h1
theorem ta_act (h : TA wL (B2 ga a gx s row) v x bz row' u l3 ds w) : w.cell? ⟨ga, 0, none⟩ = some (.int .i64 a.kind) ∧ w.cell? ⟨ga, 1, none⟩ = some (.int .i64 a.n) ∧ w.cell? ⟨ga, 2, none⟩ = some (.int .i64 a.m) ∧ w.cell? ⟨ga, 3, none⟩ = some (.int .i64 a.e) :=
  ⟨by rw [blk_cell h.get]; rfl, by rw [blk_cell h.get]; rfl, by rw [blk_cell h.get]; rfl, by rw [blk_cell h.get]; rfl⟩
theorem ta_tab (h : TA wL (B2 ga a gx s row) v x bz row' u l3 ds w) : w.cell? ⟨gx, 0, none⟩ = some (.int .i64 s) ∧ w.cell? ⟨gx, 1, none⟩ = some row ∧ w.frozen? ⟨gx, 0, none⟩ = false ∧ w.frozen? ⟨gx, 1, none⟩ = false :=
  ⟨by rw [blk_cell h.get2]; rfl, by rw [blk_cell h.get2]; rfl, blk_free h.get2 0, blk_free h.get2 1⟩
theorem ta_nxt {p : Nat × Obj} {r2 : Value} (h : TA wL ((gn, tbX s row) :: p :: (gx, tbX s r2) :: []) v x bz row' u l3 ds w) : w.cell? ⟨gn, 0, none⟩ = some (.int .i64 s) ∧ w.cell? ⟨gn, 1, none⟩ = some row ∧ w.cell? ⟨gx, 0, none⟩ = some (.int .i64 s) ∧ w.cell? ⟨gx, 1, none⟩ = some r2 ∧ w.frozen? ⟨gx, 0, none⟩ = false ∧ w.frozen? ⟨gx, 1, none⟩ = false :=
  ⟨by rw [blk_cell h.get]; rfl, by rw [blk_cell h.get]; rfl, by rw [blk_cell h.get3]; rfl, by rw [blk_cell h.get3]; rfl, blk_free h.get3 0, blk_free h.get3 1⟩
/-- The document's table is what was told. -/
theorem ta_copy {r2 : Value} (h : TA wL ((gn, tbX s row) :: B2 ga a gx s r2) v x bz row u l3 ds w) (hne : ga ≠ gx) : TA wL (B2 ga a gx s row) v x bz row u l3 ds ((w.setCell ⟨gx, 0, none⟩ (.int .i64 s)).setCell ⟨gx, 1, none⟩ row) := by
  refine (TB.swap (TB.write (o' := tbX s row) h.tail.swap (fun j p hj => ?_) (((Only.refl gx w).setCell 0 _).setCell 1 _) (blk_set (blk_set h.get3 0 _) 1 _)))
  simp only [List.mem_singleton, Prod.mk.injEq] at hj
  exact hj.1 ▸ hne
theorem ta_new1 (a : ActE) (h : TA wL [(gx, tbX s row)] v x bz row' u l3 ds w) : TA wL (B2 w.heap.size a gx s row) v x bz row' u l3 ds (w.alloc (acB a)) ∧ w.heap.size ≠ gx := ⟨h.new (acB a), fun e => by have := h.lt (k := gx) (o := tbX s row) (by simp); omega⟩
/-! Calls of the program: of the table, of none, of a zero one -/
theorem none_below {y : Tv} (h : OPost beaO (fun _ => False) (.pointer none) y w w') : Below w.heap.size w w' := by
  obtain ⟨F', p1, p2, p3⟩ := h
  exact p2.below (fun k hk => hk.elim) (Nat.le_refl _)
theorem seen0 (n i now : Int) : seenB 0 [] n i now = ([], 7) := by unfold seenB; rw [if_pos rfl]
theorem due0 (now : Int) : dueB 16 [] now = ([], []) := rfl
theorem tc_seen {n : Int} (i now : Int) (hn : inI n) (h : TA wL bs v x bz row u l3 ds w) : Calls Try.prog 9 #[v, .int .i64 n, .int .i64 i, .int .i64 now] w fun e w' => e = .returned (.int .i64 (seenB x.s x.l n i now).2) ∧ TA wL bs v ⟨x.s, (seenB x.s x.l n i now).1⟩ bz row u l3 ds w' := by
  obtain ⟨F1, F2, h1, h2, h3, h4, h5, h6, h7, h8⟩ := h.1
  exact (ta_seen F1 v x w n i now hn h1).mono fun e w' ⟨he, hp⟩ => ⟨he, h.turn (two_turn1 h2 h3 h4 h5 h6 h7 h8 hp)⟩
theorem tc_seenN {n : Int} (i now : Int) (hn : inI n) (h : TA wL bs v x bz row u l3 ds w) : Calls Try.prog 9 #[.pointer none, .int .i64 n, .int .i64 i, .int .i64 now] w fun e w' => e = .returned (.int .i64 7) ∧ TA wL bs v x bz row u l3 ds w' := by
  have C := ta_seen _ _ _ w n i now hn (bea_nil w)
  rw [seen0] at C
  exact C.mono fun e w' ⟨he, hp⟩ => ⟨he, h.below (none_below hp)⟩
theorem tc_seenZ {n : Int} (i now : Int) (hn : inI n) (h : TA wL bs v x bz row u l3 ds w) : Calls Try.prog 9 #[ptrB bz, .int .i64 n, .int .i64 i, .int .i64 now] w fun e w' => e = .returned (.int .i64 7) ∧ TA wL bs v x bz row u l3 ds w' := by
  obtain ⟨F1, F2, h1, h2, h3, h4, h5, h6, h7, h8⟩ := h.1
  have C := ta_seen F2 _ _ w n i now hn h2
  rw [seen0] at C
  exact C.mono fun e w' ⟨he, hp⟩ => ⟨he, h.turn (two_turn2 h1 h3 h4 h5 h6 h7 h8 hp)⟩
theorem tc_drop {n : Int} (i : Int) (hn : inI n) (h : TA wL bs v x bz row u l3 ds w) : Calls Try.prog 11 #[v, .int .i64 n, .int .i64 i] w fun e w' => e = .returned (.bool (dropB x.l n i).2) ∧ TA wL bs v ⟨x.s, (dropB x.l n i).1⟩ bz row u l3 ds w' := by
  obtain ⟨F1, F2, h1, h2, h3, h4, h5, h6, h7, h8⟩ := h.1
  exact (ta_drop F1 v x w n i hn h1).mono fun e w' ⟨he, hp⟩ => ⟨he, h.turn (two_turn1 h2 h3 h4 h5 h6 h7 h8 hp)⟩
theorem tc_dropN {n : Int} (i : Int) (hn : inI n) (h : TA wL bs v x bz row u l3 ds w) : Calls Try.prog 11 #[.pointer none, .int .i64 n, .int .i64 i] w fun e w' => e = .returned (.bool false) ∧ TA wL bs v x bz row u l3 ds w' :=
  (ta_drop _ _ _ w n i hn (bea_nil w)).mono fun e w' ⟨he, hp⟩ => ⟨he, h.below (none_below hp)⟩
theorem tc_dropZ {n : Int} (i : Int) (hn : inI n) (h : TA wL bs v x bz row u l3 ds w) : Calls Try.prog 11 #[ptrB bz, .int .i64 n, .int .i64 i] w fun e w' => e = .returned (.bool false) ∧ TA wL bs v x bz row u l3 ds w' := by
  obtain ⟨F1, F2, h1, h2, h3, h4, h5, h6, h7, h8⟩ := h.1
  exact (ta_drop F2 _ _ w n i hn h2).mono fun e w' ⟨he, hp⟩ => ⟨he, h.turn (two_turn2 h1 h3 h4 h5 h6 h7 h8 hp)⟩
theorem tc_due (now : Int) (h : TA wL bs v x bz row u l3 ds w) : Calls Try.prog 14 #[v, .int .i64 now] w fun e w' => ∃ o, e = .returned o ∧ TA wL bs v ⟨x.s, (dueB 16 x.l now).2⟩ bz row u l3 ds w' ∧ ∃ K, RdB w' K o (dueB 16 x.l now).1 := by
  obtain ⟨F1, F2, h1, h2, h3, h4, h5, h6, h7, h8⟩ := h.1
  exact (ta_due F1 v x w now h1).mono fun e w' ⟨o, F', he, hp, ht, hs, hr⟩ => ⟨o, he, h.turn (two_turn1 h2 h3 h4 h5 h6 h7 h8 ⟨F', hp, ht, hs⟩), _, hr⟩
theorem tc_dueN (now : Int) (h : TA wL bs v x bz row u l3 ds w) : Calls Try.prog 14 #[.pointer none, .int .i64 now] w fun e w' => ∃ o, e = .returned o ∧ TA wL bs v x bz row u l3 ds w' ∧ ∃ A c, o = .slice A 0 c := by
  have C := ta_due _ _ _ w now (bea_nil w)
  rw [due0] at C
  exact C.mono fun e w' ⟨o, F', he, hp, ht, hs, hr⟩ => ⟨o, he, h.below (none_below ⟨F', hp, ht, hs⟩), by obtain ⟨A, c, h, _⟩ := rdB_form hr; exact ⟨A, c, h⟩⟩
theorem tc_dueZ (now : Int) (h : TA wL bs v x bz row u l3 ds w) : Calls Try.prog 14 #[ptrB bz, .int .i64 now] w fun e w' => ∃ o, e = .returned o ∧ TA wL bs v x bz row u l3 ds w' ∧ ∃ A c, o = .slice A 0 c := by
  obtain ⟨F1, F2, h1, h2, h3, h4, h5, h6, h7, h8⟩ := h.1
  have C := ta_due F2 _ _ w now h2
  rw [due0] at C
  exact C.mono fun e w' ⟨o, F', he, hp, ht, hs, hr⟩ => ⟨o, he, h.turn (two_turn2 h1 h3 h4 h5 h6 h7 h8 ⟨F', hp, ht, hs⟩), by obtain ⟨A, c, h, _⟩ := rdB_form hr; exact ⟨A, c, h⟩⟩
theorem tc_get {n : Int} (hn : inI n) (h : TA wL bs v x bz row u l3 ds w) : Calls Try.prog 15 #[v, .int .i64 n] w fun e w' => e = .returned (.tuple #[bt3 (btD (beatB x.l n)), .bool (beatB x.l n).isSome]) ∧ TA wL bs v x bz row u l3 ds w' := by
  obtain ⟨F1, h1⟩ := h.own1
  exact (ta_get F1 v x w n hn h1).mono fun e w' ⟨he, hb⟩ => ⟨he, h.below hb⟩
theorem tc_all (h : TA wL bs v x bz row u l3 ds w) : Calls Try.prog 17 #[v] w fun e w' => ∃ o, e = .returned o ∧ TA wL bs v x bz row u l3 ds w' ∧ ∃ K, RdB w' K o x.l := by
  obtain ⟨F1, h1⟩ := h.own1
  exact (ta_all F1 v x w h1).mono fun e w' ⟨o, he, hr, hb⟩ => ⟨o, he, h.below hb, _, hr⟩
theorem tc_allN (h : TA wL bs v x bz row u l3 ds w) : Calls Try.prog 17 #[.pointer none] w fun e w' => ∃ A c, e = .returned (.slice A 0 c) ∧ TA wL bs v x bz row u l3 ds w' :=
  (ta_all _ _ _ w (bea_nil w)).mono fun e w' ⟨o, he, hr, hb⟩ => by obtain ⟨A, c, hq, _⟩ := rdB_form hr; exact ⟨A, c, by rw [he, hq]; rfl, h.below hb⟩
theorem tc_allZ (h : TA wL bs v x bz row u l3 ds w) : Calls Try.prog 17 #[ptrB bz] w fun e w' => ∃ A c, e = .returned (.slice A 0 c) ∧ TA wL bs v x bz row u l3 ds w' := by
  obtain ⟨F2, h2⟩ := h.own2
  exact (ta_all F2 _ _ w h2).mono fun e w' ⟨o, he, hr, hb⟩ => by obtain ⟨A, c, hq, _⟩ := rdB_form hr; exact ⟨A, c, by rw [he, hq]; rfl, h.below hb⟩
/-! The document's -/
theorem ta_rows {u' : Value} {l' d' : List Bt} (h : TA wL bs v x bz row u l3 ds w) (hb : Below w.heap.size w w') (h1 : ∀ K, RdB w K row l3 → RdB w' (fun b => K b ∨ w.heap.size ≤ b) row' l') (h2 : ∀ K, RdB w K u ds → RdB w' (fun b => K b ∨ w.heap.size ≤ b) u' d') : TA wL bs v x bz row' u' l' d' w' :=
  TB.rowed h hb fun K ⟨p, q, e, a1, a2⟩ => by
    obtain ⟨rfl, rfl⟩ := pair_val e
    exact ⟨_, _, rfl, h1 K a1, h2 K a2⟩
theorem keep_u {K : Nat → Prop} {r : Value} {d : List Bt} (hb : Below w.heap.size w w') (h : RdB w K r d) : RdB w' (fun b => K b ∨ w.heap.size ≤ b) r d := RdK.imp (RdK.below h hb) fun b hb _ => .inl hb
end
/-- The call of the document's, by the row that stands, told of what comes of all rows. -/
theorem td_seen {wL : World} {bs : List (Nat × Obj)} {v : Value} {x : Tv} {bz : Nat} {row u : Value} {l3 ds : List Bt} {w : World} (s n i now : Int) (hl : l3.length ≤ 100000) (h : TA wL bs v x bz row u l3 ds w) :
    Calls Try.prog 8 #[tbV s row, .int .i64 n, .int .i64 i, .int .i64 now] w fun e w' => ∃ r, e = .returned (.tuple #[tbV s r, .int .i64 (seenB s l3 n i now).2]) ∧ TA wL bs v x bz r u (seenB s l3 n i now).1 ds w' := by
  obtain ⟨F1, F2, h1, h2, h3, h4, h5, ⟨p, q, e, a1, a2⟩, h7, h8⟩ := h.1
  obtain ⟨rfl, rfl⟩ := pair_val e
  exact (bseen_any s row l3 n i now _ w hl a1).mono fun e w' ⟨r, he, hr, hb⟩ => ⟨r, he, h.turn ⟨two_row h1 h2 h3 h4 h5 h7 h8 ⟨_, _, rfl, RdK.imp hr fun b hb _ => by rcases hb with hb | hb; exact .inl hb.1; exact .inr (by omega), keep_u hb a2⟩ hb, h.1.stay hb⟩⟩
theorem td_drop {wL : World} {bs : List (Nat × Obj)} {v : Value} {x : Tv} {bz : Nat} {row u : Value} {l3 ds : List Bt} {w : World} (s n i : Int) (hl : l3.length ≤ 100000) (h : TA wL bs v x bz row u l3 ds w) :
    Calls Try.prog 10 #[tbV s row, .int .i64 n, .int .i64 i] w fun e w' => ∃ r, e = .returned (.tuple #[tbV s r, .bool (dropB l3 n i).2]) ∧ TA wL bs v x bz r u (dropB l3 n i).1 ds w' := by
  obtain ⟨F1, F2, h1, h2, h3, h4, h5, ⟨p, q, e, a1, a2⟩, h7, h8⟩ := h.1
  obtain ⟨rfl, rfl⟩ := pair_val e
  exact (bdrop_any s row l3 n i _ w hl a1).mono fun e w' ⟨r, he, hr, hb⟩ => ⟨r, he, h.turn ⟨two_row h1 h2 h3 h4 h5 h7 h8 ⟨_, _, rfl, RdK.imp hr fun b hb _ => by rcases hb with hb | hb; exact .inl hb.1; exact .inr (by omega), keep_u hb a2⟩ hb, h.1.stay hb⟩⟩
theorem td_due {wL : World} {bs : List (Nat × Obj)} {v : Value} {x : Tv} {bz : Nat} {row u : Value} {l3 ds : List Bt} {w : World} (s now : Int) (hl : l3.length ≤ 100000) (h : TA wL bs v x bz row u l3 ds w) :
    Calls Try.prog 12 #[tbV s row, .int .i64 now] w fun e w' => ∃ r o, e = .returned (.tuple #[tbV s r, o]) ∧ TA wL bs v x bz r o (dueB 16 l3 now).2 (dueB 16 l3 now).1 w' := by
  obtain ⟨F1, F2, h1, h2, h3, h4, h5, ⟨p, q, e, a1, a2⟩, h7, h8⟩ := h.1
  obtain ⟨rfl, rfl⟩ := pair_val e
  exact (bdue_any s row l3 now _ w hl a1).mono fun e w' ⟨r, o, he, hr, ho, hb⟩ => ⟨r, o, he, h.turn ⟨two_row h1 h2 h3 h4 h5 h7 h8 ⟨_, _, rfl, RdK.imp hr fun b hb _ => by rcases hb.1 with hb | hb; exact .inl hb.1; exact .inr (by omega), RdK.imp ho fun b hb _ => .inr (by omega)⟩ hb, h.1.stay hb⟩⟩
theorem td_find {wL : World} {bs : List (Nat × Obj)} {v : Value} {x : Tv} {bz : Nat} {row u : Value} {l3 ds : List Bt} {w : World} (n : Int) (hl : l3.length ≤ 100000) (h : TA wL bs v x bz row u l3 ds w) :
    Calls Try.prog 16 #[row, .int .i64 n] w fun e w' => e = .returned (.int .i64 (findZB l3 n)) ∧ w = w' := by
  obtain ⟨K, hr⟩ := h.rd1
  exact bfind_any row l3 n K w hl hr
end Go.Proofs.Ytdlkpkigpnlanaa
