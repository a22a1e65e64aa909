/- The frame of Due. Conditions: as stated. -/
import Derived.Test.YtdlkpkigpnlanaaBeaS
import Derived.Test.YtdlkpkigpnlanaaHolds
import Derived.Test.YtdlkpkigpnlanaaHoldV
import Derived.Test.YtdlkpkigpnlanaaFv
import Derived.Maps.AppendAt
import Derived.StillTailTactics
namespace Go.Proofs.Ytdlkpkigpnlanaa
open Go.ChangeShapes Go.WideShapes Go.ChangeAt Go.RowKit
set_option linter.unusedVariables false
set_option maxRecDepth 100000
set_option linter.unusedSimpArgs false
set_option maxHeartbeats 4000000

noncomputable def duR (n : Nat) : Code := ((Try.f12.body.bind (codeAt n)).getD .skip)
noncomputable def duLp : Code := ((Try.f12.body.bind loopAt).getD .skip)
abbrev ptrU (b : Nat) : Value := .pointer (some ⟨b, 0, none⟩)
structure LDu (A : Act) (now : Int) (bx : Nat) : Prop where
  bs : A.tmps.size = 73
  bd : A.defers = []
  l1 : sl A.tmps 1 = .int .i64 now
  l2 : sl A.tmps 2 = ptrU bx
  l4 : sl A.tmps 4 = ptrU (bx + 1)
def NearU (n e f : Nat) (A A' : Act) : Prop := A'.tmps.size = 73 ∧ A'.defers = [] ∧ ∀ i, i < n → (i < e ∨ f ≤ i) → sl A'.tmps i = sl A.tmps i
theorem LDu.keep {A A' : Act} {now : Int} {bx : Nat} {n e f : Nat} (h : LDu A now bx) (hn : NearU n e f A A') (h7 : 5 ≤ n) (he : 5 ≤ e) : LDu A' now bx :=
  ⟨hn.1, hn.2.1, (hn.2.2 1 (by omega) (by omega)).trans h.l1, (hn.2.2 2 (by omega) (by omega)).trans h.l2, (hn.2.2 4 (by omega) (by omega)).trans h.l4⟩
theorem NearU.at_ {n e f : Nat} {A A' : Act} (hn : NearU n e f A A') {i : Nat} {v : Value} (h : sl A.tmps i = v) (hi : i < n) (he : i < e ∨ f ≤ i) : sl A'.tmps i = v := (hn.2.2 i hi he).trans h
theorem then_qu {K : Act → World → Prop} {Q : Exit → Act → World → Prop} {a : Act} {w : World} (h : K a w) : Exit.then K Q .normal a w := h
theorem inBlock_qu {Q : Exit → Act → World → Prop} {a : Act} {w : World} {id : Nat} (h : Q .normal a w) : Exit.inBlock id Q .normal a w := h
theorem inBlock_xu {Q : Exit → Act → World → Prop} {a : Act} {w : World} {id : Nat} (h : Q .normal a w) : Exit.inBlock id Q (.exit id) a w := by
  unfold Exit.inBlock; simpa using h
theorem fv_ret2u {P : Program} {fn : Func} {R : Ending → World → Prop} {A : Act} {w : World} {i : Nat} {v : Value} (hr : fn.results = #[.tmp i]) (hv : sl A.tmps i = v) (hd : A.defers = []) (hR : R (.returned v) w) : bodyPost P fn R .ret A w :=
  fv_ret hr hv hd hR
noncomputable def duLn : Code := ((loopAt duLp).getD .skip)
def bestZ (o : Option Nat) : Int := match o with
  | some j => (j : Int)
  | none => -1
/-- The blocks in which the row that is left may lie: not those of the row that is told. -/
def KD (wL : World) (K : Nat → Prop) (v6 : Value) (b : Nat) : Prop := ((K b ∧ b < wL.heap.size) ∨ wL.heap.size + 2 ≤ b) ∧ ¬ v6.ownBlock = some b
/-- What the call has: the table's block with the row u that reads as l; what it tells; the row v6 of its own that reads as od. -/
structure DS (wL : World) (K : Nat → Prop) (s : Int) (v6 : Value) (od : List Bt) (u : Value) (l : List Bt) (w : World) : Prop where
  tr : TR wL (tb2 s u) (tb2 0 (.slice none 0 0)) w
  row : RdB w (KD wL K v6) u l
  own : w.ownsRow (wL.heap.size + 2) 51 3 v6 od.length (rowsB od).flatten
  siz : wL.heap.size + 2 ≤ w.heap.size
section
variable {wL : World} {K : Nat → Prop} {s : Int} {v6 u : Value} {od l : List Bt} {w w' : World}
theorem DS.draws (h : DS wL K s v6 od u l w) (n : Nat) : DS wL K s v6 od u l (w.drewN n) :=
  ⟨h.tr.below (w' := w.drewN n) ⟨rfl, rfl, rfl, Nat.le_refl _, fun _ _ => rfl⟩, h.row.below (w' := w.drewN n) ⟨rfl, rfl, rfl, Nat.le_refl _, fun _ _ => rfl⟩, h.own, h.siz⟩
theorem ds_grown {v6' : Value} {x : Bt} {cs : Array Value} {t : TypeId} (h : DS wL K s v6 od u l w) (ho : w'.ownsRow (wL.heap.size + 2) 51 3 v6' (od.length + 1) ((rowsB od).flatten ++ [.int .i64 x.n, .int .i64 x.i, .int .i64 x.u]))
    (hg : (w.alloc (.cells cs t)).grownBy w' v6.ownBlock) (hl : v6'.ownBlock = v6.ownBlock ∨ v6'.ownBlock = some (w.heap.size + 1)) : DS wL K s v6' (od ++ [x]) u l w' := by
  have hsz : (w.alloc (.cells cs t)).heap.size = w.heap.size + 1 := by simp
  have hB : Below (wL.heap.size + 2) w w' := grown_below ((Below.refl _ w).alloc h.siz _) hg (fun g hg' => owns_row h.own hg') (by rw [hsz]; have := h.siz; omega)
  have hsw := hB.size
  refine ⟨⟨(hB.block _ (by omega)).trans h.tr.box, (hB.block _ (by omega)).trans h.tr.res, h.tr.bel.trans (hB.mono (by omega))⟩, ?_, ?_, Nat.le_trans h.siz hsw⟩
  · have r1 : RdB w (fun b => KD wL K v6 b ∧ b < w.heap.size) u l := h.row.imp fun b hb hlt => ⟨hb, hlt⟩
    refine (RdK.keep r1 (fun b hb hlt => ?_) hsw).imp fun b hb _ => ⟨hb.1.1, fun e => ?_⟩
    · exact (hg.block b (by rw [hsz]; omega) (fun e => hb.1.2 e.symm)).trans (((Below.refl w.heap.size w).alloc (Nat.le_refl _) _).block b hlt)
    · rcases hl with hl | hl
      · exact hb.1.2 (hl ▸ e)
      · rw [hl] at e
        have := Option.some.inj e
        have := hb.2
        omega
  · have e : (rowsB (od ++ [x])).flatten = (rowsB od).flatten ++ [.int .i64 x.n, .int .i64 x.i, .int .i64 x.u] := by rw [rowsB_append]; rfl
    rw [e, List.length_append]
    exact ho
theorem DS.below (h : DS wL K s v6 od u l w) (hb : Below w.heap.size w w') : DS wL K s v6 od u l w' :=
  ⟨h.tr.below hb, h.row.below hb, owns_below h.own hb, Nat.le_trans h.siz hb.size⟩
/-- Another row in the table's block. -/
theorem DS.put {v : Value} {l2 : List Bt} (h : DS wL K s v6 od u l w) (hr : RdB w (KD wL K v6) v l2) : DS wL K s v6 od v l2 (w.setCell ⟨wL.heap.size, 1, none⟩ v) :=
  ⟨TR.beats v h.tr, rdB_only hr ((Only.refl wL.heap.size w).setCell 1 v) (fun k hk => by rcases hk.1 with e | e <;> omega), owns_only h.own ((Only.refl wL.heap.size w).setCell 1 v) (by omega), by have := h.siz; simpa using this⟩
/-- What is told at the end. -/
structure DE (wL : World) (K : Nat → Prop) (s : Int) (v6 : Value) (od : List Bt) (u : Value) (l : List Bt) (w : World) : Prop where
  res : w.heap[wL.heap.size + 1]? = some (.cells #[.int .i64 s, u] 30 (0, 0))
  row : RdB w (KD wL K v6) u l
  own : w.ownsRow (wL.heap.size + 2) 51 3 v6 od.length (rowsB od).flatten
  bel : Below wL.heap.size wL w
theorem ds_end (h : DS wL K s v6 od u l w) : DE wL K s v6 od u l ((w.setCell ⟨wL.heap.size + 1, 0, none⟩ (.int .i64 s)).setCell ⟨wL.heap.size + 1, 1, none⟩ u) :=
  ⟨(h.tr.tell s u).1, rdB_only h.row (h.tr.tell s u).2.2.1 (fun k hk => by rcases hk.1 with e | e <;> omega), owns_only h.own (h.tr.tell s u).2.2.1 (by omega), (h.tr.tell s u).2.2.2⟩
def IsSl (v : Value) (n : Nat) : Prop := ∃ A c, v = .slice A n c
def C14 (wL : World) (K : Nat → Prop) (s : Int) (v6 : Value) (od : List Bt) (u : Value) (l : List Bt) : Nat → World → Prop
  | 0, w => DS wL K s v6 od u l w
  | 1, w => DS wL K s v6 od u l w
  | _ + 2, _ => True
def D14 (wL : World) (K : Nat → Prop) (s : Int) (v6 : Value) (od : List Bt) (l2 : List Bt) (v : Value) : Nat → World → Prop
  | 0, _ => True
  | 1, w => IsSl v l2.length ∧ RdB w (KD wL K v6) v l2
  | _ + 2, w => IsSl v l2.length ∧ DS wL K s v6 od v l2 w
theorem c14_ds : ∀ {p : Nat}, p ≤ 1 → C14 wL K s v6 od u l p w → DS wL K s v6 od u l w
  | 0, _, h => h
  | 1, _, h => h
  | _ + 2, hp, _ => by omega
theorem u14_ds {D : Nat → World → Prop} : ∀ {p : Nat}, p ≤ 1 → updV (C14 wL K s v6 od u l) 0 D p w → DS wL K s v6 od u l w := fun hp h => c14_ds hp h.1
theorem ds_without {n : Int} {A0 : Option Addr} {c : Nat} (hl : l.length ≤ 100000) (h : DS wL K s v6 od (.slice A0 l.length c) l w) :
    Calls Try.prog 21 #[.slice A0 l.length c, .int .i64 n] w fun e w2 => ∃ v, e = .returned v ∧ DS wL K s v6 od (.slice A0 l.length c) l w2 ∧ IsSl v (wobB l n).length ∧ RdB w2 (KD wL K v6) v (wobB l n) := by
  refine (bwob_any _ l n _ w hl h.row).mono fun e w2 hh => ?_
  obtain ⟨v, he, hr, hb⟩ := hh
  obtain ⟨A1, c1, e1, _, _⟩ := rdB_form hr
  refine ⟨v, he, h.below hb, ⟨A1, c1, e1⟩, hr.imp fun b hbk _ => ⟨.inr (by have := h.siz; omega), fun e => ?_⟩⟩
  have := (h.own.lt b e).2
  omega
end
end Go.Proofs.Ytdlkpkigpnlanaa
