/- The frame of FencePlays. Conditions: as stated. -/
import Derived.Test.YtjpcghnhekafiaaFenW
import Derived.Test.YtjpcghnhekafiaaTob
import Derived.Test.YtjpcghnhekafiaaNums
import Derived.Test.YtjpcghnhekafiaaFv
import Derived.Test.YtjpcghnhekafiaaHoldG
import Derived.StillTailTactics
namespace Go.Proofs.Ytjpcghnhekafiaa
open Go.ChangeShapes Go.WideShapes Go.ChangeAt Go.RowKit
set_option linter.unusedVariables false
set_option maxRecDepth 100000
set_option linter.unusedSimpArgs false
set_option maxHeartbeats 4000000

noncomputable def fpR (n : Nat) : Code := ((Try.f3.body.bind (codeAt n)).getD .skip)
noncomputable def fpLp : Code := ((Try.f3.body.bind loopAt).getD .skip)
abbrev ptrB (b : Nat) : Value := .pointer (some ⟨b, 0, none⟩)
structure LD (A : Act) (av v : Value) (bz gx : Nat) : Prop where
  bs : A.tmps.size = 114
  bd : A.defers = []
  l0 : sl A.tmps 0 = av
  l3 : sl A.tmps 3 = v
  l4 : sl A.tmps 4 = ptrB bz
  l5 : sl A.tmps 5 = .pointer none
  l6 : sl A.tmps 6 = ptrB gx
def NearD (n e f : Nat) (A A' : Act) : Prop := A'.tmps.size = 114 ∧ A'.defers = [] ∧ ∀ i, i < n → (i < e ∨ f ≤ i) → sl A'.tmps i = sl A.tmps i
theorem LD.keep {A A' : Act} {av v : Value} {bz gx : Nat} {n e f : Nat} (h : LD A av v bz gx) (hn : NearD n e f A A') (h7 : 7 ≤ n) (he : 7 ≤ e) : LD A' av v bz gx :=
  ⟨hn.1, hn.2.1, (hn.2.2 0 (by omega) (by omega)).trans h.l0, (hn.2.2 3 (by omega) (by omega)).trans h.l3, (hn.2.2 4 (by omega) (by omega)).trans h.l4, (hn.2.2 5 (by omega) (by omega)).trans h.l5, (hn.2.2 6 (by omega) (by omega)).trans h.l6⟩
theorem NearD.at_ {n e f : Nat} {A A' : Act} (hn : NearD n e f A A') {i : Nat} {v : Value} (h : sl A.tmps i = v) (hi : i < n) (he : i < e ∨ f ≤ i) : sl A'.tmps i = v := (hn.2.2 i hi he).trans h
theorem then_q {K : Act → World → Prop} {Q : Exit → Act → World → Prop} {a : Act} {w : World} (h : K a w) : Exit.then K Q .normal a w := h
theorem inBlock_q {Q : Exit → Act → World → Prop} {a : Act} {w : World} {id : Nat} (h : Q .normal a w) : Exit.inBlock id Q .normal a w := h
theorem inBlock_x {Q : Exit → Act → World → Prop} {a : Act} {w : World} {id : Nat} (h : Q .normal a w) : Exit.inBlock id Q (.exit id) a w := by
  unfold Exit.inBlock; simpa using h
theorem fv_ret2 {P : Program} {fn : Func} {R : Ending → World → Prop} {A : Act} {w : World} {i : Nat} {v : Value} (hr : fn.results = #[.tmp i]) (hv : sl A.tmps i = v) (hd : A.defers = []) (hR : R (.returned v) w) : bodyPost P fn R .ret A w :=
  fv_ret hr hv hd hR
def rdrU : Rdr Unit := ⟨fun _ _ _ _ => True, fun _ _ _ => trivial, fun _ _ => trivial⟩
def feX (x : Fe) : Obj := .cells #[.int .i64 x.e, .int .i64 x.y, .int .i64 x.n] 36 (0, 0)
abbrev TF (wL : World) (bs : List (Nat × Obj)) (v : Value) (x : Fe) (bz : Nat) (z : Fe) (w : World) : Prop := TB fenO rdrU wL bs v x (ptrB bz) z (.tuple #[]) () w
section
variable {wL : World} {bs : List (Nat × Obj)} {v : Value} {x y z : Fe} {bz gx gn : Nat} {w w' : World} {k : Int}
theorem TF.ok1 (h : TF wL bs v x bz z w) : okF x := by obtain ⟨F, h1⟩ := TB.own1 h; exact fen_ok h1
theorem tf_x (h : TF wL ((gx, feX y) :: bs) v x bz z w) : w.cell? ⟨gx, 0, none⟩ = some (.int .i64 y.e) ∧ w.cell? ⟨gx, 1, none⟩ = some (.int .i64 y.y) ∧ w.cell? ⟨gx, 2, none⟩ = some (.int .i64 y.n) ∧ w.frozen? ⟨gx, 0, none⟩ = false ∧ w.frozen? ⟨gx, 1, none⟩ = false ∧ w.frozen? ⟨gx, 2, none⟩ = false :=
  ⟨by rw [blk_cell h.get]; rfl, by rw [blk_cell h.get]; rfl, by rw [blk_cell h.get]; rfl, blk_free h.get 0, blk_free h.get 1, blk_free h.get 2⟩
theorem tf_copy {y2 : Fe} (h : TF wL [(gn, feX y), (gx, feX y2)] v x bz z w) : TF wL [(gx, feX y)] v x bz z (((w.setCell ⟨gx, 0, none⟩ (.int .i64 y.e)).setCell ⟨gx, 1, none⟩ (.int .i64 y.y)).setCell ⟨gx, 2, none⟩ (.int .i64 y.n)) :=
  TB.write (o' := feX y) (TB.tail h) (fun j p hj => by simp at hj) ((((Only.refl gx w).setCell 0 _).setCell 1 _).setCell 2 _) (blk_set (blk_set (blk_set (TB.get2 h) 0 _) 1 _) 2 _)
theorem tf_pass1 (hk : inI k) (hy : x.y ≤ 1000000) (hn : x.n ≤ 1000000) (h : TF wL bs v x bz z w) : Calls Try.prog 8 #[v, .int .i64 k] w fun e w' => e = .returned (.bool (mayF x k)) ∧ TF wL bs v (passF x k) bz z w' := by
  obtain ⟨F1, F2, h1, h2, h3, h4, h5, h6, h7, h8⟩ := h.1
  exact (fpass_any F1 v x k w h1 hk hy hn).mono fun e w' ⟨he, hp⟩ => ⟨he, TB.turn h (two_turn1 h2 h3 h4 h5 h6 h7 h8 hp)⟩
theorem tf_pass2 (hk : inI k) (hy : z.y ≤ 1000000) (hn : z.n ≤ 1000000) (h : TF wL bs v x bz z w) : Calls Try.prog 8 #[ptrB bz, .int .i64 k] w fun e w' => e = .returned (.bool (mayF z k)) ∧ TF wL bs v x bz (passF z k) w' := by
  obtain ⟨F1, F2, h1, h2, h3, h4, h5, h6, h7, h8⟩ := h.1
  exact (fpass_any F2 _ z k w h2 hk hy hn).mono fun e w' ⟨he, hp⟩ => ⟨he, TB.turn h (two_turn2 h1 h3 h4 h5 h6 h7 h8 hp)⟩
theorem tf_epoch1 (h : TF wL bs v x bz z w) : Calls Try.prog 10 #[v] w fun e w' => e = .returned (.int .i64 x.e) ∧ TF wL bs v x bz z w' := by
  obtain ⟨F, h1⟩ := TB.own1 h
  exact (fepoch_any F v x w h1).mono fun e w' ⟨he, hb⟩ => ⟨he, TB.below h hb⟩
theorem tf_epoch2 (h : TF wL bs v x bz z w) : Calls Try.prog 10 #[ptrB bz] w fun e w' => e = .returned (.int .i64 z.e) ∧ TF wL bs v x bz z w' := by
  obtain ⟨F, h1⟩ := TB.own2 h
  exact (fepoch_any F _ z w h1).mono fun e w' ⟨he, hb⟩ => ⟨he, TB.below h hb⟩
theorem tf_passed (h : TF wL bs v x bz z w) : Calls Try.prog 9 #[v] w fun e w' => e = .returned (.tuple #[.int .i64 x.y, .int .i64 x.n]) ∧ TF wL bs v x bz z w' := by
  obtain ⟨F, h1⟩ := TB.own1 h
  exact (fpassed_any F v x w h1).mono fun e w' ⟨he, hb⟩ => ⟨he, TB.below h hb⟩
/-- A new block for what is told; it is written. -/
def D9 (wL : World) (gx : Nat) (v : Value) (x : Fe) (bz : Nat) (z y : Fe) (u : Value) (p : Nat) (w : World) : Prop :=
  ∃ gn, u = ptrB gn ∧ gx ≠ gn ∧ (p = 1 → TF wL [(gn, feX fen0), (gx, feX x)] v x bz z w) ∧ (p = 2 → TF wL [(gn, feX y), (gx, feX x)] v x bz z w)
theorem d9_kept (u : Value) (p : Nat) : Kept (D9 wL gx v x bz z y u p) := fun w w' ⟨gn, h1, hne, h2, h3⟩ hb => ⟨gn, h1, hne, fun hp => TB.below (h2 hp) hb, fun hp => TB.below (h3 hp) hb⟩
theorem tf_row (h : TF wL [(gn, feX fen0), (gx, feX x)] v x bz z w) (hne : gx ≠ gn) : TF wL [(gn, feX y), (gx, feX x)] v x bz z (w.setRow gn #[.int .i64 y.e, .int .i64 y.y, .int .i64 y.n]) :=
  TB.write (o' := feX y) h (fun j p hj => by simp only [List.mem_singleton, Prod.mk.injEq] at hj; exact hj.1 ▸ hne) (row_only _ _ _) (rowSet_heap w _ _ _ _ (TB.get h))
end
end Go.Proofs.Ytjpcghnhekafiaa
