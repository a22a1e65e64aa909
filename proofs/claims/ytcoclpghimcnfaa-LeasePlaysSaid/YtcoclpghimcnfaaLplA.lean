/- The frame of LeasePlays; a lease beside the document's and the call that is done. Conditions: as stated. -/
import Derived.Test.YtcoclpghimcnfaaLeaW
import Derived.Test.YtcoclpghimcnfaaAct4
import Derived.Test.YtcoclpghimcnfaaFv
import Derived.Test.YtcoclpghimcnfaaHoldR
import Derived.StillTailTactics
namespace Go.Proofs.Ytcoclpghimcnfaa
open Go.ChangeShapes Go.WideShapes Go.ChangeAt Go.RowKit
set_option linter.unusedVariables false
set_option maxRecDepth 100000
set_option linter.unusedSimpArgs false
set_option maxHeartbeats 4000000

noncomputable def lpR (n : Nat) : Code := ((Try.f3.body.bind (codeAt n)).getD .skip)
noncomputable def lpLp : Code := ((Try.f3.body.bind loopAt).getD .skip)
abbrev ptrB (b : Nat) : Value := .pointer (some ⟨b, 0, none⟩)
structure LD (A : Act) (av : Value) (vs : Value) (g : Nat) : Prop where
  bs : A.tmps.size = 153
  bd : A.defers = []
  l1 : sl A.tmps 1 = av
  l5 : sl A.tmps 5 = vs
  l7 : sl A.tmps 7 = ptrB g
  l8 : sl A.tmps 8 = .int .i64 0
def NearD (n e f : Nat) (A A' : Act) : Prop := A'.tmps.size = 153 ∧ A'.defers = [] ∧ ∀ i, i < n → (i < e ∨ f ≤ i) → sl A'.tmps i = sl A.tmps i
theorem LD.keep {A A' : Act} {av vs : Value} {g n e f : Nat} (h : LD A av vs g) (hn : NearD n e f A A') (h7 : 9 ≤ n) (he : 9 ≤ e) : LD A' av vs g :=
  ⟨hn.1, hn.2.1, (hn.2.2 1 (by omega) (by omega)).trans h.l1, (hn.2.2 5 (by omega) (by omega)).trans h.l5, (hn.2.2 7 (by omega) (by omega)).trans h.l7, (hn.2.2 8 (by omega) (by omega)).trans h.l8⟩
theorem NearD.at_ {n e f : Nat} {A A' : Act} (hn : NearD n e f A A') {i : Nat} {v : Value} (h : sl A.tmps i = v) (hi : i < n) (he : i < e ∨ f ≤ i) : sl A'.tmps i = v := (hn.2.2 i hi he).trans h
/-- What the four answers hold. -/
structure FR (A : Act) (n m g h : Int) : Prop where
  n11 : sl A.tmps 11 = .int .i64 n
  n12 : sl A.tmps 12 = .int .i64 m
  n13 : sl A.tmps 13 = .int .i64 g
  n14 : sl A.tmps 14 = .int .i64 h
theorem FR.keep {A A' : Act} {a b c d : Int} {n e f : Nat} (h : FR A a b c d) (hn : NearD n e f A A') (h7 : 15 ≤ n) (he : 15 ≤ e) : FR A' a b c d :=
  ⟨hn.at_ h.n11 (by omega) (by omega), hn.at_ h.n12 (by omega) (by omega), hn.at_ h.n13 (by omega) (by omega), hn.at_ h.n14 (by omega) (by omega)⟩
/-- The document's store, the call that is done, as blocks. -/
def stX (x : Sv) : Obj := .cells #[.int .i64 x.s, .int .i64 x.l.h, .int .i64 x.l.e, .int .i64 x.l.u] 31 (0, 0)
def acB (a : ActE) : Obj := .cells #[.int .i64 a.kind, .int .i64 a.n, .int .i64 a.m, .int .i64 a.e] 35 (0, 0)
abbrev L1 (wL : World) (gx : Nat) (y : Sv) (v : Value) (x : Sv) (w : World) : Prop := OB leaO wL [(gx, stX y)] v x w
abbrev L2 (wL : World) (ga : Nat) (a : ActE) (gx : Nat) (y : Sv) (v : Value) (x : Sv) (w : World) : Prop := OB leaO wL [(ga, acB a), (gx, stX y)] v x w
section
variable {wL : World} {ga gx : Nat} {a : ActE} {y z x : Sv} {v : Value} {w w' : World}
theorem l2_act (h : L2 wL ga a gx y v x w) : w.cell? ⟨ga, 0, none⟩ = some (.int .i64 a.kind) ∧ w.cell? ⟨ga, 1, none⟩ = some (.int .i64 a.n) ∧ w.cell? ⟨ga, 2, none⟩ = some (.int .i64 a.m) ∧ w.cell? ⟨ga, 3, none⟩ = some (.int .i64 a.e) :=
  ⟨by rw [blk_cell h.get]; rfl, by rw [blk_cell h.get]; rfl, by rw [blk_cell h.get]; rfl, by rw [blk_cell h.get]; rfl⟩
theorem l2_sto (h : L2 wL ga a gx y v x w) : w.cell? ⟨gx, 0, none⟩ = some (.int .i64 y.s) ∧ w.cell? ⟨gx, 1, none⟩ = some (.int .i64 y.l.h) ∧ w.cell? ⟨gx, 2, none⟩ = some (.int .i64 y.l.e) ∧ w.cell? ⟨gx, 3, none⟩ = some (.int .i64 y.l.u) ∧
    w.frozen? ⟨gx, 0, none⟩ = false ∧ w.frozen? ⟨gx, 1, none⟩ = false ∧ w.frozen? ⟨gx, 2, none⟩ = false ∧ w.frozen? ⟨gx, 3, none⟩ = false :=
  ⟨by rw [blk_cell h.get2]; rfl, by rw [blk_cell h.get2]; rfl, by rw [blk_cell h.get2]; rfl, by rw [blk_cell h.get2]; rfl, blk_free h.get2 0, blk_free h.get2 1, blk_free h.get2 2, blk_free h.get2 3⟩
theorem l2_set (z : Sv) (h : L2 wL ga a gx y v x w) (hne : ga ≠ gx) : L2 wL ga a gx z v x ((((w.setCell ⟨gx, 0, none⟩ (.int .i64 z.s)).setCell ⟨gx, 1, none⟩ (.int .i64 z.l.h)).setCell ⟨gx, 2, none⟩ (.int .i64 z.l.e)).setCell ⟨gx, 3, none⟩ (.int .i64 z.l.u)) := by
  refine (h.swap.write (o' := stX z) (fun j p hj => ?_) (((((Only.refl gx w).setCell 0 _).setCell 1 _).setCell 2 _).setCell 3 _) (blk_set (blk_set (blk_set (blk_set h.get2 0 _) 1 _) 2 _) 3 _)).swap
  simp only [List.mem_singleton, Prod.mk.injEq] at hj
  exact hj.1 ▸ hne
theorem l1_new (a : ActE) (h : L1 wL gx y v x w) : L2 wL w.heap.size a gx y v x (w.alloc (acB a)) ∧ w.heap.size ≠ gx := ⟨h.new (acB a), fun e => by have := h.lt (k := gx) (o := stX y) (by simp); omega⟩
end
end Go.Proofs.Ytcoclpghimcnfaa
