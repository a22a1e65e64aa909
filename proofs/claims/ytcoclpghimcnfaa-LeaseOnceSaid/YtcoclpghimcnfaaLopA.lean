/- The frame of LeaseOnce. Conditions: as stated. -/
import Derived.Test.YtcoclpghimcnfaaLeaW
import Derived.Test.YtcoclpghimcnfaaAct4
import Derived.Test.YtcoclpghimcnfaaFv
import Derived.Test.YtcoclpghimcnfaaHolds
import Derived.StillTailTactics
namespace Go.Proofs.Ytcoclpghimcnfaa
open Go.ChangeShapes Go.WideShapes Go.ChangeAt Go.RowKit
set_option linter.unusedVariables false
set_option maxRecDepth 100000
set_option linter.unusedSimpArgs false
set_option maxHeartbeats 4000000

noncomputable def opR (n : Nat) : Code := ((Try.f4.body.bind (codeAt n)).getD .skip)
noncomputable def opLp : Code := ((Try.f4.body.bind loopAt).getD .skip)
abbrev ptrB (b : Nat) : Value := .pointer (some ⟨b, 0, none⟩)
structure LD (A : Act) (av vs : Value) : Prop where
  bs : A.tmps.size = 185
  bd : A.defers = []
  l1 : sl A.tmps 1 = av
  l5 : sl A.tmps 5 = vs
def NearD (n e f : Nat) (A A' : Act) : Prop := A'.tmps.size = 185 ∧ A'.defers = [] ∧ ∀ i, i < n → (i < e ∨ f ≤ i) → sl A'.tmps i = sl A.tmps i
theorem LD.keep {A A' : Act} {av vs : Value} {n e f : Nat} (h : LD A av vs) (hn : NearD n e f A A') (h7 : 6 ≤ n) (he : 6 ≤ e) : LD A' av vs :=
  ⟨hn.1, hn.2.1, (hn.2.2 1 (by omega) (by omega)).trans h.l1, (hn.2.2 5 (by omega) (by omega)).trans h.l5⟩
theorem NearD.at_ {n e f : Nat} {A A' : Act} (hn : NearD n e f A A') {i : Nat} {v : Value} (h : sl A.tmps i = v) (hi : i < n) (he : i < e ∨ f ≤ i) : sl A'.tmps i = v := (hn.2.2 i hi he).trans h
theorem then_q {K : Act → World → Prop} {Q : Exit → Act → World → Prop} {a : Act} {w : World} (h : K a w) : Exit.then K Q .normal a w := h
theorem inBlock_q {Q : Exit → Act → World → Prop} {a : Act} {w : World} {id : Nat} (h : Q .normal a w) : Exit.inBlock id Q .normal a w := h
theorem inBlock_x {Q : Exit → Act → World → Prop} {a : Act} {w : World} {id : Nat} (h : Q .normal a w) : Exit.inBlock id Q (.exit id) a w := by
  unfold Exit.inBlock; simpa using h
theorem fv_ret2 {P : Program} {fn : Func} {R : Ending → World → Prop} {A : Act} {w : World} {i : Nat} {v : Value} (hr : fn.results = #[.tmp i]) (hv : sl A.tmps i = v) (hd : A.defers = []) (hR : R (.returned v) w) : bodyPost P fn R .ret A w :=
  fv_ret hr hv hd hR
noncomputable def opLk : Code := ((loopAt opLp).getD .skip)
noncomputable def opLn : Code := ((loopAt opLk).getD .skip)
def lsB (l : Ls) : Obj := .cells #[.int .i64 l.h, .int .i64 l.e, .int .i64 l.u] 29 (0, 0)
theorem ls_cells {w : World} {g : Nat} {l : Ls} (h : w.heap[g]? = some (lsB l)) : w.cell? ⟨g, 0, none⟩ = some (.int .i64 l.h) ∧ w.cell? ⟨g, 1, none⟩ = some (.int .i64 l.e) ∧ w.cell? ⟨g, 2, none⟩ = some (.int .i64 l.u) :=
  ⟨by rw [blk_cell h]; rfl, by rw [blk_cell h]; rfl, by rw [blk_cell h]; rfl⟩
/-- What a grant tells. -/
theorem acq_not {s : Int} {l : Ls} {now who : Int} (h : (acqL s l now who).2.2 ≠ 0) : (acqL s l now who).1 = l := by
  unfold acqL at h ⊢; (repeat' split) <;> simp_all
theorem acq_yes {s : Int} {l : Ls} {now who : Int} (h : (acqL s l now who).2.2 = 0) : (acqL s l now who).2.1 = l.e + 1 ∧ (acqL s l now who).1.h = who ∧ (acqL s l now who).1.e = l.e + 1 ∧ ¬ (0 ≤ l.h ∧ now < l.u) := by
  unfold acqL heldL at h ⊢
  revert h
  (repeat' split) <;> simp_all
theorem ren_same {s : Int} {l : Ls} {now who ep : Int} : (renL s l now who ep).1.h = l.h ∧ (renL s l now who ep).1.e = l.e := by
  unfold renL; (repeat' split) <;> exact ⟨rfl, rfl⟩
theorem ren_yes {s : Int} {l : Ls} {now who ep : Int} (h : (renL s l now who ep).2 = 0) : l.h = who ∧ l.e = ep := by
  unfold renL holdsL leadsL at h
  revert h
  (repeat' split) <;> simp_all
theorem rel_not {s : Int} {l : Ls} {now who ep : Int} (h : (relL s l now who ep).2 ≠ 0) : (relL s l now who ep).1 = l := by
  unfold relL at h ⊢; split <;> simp_all
theorem rel_yes {s : Int} {l : Ls} {now who ep : Int} (h : (relL s l now who ep).2 = 0) : l.h = who ∧ l.e = ep ∧ (relL s l now who ep).1.h = -1 ∧ (relL s l now who ep).1.e = l.e := by
  unfold relL at h ⊢
  by_cases q : (renL s l now who ep).2 = 0
  · rw [if_pos q]; exact ⟨(ren_yes q).1, (ren_yes q).2, rfl, rfl⟩
  · rw [if_neg q] at h; exact absurd h q
/-- One less, or as many. -/
def oneLess (ep v : Int) : Int := wrap64 (ep - bits .and .i64 v 1)
theorem oneLess_ne {ep v : Int} (h0 : 0 ≤ ep) (h1 : ep ≤ 4294967295) (h : ep = oneLess ep v) : (bits .and .i64 v 1 == 1) = false := by
  cases hq : (bits .and .i64 v 1 == 1)
  · rfl
  · unfold oneLess at h
    rw [eq_of_beq hq] at h
    unfold wrap64 at h
    omega
end Go.Proofs.Ytcoclpghimcnfaa
