/- The frame of LeaseKeeps. Conditions: as stated. -/
import Derived.Test.YtcoclpghimcnfaaLeaW
import Derived.Test.YtcoclpghimcnfaaAct4
import Derived.Test.YtcoclpghimcnfaaFv
import Derived.Test.YtcoclpghimcnfaaHolds
import Derived.StillTailTactics
namespace Go.Proofs.Ytcoclpghimcnfaa
open Go.ChangeShapes Go.WideShapes Go.ChangeAt Go.RowKit
set_option linter.unusedVariables false
set_option maxRecDepth 100000
set_option linter.unusedSimpArgs false
set_option maxHeartbeats 4000000

noncomputable def kpR (n : Nat) : Code := ((Try.f6.body.bind (codeAt n)).getD .skip)
noncomputable def kpLp : Code := ((Try.f6.body.bind loopAt).getD .skip)
abbrev ptrB (b : Nat) : Value := .pointer (some ⟨b, 0, none⟩)
structure LD (A : Act) (av vs : Value) : Prop where
  bs : A.tmps.size = 186
  bd : A.defers = []
  l1 : sl A.tmps 1 = av
  l5 : sl A.tmps 5 = vs
def NearD (n e f : Nat) (A A' : Act) : Prop := A'.tmps.size = 186 ∧ A'.defers = [] ∧ ∀ i, i < n → (i < e ∨ f ≤ i) → sl A'.tmps i = sl A.tmps i
theorem LD.keep {A A' : Act} {av vs : Value} {n e f : Nat} (h : LD A av vs) (hn : NearD n e f A A') (h7 : 6 ≤ n) (he : 6 ≤ e) : LD A' av vs :=
  ⟨hn.1, hn.2.1, (hn.2.2 1 (by omega) (by omega)).trans h.l1, (hn.2.2 5 (by omega) (by omega)).trans h.l5⟩
theorem NearD.at_ {n e f : Nat} {A A' : Act} (hn : NearD n e f A A') {i : Nat} {v : Value} (h : sl A.tmps i = v) (hi : i < n) (he : i < e ∨ f ≤ i) : sl A'.tmps i = v := (hn.2.2 i hi he).trans h
theorem then_q {K : Act → World → Prop} {Q : Exit → Act → World → Prop} {a : Act} {w : World} (h : K a w) : Exit.then K Q .normal a w := h
theorem inBlock_q {Q : Exit → Act → World → Prop} {a : Act} {w : World} {id : Nat} (h : Q .normal a w) : Exit.inBlock id Q .normal a w := h
theorem inBlock_x {Q : Exit → Act → World → Prop} {a : Act} {w : World} {id : Nat} (h : Q .normal a w) : Exit.inBlock id Q (.exit id) a w := by
  unfold Exit.inBlock; simpa using h
theorem fv_ret2 {P : Program} {fn : Func} {R : Ending → World → Prop} {A : Act} {w : World} {i : Nat} {v : Value} (hr : fn.results = #[.tmp i]) (hv : sl A.tmps i = v) (hd : A.defers = []) (hR : R (.returned v) w) : bodyPost P fn R .ret A w :=
  fv_ret hr hv hd hR
/-- The call that is done, a lease, as blocks. -/
def acB (a : ActE) : Obj := .cells #[.int .i64 a.kind, .int .i64 a.n, .int .i64 a.m, .int .i64 a.e] 35 (0, 0)
def lsB (l : Ls) : Obj := .cells #[.int .i64 l.h, .int .i64 l.e, .int .i64 l.u] 29 (0, 0)
theorem ac_cells {w : World} {g : Nat} {a : ActE} (h : w.heap[g]? = some (acB a)) : w.cell? ⟨g, 0, none⟩ = some (.int .i64 a.kind) ∧ w.cell? ⟨g, 1, none⟩ = some (.int .i64 a.n) ∧ w.cell? ⟨g, 2, none⟩ = some (.int .i64 a.m) ∧ w.cell? ⟨g, 3, none⟩ = some (.int .i64 a.e) :=
  ⟨by rw [blk_cell h]; rfl, by rw [blk_cell h]; rfl, by rw [blk_cell h]; rfl, by rw [blk_cell h]; rfl⟩
theorem ls_cells {w : World} {g : Nat} {l : Ls} (h : w.heap[g]? = some (lsB l)) : w.cell? ⟨g, 0, none⟩ = some (.int .i64 l.h) ∧ w.cell? ⟨g, 1, none⟩ = some (.int .i64 l.e) ∧ w.cell? ⟨g, 2, none⟩ = some (.int .i64 l.u) :=
  ⟨by rw [blk_cell h]; rfl, by rw [blk_cell h]; rfl, by rw [blk_cell h]; rfl⟩
/-- What is known of a lease, a call and the lease behind it. -/
structure KF (a : ActE) (l l' : Ls) (f : Int) : Prop where
  p1 : f ≠ 0 → l' = l
  p2 : f = 0 → a.kind = 1 → ¬ (0 ≤ l.h ∧ a.n < l.u)
  p3 : f = 0 → a.kind = 2 → l.u ≤ l'.u ∧ l'.h = l.h ∧ l'.e = l.e
  p4 : f = 0 → a.kind = 3 → l'.h = -1 ∧ l'.e = l.e
theorem kf_acq {a : ActE} {s : Int} {l : Ls} (hk : a.kind = 1) : KF a l (acqL s l a.n a.m).1 (acqL s l a.n a.m).2.2 := by
  refine ⟨fun h => ?_, fun h _ => ?_, fun _ h => by omega, fun _ h => by omega⟩
  · unfold acqL at h ⊢; (repeat' split) <;> simp_all
  · unfold acqL heldL at h
    intro hh
    rw [decide_eq_true hh.1, decide_eq_true hh.2] at h
    revert h
    (repeat' split) <;> simp_all
theorem kf_ren {a : ActE} {s : Int} {l : Ls} (hk : a.kind = 2) : KF a l (renL s l a.n a.m a.e).1 (renL s l a.n a.m a.e).2 := by
  refine ⟨fun h => ?_, fun _ h => by omega, fun h _ => ?_, fun _ h => by omega⟩
  · unfold renL at h ⊢; (repeat' split) <;> simp_all
  · unfold renL at h ⊢
    revert h
    (repeat' split) <;> simp <;> omega
theorem kf_rel {a : ActE} {s : Int} {l : Ls} (hk : a.kind = 3) : KF a l (relL s l a.n a.m a.e).1 (relL s l a.n a.m a.e).2 := by
  refine ⟨fun h => ?_, fun _ h => by omega, fun _ h => by omega, fun h _ => ?_⟩
  · unfold relL at h ⊢; split <;> simp_all
  · unfold relL at h ⊢
    revert h
    split <;> simp_all
theorem kf_none {a : ActE} {l : Ls} : KF a l l 7 := ⟨fun _ => rfl, fun h => by omega, fun h => by omega, fun h => by omega⟩
/-- What a lease that is granted is. -/
theorem acq_ok {s : Int} {l : Ls} {now who : Int} (hs : 1 ≤ s) (h : (acqL s l now who).2.2 = 0) : ∃ u, (acqL s l now who).1 = ⟨who, (acqL s l now who).2.1, u⟩ ∧ ¬ (u ≤ now ∧ now < 1099511627776) := by
  have hr : rightL now who = true → 0 ≤ now := by
    intro h; unfold rightL at h; simp at h; omega
  unfold acqL at h ⊢
  revert h
  (repeat' split) <;> simp
  have := hr (by cases hq : rightL now who <;> simp_all)
  unfold laterV spanV
  (repeat' split) <;> omega
end Go.Proofs.Ytcoclpghimcnfaa
