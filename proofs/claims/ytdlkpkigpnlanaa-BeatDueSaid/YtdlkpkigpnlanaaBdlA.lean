/- The frame of BeatDue. Conditions: as stated. -/
import Derived.Test.YtdlkpkigpnlanaaBeaW
import Derived.Test.YtdlkpkigpnlanaaBeaPlain
import Derived.Test.YtdlkpkigpnlanaaAct4
import Derived.Test.YtdlkpkigpnlanaaFv
import Derived.Test.YtdlkpkigpnlanaaHolds
import Derived.StillTailTactics
namespace Go.Proofs.Ytdlkpkigpnlanaa
open Go.ChangeShapes Go.WideShapes Go.ChangeAt Go.RowKit
set_option linter.unusedVariables false
set_option maxRecDepth 100000
set_option linter.unusedSimpArgs false
set_option maxHeartbeats 4000000

noncomputable def dlR (n : Nat) : Code := ((Try.f4.body.bind (codeAt n)).getD .skip)
noncomputable def dlLp : Code := ((Try.f4.body.bind loopAt).getD .skip)
abbrev ptrB (b : Nat) : Value := .pointer (some ⟨b, 0, none⟩)
structure LD (A : Act) (av v : Value) (s : Int) (g8 g9 : Nat) : Prop where
  bs : A.tmps.size = 167
  bd : A.defers = []
  l1 : sl A.tmps 1 = av
  l5 : sl A.tmps 5 = .int .i64 s
  l6 : sl A.tmps 6 = v
  l8 : sl A.tmps 8 = ptrB g8
  l9 : sl A.tmps 9 = ptrB g9
def NearD (n e f : Nat) (A A' : Act) : Prop := A'.tmps.size = 167 ∧ A'.defers = [] ∧ ∀ i, i < n → (i < e ∨ f ≤ i) → sl A'.tmps i = sl A.tmps i
theorem LD.keep {A A' : Act} {av v : Value} {s : Int} {g8 g9 : Nat} {n e f : Nat} (h : LD A av v s g8 g9) (hn : NearD n e f A A') (h7 : 10 ≤ n) (he : 10 ≤ e) : LD A' av v s g8 g9 :=
  ⟨hn.1, hn.2.1, (hn.2.2 1 (by omega) (by omega)).trans h.l1, (hn.2.2 5 (by omega) (by omega)).trans h.l5, (hn.2.2 6 (by omega) (by omega)).trans h.l6, (hn.2.2 8 (by omega) (by omega)).trans h.l8, (hn.2.2 9 (by omega) (by omega)).trans h.l9⟩
theorem NearD.at_ {n e f : Nat} {A A' : Act} (hn : NearD n e f A A') {i : Nat} {v : Value} (h : sl A.tmps i = v) (hi : i < n) (he : i < e ∨ f ≤ i) : sl A'.tmps i = v := (hn.2.2 i hi he).trans h
theorem then_q {K : Act → World → Prop} {Q : Exit → Act → World → Prop} {a : Act} {w : World} (h : K a w) : Exit.then K Q .normal a w := h
theorem inBlock_q {Q : Exit → Act → World → Prop} {a : Act} {w : World} {id : Nat} (h : Q .normal a w) : Exit.inBlock id Q .normal a w := h
theorem inBlock_x {Q : Exit → Act → World → Prop} {a : Act} {w : World} {id : Nat} (h : Q .normal a w) : Exit.inBlock id Q (.exit id) a w := by
  unfold Exit.inBlock; simpa using h
theorem fv_ret2 {P : Program} {fn : Func} {R : Ending → World → Prop} {A : Act} {w : World} {i : Nat} {v : Value} (hr : fn.results = #[.tmp i]) (hv : sl A.tmps i = v) (hd : A.defers = []) (hR : R (.returned v) w) : bodyPost P fn R .ret A w :=
  fv_ret hr hv hd hR
/-- The loops of a code, those inside none other. -/
def loopsOf : Code → List Code
  | .loop c => [c]
  | .seq a b => loopsOf a ++ loopsOf b
  | .block _ c => loopsOf c
  | .scope c => loopsOf c
  | .cond _ a b => loopsOf a ++ loopsOf b
  | _ => []
noncomputable def dlJ : Code := (loopsOf dlLp).getD 0 .skip
noncomputable def dlM : Code := (loopsOf dlLp).getD 1 .skip
def arC (f : Int → Int) : Array Value := #[.int .i64 (f 0), .int .i64 (f 1), .int .i64 (f 2), .int .i64 (f 3), .int .i64 (f 4), .int .i64 (f 5), .int .i64 (f 6), .int .i64 (f 7), .int .i64 (f 8), .int .i64 (f 9), .int .i64 (f 10), .int .i64 (f 11), .int .i64 (f 12), .int .i64 (f 13), .int .i64 (f 14), .int .i64 (f 15)]
def arX (f : Int → Int) : Obj := .cells (arC f) 35 (0, 0)
def btX (b : Bt) : Obj := .cells #[.int .i64 b.n, .int .i64 b.i, .int .i64 b.u] 51 (0, 0)
theorem six (j : Int) (h0 : 0 ≤ j) (h1 : j ≤ 15) : j = 0 ∨ j = 1 ∨ j = 2 ∨ j = 3 ∨ j = 4 ∨ j = 5 ∨ j = 6 ∨ j = 7 ∨ j = 8 ∨ j = 9 ∨ j = 10 ∨ j = 11 ∨ j = 12 ∨ j = 13 ∨ j = 14 ∨ j = 15 := by omega
theorem ar_at {w : World} {g : Nat} {f : Int → Int} (h : w.heap[g]? = some (arX f)) {j : Int} (h0 : 0 ≤ j) (h1 : j ≤ 15) : w.cell? ⟨g, j.toNat, none⟩ = some (.int .i64 (f j)) ∧ w.frozen? ⟨g, j.toNat, none⟩ = false := by
  refine ⟨?_, blk_free h _⟩
  rw [blk_cell h]
  rcases six j h0 h1 with rfl | rfl | rfl | rfl | rfl | rfl | rfl | rfl | rfl | rfl | rfl | rfl | rfl | rfl | rfl | rfl <;> rfl
theorem ar_set {w : World} {g : Nat} {f : Int → Int} (h : w.heap[g]? = some (arX f)) {j : Int} (y : Int) (h0 : 0 ≤ j) (h1 : j ≤ 15) : (w.setCell ⟨g, j.toNat, none⟩ (.int .i64 y)).heap[g]? = some (arX (setZ f j y)) := by
  have e := blk_set h j.toNat (.int .i64 y)
  rw [e]
  have : (arC f).setIfInBounds j.toNat (.int .i64 y) = arC (setZ f j y) := by
    rcases six j h0 h1 with rfl | rfl | rfl | rfl | rfl | rfl | rfl | rfl | rfl | rfl | rfl | rfl | rfl | rfl | rfl | rfl <;> simp [arC, setZ]
  rw [this]
  rfl
theorem and_maskB (v : Int) (m : Nat) (hm : m < 9223372036854775808) : 0 ≤ bits .and .i64 v (m : Int) ∧ bits .and .i64 v (m : Int) ≤ m := by
  have h : (BitVec.ofInt 64 v &&& BitVec.ofInt 64 (m : Int)).toNat ≤ m := by
    rw [BitVec.toNat_and]
    have : (BitVec.ofInt 64 (m : Int)).toNat = m := by simp [BitVec.toNat_ofInt]; omega
    exact Nat.le_trans Nat.and_le_right (by omega)
  have e : bits .and .i64 v (m : Int) = (((BitVec.ofInt 64 v &&& BitVec.ofInt 64 (m : Int)).toNat : Nat) : Int) := by
    show IntKind.i64.wrap (((BitVec.ofInt 64 v &&& BitVec.ofInt 64 (m : Int)).toNat : Nat) : Int) = _
    exact IntWalk.i64_in _ (by omega)
  rw [e]
  omega
theorem and7 (v : Int) : 0 ≤ bits .and .i64 v 7 ∧ bits .and .i64 v 7 ≤ 7 := and_maskB v 7 (by omega)
theorem and15 (v : Int) : 0 ≤ bits .and .i64 v 15 ∧ bits .and .i64 v 15 ≤ 15 := and_maskB v 15 (by omega)
theorem and3 (v : Int) : 0 ≤ bits .and .i64 v 3 ∧ bits .and .i64 v 3 ≤ 3 := and_maskB v 3 (by omega)
theorem srt_uniq {l : List Bt} (h : sortedB l) : uniqB l := List.Pairwise.imp (fun hab => by omega) h
theorem srt_len {l : List Bt} (h : sortedB l) (ho : ∀ b ∈ l, okB b) : l.length ≤ 16 := by
  rcases rise_len l h (fun b hb => (ho b hb).2.1) 0 (fun b hb => (ho b hb).1) with q | q
  · omega
  · rw [q]; simp
abbrev OA (wL : World) (v : Value) (x : Tv) (g8 g9 : Nat) (last inc : Int → Int) (w : World) : Prop := OB beaO wL [(g9, arX inc), (g8, arX last)] v x w
/-- And the row of what was due. -/
structure OD (wL : World) (v : Value) (x : Tv) (g8 g9 : Nat) (last inc : Int → Int) (B : Nat) (u : Value) (ds : List Bt) (w : World) : Prop where
  ob : OA wL v x g8 g9 last inc w
  row : RdB w (fun b => B ≤ b) u ds
  lt : g8 < B ∧ g9 < B
section
variable {wL : World} {v u : Value} {x : Tv} {g8 g9 gx B : Nat} {last inc : Int → Int} {ds : List Bt} {w w' : World} {b : Bt}
theorem OD.below (h : OD wL v x g8 g9 last inc B u ds w) (hb : Below w.heap.size w w') : OD wL v x g8 g9 last inc B u ds w' := ⟨h.ob.below hb, RdK.below h.row hb, h.lt⟩
theorem oa_inc {j : Int} (h0 : 0 ≤ j) (h1 : j ≤ 15) (h : OA wL v x g8 g9 last inc w) : w.cell? ⟨g9, j.toNat, none⟩ = some (.int .i64 (inc j)) ∧ w.frozen? ⟨g9, j.toNat, none⟩ = false := ar_at h.get h0 h1
theorem oa_last {j : Int} (h0 : 0 ≤ j) (h1 : j ≤ 15) (h : OA wL v x g8 g9 last inc w) : w.cell? ⟨g8, j.toNat, none⟩ = some (.int .i64 (last j)) ∧ w.frozen? ⟨g8, j.toNat, none⟩ = false := ar_at h.get2 h0 h1
theorem oa_set9 {j : Int} (y : Int) (h0 : 0 ≤ j) (h1 : j ≤ 15) (hne : g8 ≠ g9) (h : OA wL v x g8 g9 last inc w) : OA wL v x g8 g9 last (setZ inc j y) (w.setCell ⟨g9, j.toNat, none⟩ (.int .i64 y)) := by
  refine h.write (fun k p hk => ?_) ((Only.refl g9 w).setCell _ _) (ar_set h.get y h0 h1)
  simp only [List.mem_singleton, Prod.mk.injEq] at hk
  exact hk.1 ▸ hne
theorem oa_set8 {j : Int} (y : Int) (h0 : 0 ≤ j) (h1 : j ≤ 15) (hne : g8 ≠ g9) (h : OA wL v x g8 g9 last inc w) : OA wL v x g8 g9 (setZ last j y) inc (w.setCell ⟨g8, j.toNat, none⟩ (.int .i64 y)) := by
  refine (h.swap.write (o' := arX (setZ last j y)) (fun k p hk => ?_) ((Only.refl g8 w).setCell _ _) (ar_set h.get2 y h0 h1)).swap
  simp only [List.mem_singleton, Prod.mk.injEq] at hk
  exact hk.1 ▸ hne.symm
theorem od_set9 {j : Int} (y : Int) (h0 : 0 ≤ j) (h1 : j ≤ 15) (hne : g8 ≠ g9) (h : OD wL v x g8 g9 last inc B u ds w) : OD wL v x g8 g9 last (setZ inc j y) B u ds (w.setCell ⟨g9, j.toNat, none⟩ (.int .i64 y)) :=
  ⟨oa_set9 y h0 h1 hne h.ob, RdK.keep h.row (fun k hk hl => Below.heap_setCell w _ _ k (by have := h.lt.2; simp; omega)) (by simp), h.lt⟩
/-- The beat at hand, in a block of its own. -/
structure OX (wL : World) (v : Value) (x : Tv) (g8 g9 : Nat) (last inc : Int → Int) (B : Nat) (u : Value) (ds : List Bt) (gx : Nat) (b : Bt) (w : World) : Prop where
  od : OD wL v x g8 g9 last inc B u ds w
  blk : w.heap[gx]? = some (btX b)
theorem OX.below (h : OX wL v x g8 g9 last inc B u ds gx b w) (hb : Below w.heap.size w w') : OX wL v x g8 g9 last inc B u ds gx b w' := ⟨h.od.below hb, blk_below hb h.blk (lt_of_block h.blk)⟩
theorem OX.draws (h : OX wL v x g8 g9 last inc B u ds gx b w) : OX wL v x g8 g9 last inc B u ds gx b w.drew := h.below below_drew
theorem OX.cells (h : OX wL v x g8 g9 last inc B u ds gx b w) : w.cell? ⟨gx, 0, none⟩ = some (.int .i64 b.n) ∧ w.cell? ⟨gx, 1, none⟩ = some (.int .i64 b.i) ∧ w.cell? ⟨gx, 2, none⟩ = some (.int .i64 b.u) :=
  ⟨by rw [blk_cell h.blk]; rfl, by rw [blk_cell h.blk]; rfl, by rw [blk_cell h.blk]; rfl⟩
theorem ox_new (b : Bt) (h : OD wL v x g8 g9 last inc B u ds w) : OX wL v x g8 g9 last inc B u ds w.heap.size b (w.alloc (btX b)) := ⟨h.below ((Below.refl _ _).alloc (Nat.le_refl _) _), blk_new _ _⟩
end
end Go.Proofs.Ytdlkpkigpnlanaa
