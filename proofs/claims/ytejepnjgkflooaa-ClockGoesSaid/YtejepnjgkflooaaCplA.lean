/- The frame of ClockGoes; two clocks beside the document's. Conditions: as stated. -/
import Derived.Test.YtejepnjgkflooaaClkW
import Derived.Test.YtejepnjgkflooaaAct3
import Derived.Test.YtejepnjgkflooaaFv
import Derived.Test.YtejepnjgkflooaaHoldR
import Derived.StillTailTactics
namespace Go.Proofs.Ytejepnjgkflooaa
open Go.ChangeShapes Go.WideShapes Go.ChangeAt Go.RowKit
set_option linter.unusedVariables false
set_option maxRecDepth 100000
set_option linter.unusedSimpArgs false
set_option maxHeartbeats 4000000

noncomputable def cpR (n : Nat) : Code := ((Try.f3.body.bind (codeAt n)).getD .skip)
noncomputable def cpLp : Code := ((Try.f3.body.bind loopAt).getD .skip)
abbrev ptrB (b : Nat) : Value := .pointer (some ⟨b, 0, none⟩)
structure LD (A : Act) (av : Value) (st : Int) (vh vz : Value) (g : Nat) : Prop where
  bs : A.tmps.size = 105
  bd : A.defers = []
  l0 : sl A.tmps 0 = av
  l1 : sl A.tmps 1 = .int .u64 st
  l5 : sl A.tmps 5 = vh
  l6 : sl A.tmps 6 = vz
  l7 : sl A.tmps 7 = ptrB g
def NearD (n e f : Nat) (A A' : Act) : Prop := A'.tmps.size = 105 ∧ A'.defers = [] ∧ ∀ i, i < n → (i < e ∨ f ≤ i) → sl A'.tmps i = sl A.tmps i
theorem LD.keep {A A' : Act} {av : Value} {st : Int} {vh vz : Value} {g n e f : Nat} (h : LD A av st vh vz g) (hn : NearD n e f A A') (h7 : 8 ≤ n) (he : 8 ≤ e) : LD A' av st vh vz g :=
  ⟨hn.1, hn.2.1, (hn.2.2 0 (by omega) (by omega)).trans h.l0, (hn.2.2 1 (by omega) (by omega)).trans h.l1, (hn.2.2 5 (by omega) (by omega)).trans h.l5, (hn.2.2 6 (by omega) (by omega)).trans h.l6, (hn.2.2 7 (by omega) (by omega)).trans h.l7⟩
theorem NearD.at_ {n e f : Nat} {A A' : Act} (hn : NearD n e f A A') {i : Nat} {v : Value} (h : sl A.tmps i = v) (hi : i < n) (he : i < e ∨ f ≤ i) : sl A'.tmps i = v := (hn.2.2 i hi he).trans h
def rdr0 : Rdr Unit := ⟨fun _ _ _ _ => True, fun _ _ _ => trivial, fun _ _ => trivial⟩
def ckB (w : World) (g : Nat) (x : Ck) : Prop := w.heap[g]? = some (.cells #[.int .i64 x.t, .bool x.off] 45 (0, 0))
/-- Two clocks, and the document's in a block of its own. -/
def XI (wL : World) (g : Nat) (vh : Value) (c1 : Ck) (vz : Value) (c2 : Ck) (x : Ck) (w : World) : Prop :=
  Two clkO rdr0 wL (fun k => k = g) vh c1 vz c2 undef () w ∧ ckB w g x
section
variable {wL : World} {g : Nat} {vh vz : Value} {c1 c2 x : Ck} {w w' : World}
theorem XI.bel (h : XI wL g vh c1 vz c2 x w) : Below wL.heap.size wL w := h.1.bel
theorem XI.below (h : XI wL g vh c1 vz c2 x w) (hb : Below w.heap.size w w') : XI wL g vh c1 vz c2 x w' := ⟨h.1.below hb, (h.1.stay hb g rfl).trans h.2⟩
theorem XI.cells (h : XI wL g vh c1 vz c2 x w) : w.cell? ⟨g, 0, none⟩ = some (.int .i64 x.t) ∧ w.cell? ⟨g, 1, none⟩ = some (.bool x.off) ∧ w.frozen? ⟨g, 1, none⟩ = false :=
  ⟨by rw [blk_cell h.2 0]; rfl, by rw [blk_cell h.2 1]; rfl, blk_free h.2 1⟩
theorem XI.turn {d1 d2 : Ck} (p : Two clkO rdr0 wL (fun k => k = g) vh d1 vz d2 undef () w' ∧ Stay (fun k => k = g) w w') (h : ckB w g x) : XI wL g vh d1 vz d2 x w' := ⟨p.1, (p.2 g rfl).trans h⟩
theorem XI.off (h : XI wL g vh c1 vz c2 x w) : XI wL g vh c1 vz c2 ⟨x.t, true⟩ (w.setCell ⟨g, 1, none⟩ (.bool true)) :=
  ⟨h.1.write rfl ((Only.refl g w).setCell 1 _), by have := blk_set h.2 1 (.bool true); exact this⟩
theorem XI.row_ (y : Ck) (h : XI wL g vh c1 vz c2 x w) : XI wL g vh c1 vz c2 y (w.setRow g #[.int .i64 y.t, .bool y.off]) :=
  ⟨h.1.write rfl ⟨rfl, rfl, rfl, by simp [World.setRow], fun k _ hk => rowSet_far _ _ _ _ hk⟩, rowSet_heap w g _ _ _ h.2⟩
theorem xi_stopc (h : XI wL g vh c1 vz c2 x w) :
    Calls Try.prog 7 #[vh] w fun e w' => e = .returned (.bool (!c1.off)) ∧ XI wL g vh ⟨c1.t, true⟩ vz c2 x w' := by
  obtain ⟨⟨F1, F2, h1, h2, h3, h4, h5, h6, h7, h8⟩, hx⟩ := h
  exact (cstop_any F1 vh c1 w h1).mono fun e w' ⟨he, hp⟩ => ⟨he, XI.turn (two_turn1 h2 h3 h4 h5 h6 h7 h8 hp) hx⟩
theorem xi_tickc (n : Int) (h : XI wL g vh c1 vz c2 x w) :
    Calls Try.prog 9 #[vh, .int .i64 n] w fun e w' => e = .returned (.int .i64 (tickK c1 n).t) ∧ XI wL g vh (tickK c1 n) vz c2 x w' := by
  obtain ⟨⟨F1, F2, h1, h2, h3, h4, h5, h6, h7, h8⟩, hx⟩ := h
  exact (ctick_any F1 vh c1 n w h1).mono fun e w' ⟨he, hp⟩ => ⟨he, XI.turn (two_turn1 h2 h3 h4 h5 h6 h7 h8 hp) hx⟩
theorem xi_nowc (h : XI wL g vh c1 vz c2 x w) :
    Calls Try.prog 10 #[vh] w fun e w' => e = .returned (.int .i64 c1.t) ∧ XI wL g vh c1 vz c2 x w' := by
  have h0 := h
  obtain ⟨⟨F1, F2, h1, h2, _⟩, _⟩ := h
  exact (cnow_any F1 vh c1 w h1).mono fun e w' ⟨he, hw⟩ => ⟨he, hw ▸ h0⟩
theorem xi_stoppedc (h : XI wL g vh c1 vz c2 x w) :
    Calls Try.prog 11 #[vh] w fun e w' => e = .returned (.bool c1.off) ∧ XI wL g vh c1 vz c2 x w' := by
  have h0 := h
  obtain ⟨⟨F1, F2, h1, h2, _⟩, _⟩ := h
  exact (cstopped_any F1 vh c1 w h1).mono fun e w' ⟨he, hw⟩ => ⟨he, hw ▸ h0⟩
theorem xi_stopz (h : XI wL g vh c1 vz c2 x w) :
    Calls Try.prog 7 #[vz] w fun e w' => e = .returned (.bool (!c2.off)) ∧ XI wL g vh c1 vz ⟨c2.t, true⟩ x w' := by
  obtain ⟨⟨F1, F2, h1, h2, h3, h4, h5, h6, h7, h8⟩, hx⟩ := h
  exact (cstop_any F2 vz c2 w h2).mono fun e w' ⟨he, hp⟩ => ⟨he, XI.turn (two_turn2 h1 h3 h4 h5 h6 h7 h8 hp) hx⟩
theorem xi_tickz (n : Int) (h : XI wL g vh c1 vz c2 x w) :
    Calls Try.prog 9 #[vz, .int .i64 n] w fun e w' => e = .returned (.int .i64 (tickK c2 n).t) ∧ XI wL g vh c1 vz (tickK c2 n) x w' := by
  obtain ⟨⟨F1, F2, h1, h2, h3, h4, h5, h6, h7, h8⟩, hx⟩ := h
  exact (ctick_any F2 vz c2 n w h2).mono fun e w' ⟨he, hp⟩ => ⟨he, XI.turn (two_turn2 h1 h3 h4 h5 h6 h7 h8 hp) hx⟩
theorem xi_nowz (h : XI wL g vh c1 vz c2 x w) :
    Calls Try.prog 10 #[vz] w fun e w' => e = .returned (.int .i64 c2.t) ∧ XI wL g vh c1 vz c2 x w' := by
  have h0 := h
  obtain ⟨⟨F1, F2, h1, h2, _⟩, _⟩ := h
  exact (cnow_any F2 vz c2 w h2).mono fun e w' ⟨he, hw⟩ => ⟨he, hw ▸ h0⟩
theorem xi_stoppedz (h : XI wL g vh c1 vz c2 x w) :
    Calls Try.prog 11 #[vz] w fun e w' => e = .returned (.bool c2.off) ∧ XI wL g vh c1 vz c2 x w' := by
  have h0 := h
  obtain ⟨⟨F1, F2, h1, h2, _⟩, _⟩ := h
  exact (cstopped_any F2 vz c2 w h2).mono fun e w' ⟨he, hw⟩ => ⟨he, hw ▸ h0⟩
end
/-- Region 9: what holds where p of its two calls have come up. -/
def C9 (wL : World) (g : Nat) (vh vz : Value) (c d x : Ck) : Nat → World → Prop
  | 0, w => XI wL g vh c vz c x w
  | 1, w => XI wL g vh d vz c x w
  | _, w => XI wL g vh d vz d x w
theorem c9_cells {wL : World} {g : Nat} {vh vz : Value} {c d x : Ck} {w : World} : ∀ {p : Nat}, C9 wL g vh vz c d x p w → w.cell? ⟨g, 0, none⟩ = some (.int .i64 x.t) ∧ w.cell? ⟨g, 1, none⟩ = some (.bool x.off) ∧ Below wL.heap.size wL w
  | 0, h => ⟨(XI.cells h).1, (XI.cells h).2.1, XI.bel h⟩
  | 1, h => ⟨(XI.cells h).1, (XI.cells h).2.1, XI.bel h⟩
  | _ + 2, h => ⟨(XI.cells h).1, (XI.cells h).2.1, XI.bel h⟩
/-- Region 12: the call, then the store. -/
def C12 (wL : World) (g : Nat) (vh vz : Value) (c x y : Ck) : Nat → World → Prop
  | 0, w => XI wL g vh c vz c x w
  | 1, w => XI wL g vh c vz c x w
  | _, w => XI wL g vh c vz c y w
theorem c12_bel {wL : World} {g : Nat} {vh vz : Value} {c x y : Ck} {w : World} : ∀ {p : Nat}, C12 wL g vh vz c x y p w → Below wL.heap.size wL w
  | 0, h => XI.bel h
  | 1, h => XI.bel h
  | _ + 2, h => XI.bel h
theorem c12_row {wL : World} {g : Nat} {vh vz : Value} {c x y : Ck} {w : World} : ∀ {p : Nat}, p ≤ 0 → C12 wL g vh vz c x y p w → XI wL g vh c vz c x w
  | 0, _, h => h
  | _ + 1, hp, _ => by omega
end Go.Proofs.Ytejepnjgkflooaa
