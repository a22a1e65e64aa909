/- The frame of DirtyPlays, and its pieces. Conditions: as stated. -/
import Derived.Test.YtjncccongbfoiaaDirArgs
import Derived.Test.YtjncccongbfoiaaFv
import Derived.Test.YtjncccongbfoiaaHoldV
import Derived.StillTailTactics
namespace Go.Proofs.Ytjncccongbfoiaa
open Go.ChangeShapes Go.WideShapes Go.ChangeAt Go.RowKit
set_option linter.unusedVariables false
set_option maxRecDepth 100000
set_option linter.unusedSimpArgs false
set_option maxHeartbeats 4000000

noncomputable def dpR (n : Nat) : Code := ((Try.f3.body.bind (codeAt n)).getD .skip)
noncomputable def dpL : Code := ((Try.f3.body.bind loopAt).getD .skip)
abbrev ptrB (b : Nat) : Value := .pointer (some ⟨b, 0, none⟩)
structure LD (A : Act) (av : Value) (bh bz : Nat) : Prop where
  bs : A.tmps.size = 188
  bd : A.defers = []
  l0 : sl A.tmps 0 = av
  l3 : sl A.tmps 3 = ptrB bh
  l4 : sl A.tmps 4 = ptrB bz
/-- All slots ahead of n as they were, but number e. -/
def NearD (n e : Nat) (A A' : Act) : Prop := A'.tmps.size = 188 ∧ A'.defers = [] ∧ ∀ i, i < n → i ≠ e → sl A'.tmps i = sl A.tmps i
theorem LD.keep {A A' : Act} {av : Value} {bh bz n e : Nat} (h : LD A av bh bz) (hn : NearD n e A A') (h7 : 5 ≤ n) (he : 5 ≤ e) : LD A' av bh bz :=
  ⟨hn.1, hn.2.1, (hn.2.2 0 (by omega) (by omega)).trans h.l0, (hn.2.2 3 (by omega) (by omega)).trans h.l3, (hn.2.2 4 (by omega) (by omega)).trans h.l4⟩
theorem NearD.at_ {n e : Nat} {A A' : Act} (hn : NearD n e A A') {i : Nat} {v : Value} (h : sl A.tmps i = v) (hi : i < n) (he : i ≠ e) : sl A'.tmps i = v := (hn.2.2 i hi he).trans h
/-- Region 13: what holds where p of its four operations that make or turn memory have come up. -/
def C13 (wx : World) (vh vz row : Value) (l lp l3 : List Int) : Nat → World → Prop
  | 0, w => DInv wx vh l vz l row l3 w
  | 2, w => DInv wx vh lp vz l row l3 w
  | 4, w => DInv wx vh lp vz lp row l3 w
  | _, w => Below wx.heap.size wx w
theorem c13_bel {wx w : World} {vh vz row : Value} {l lp l3 : List Int} : ∀ {p : Nat}, C13 wx vh vz row l lp l3 p w → Below wx.heap.size wx w
  | 0, h => DInv.bel h
  | 1, h => h
  | 2, h => DInv.bel h
  | 3, h => h
  | 4, h => DInv.bel h
  | _ + 5, h => h
/-- The slice that was written out just now. -/
def D13 (wx : World) (vh vz row : Value) (l1 l2 l3 : List Int) (n m : Int) (q : Nat) (v : Value) (p : Nat) (w : World) : Prop :=
  p = q → ∃ w0, DInv wx vh l1 vz l2 row l3 w0 ∧ w = w0.alloc (.cells #[.int .i64 n, .int .i64 m] 3) ∧ v = .slice (some ⟨w0.heap.size, 0, none⟩) 2 2
theorem kept_dinv {wL : World} {vh vz row : Value} {l1 l2 l3 : List Int} : Kept (fun w => DInv wL vh l1 vz l2 row l3 w) := fun w w' h hb => h.below hb
end Go.Proofs.Ytjncccongbfoiaa
