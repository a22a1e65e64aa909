/- Pieces of the walk of HeapPlays, a lemma a region, the frame a variable. Conditions: as stated. UNDER WAY. -/
import Derived.Test.YtfknmokidjgeiaaHeapTwo
import Derived.Test.YtfknmokidjgeiaaFv
import Derived.StillTailTactics
namespace Go.Proofs.Ytfknmokidjgeiaa
open Go.ChangeShapes Go.WideShapes Go.ChangeAt Go.RowKit
set_option linter.unusedVariables false
set_option maxRecDepth 100000
set_option linter.unusedSimpArgs false
set_option maxHeartbeats 4000000

noncomputable def hpR (n : Nat) : Code := ((Try.f3.body.bind (codeAt n)).getD .skip)
noncomputable def hpL : Code := ((Try.f3.body.bind loopAt).getD .skip)
structure LF (A : Act) (av : Value) (id : Int) (b7 bh bz : Nat) : Prop where
  bs : A.tmps.size = 317
  bd : A.defers = []
  l0 : sl A.tmps 0 = av
  l1 : sl A.tmps 1 = .int .i64 id
  l7 : sl A.tmps 7 = .pointer (some ⟨b7, 0, none⟩)
  l9 : sl A.tmps 9 = .pointer (some ⟨bh, 0, none⟩)
  l10 : sl A.tmps 10 = .pointer (some ⟨bz, 0, none⟩)
/-- All slots ahead of n as they were. -/
def Near (n : Nat) (A A' : Act) : Prop := A'.tmps.size = 317 ∧ A'.defers = [] ∧ ∀ i, i < n → sl A'.tmps i = sl A.tmps i
theorem LF.keep {A A' : Act} {av : Value} {id : Int} {b7 bh bz n : Nat} (h : LF A av id b7 bh bz) (hn : Near n A A') (h11 : 11 ≤ n) : LF A' av id b7 bh bz :=
  ⟨hn.1, hn.2.1, (hn.2.2 0 (by omega)).trans h.l0, (hn.2.2 1 (by omega)).trans h.l1, (hn.2.2 7 (by omega)).trans h.l7, (hn.2.2 9 (by omega)).trans h.l9, (hn.2.2 10 (by omega)).trans h.l10⟩
theorem Near.at_ {n : Nat} {A A' : Act} (hn : Near n A A') {i : Nat} {v : Value} (h : sl A.tmps i = v) (hi : i < n) : sl A'.tmps i = v := (hn.2.2 i hi).trans h
def ActAt (wx : World) (ba oa k : Nat) (act : ActH) : Prop := ∀ w' : World, Below wx.heap.size wx w' → w'.cell? ⟨ba, oa + k * 5, none⟩ = some (.int .i64 act.kind) ∧ w'.cell? ⟨ba, oa + k * 5 + 1, none⟩ = some (.int .i64 act.t.id) ∧ w'.cell? ⟨ba, oa + k * 5 + 2, none⟩ = some (.int .i64 act.t.key.a) ∧ w'.cell? ⟨ba, oa + k * 5 + 2 + 1, none⟩ = some (.int .i64 act.t.key.b) ∧ w'.cell? ⟨ba, oa + k * 5 + 2 + 2, none⟩ = some (.int .i64 act.t.key.c)
section
variable {wL : World} {G : Nat → Prop} {vh vz row : Value} {l1 l2 l3 : List Thg} {w w' : World}
theorem kept_inv : Kept (fun w => Inv3 wL G vh l1 vz l2 row l3 w) := fun w w' h hb => h.below hb
theorem brput (x : Thg) (hn : l3.length ≤ 100000) (h : Inv3 wL G vh l1 vz l2 row l3 w) :
    Calls Try.prog 12 #[row, x.val] w fun e w' => ∃ v, e = .returned v ∧ Inv3 wL G vh l1 vz l2 v (putT l3 x) w' ∧ Below w.heap.size w w' := by
  have h0 := h
  obtain ⟨F1, F2, h1, h2, h3, h4, h5, h6, h7, h8⟩ := h
  exact (k9put_any row l3 x _ w hn h6).mono fun e w' ⟨v, he, hr, hb, _⟩ => ⟨v, he, inv_row h0 hr hb, hb⟩
end
end Go.Proofs.Ytfknmokidjgeiaa
