/- The frame of QueuePlays, and its pieces. Conditions: as stated. -/
import Derived.Test.YtalpocgajecjbaaQueArgs
import Derived.Test.YtalpocgajecjbaaFv
import Derived.StillTailTactics
namespace Go.Proofs.Ytalpocgajecjbaa
open Go.ChangeShapes Go.WideShapes Go.ChangeAt Go.RowKit
set_option linter.unusedVariables false
set_option maxRecDepth 100000
set_option linter.unusedSimpArgs false
set_option maxHeartbeats 4000000

noncomputable def qpR (n : Nat) : Code := ((Try.f3.body.bind (codeAt n)).getD .skip)
noncomputable def qpL : Code := ((Try.f3.body.bind loopAt).getD .skip)
abbrev ptrB (b : Nat) : Value := .pointer (some ⟨b, 0, none⟩)
structure LQ (A : Act) (av : Value) (id : Int) (bh bz : Nat) : Prop where
  bs : A.tmps.size = 242
  bd : A.defers = []
  l0 : sl A.tmps 0 = av
  l1 : sl A.tmps 1 = .int .i64 id
  l5 : sl A.tmps 5 = ptrB bh
  l6 : sl A.tmps 6 = ptrB bz
/-- All slots ahead of n as they were, but number e. -/
def NearQ (n e : Nat) (A A' : Act) : Prop := A'.tmps.size = 242 ∧ A'.defers = [] ∧ ∀ i, i < n → i ≠ e → sl A'.tmps i = sl A.tmps i
theorem LQ.keep {A A' : Act} {av : Value} {id : Int} {bh bz n e : Nat} (h : LQ A av id bh bz) (hn : NearQ n e A A') (h7 : 7 ≤ n) (he : 7 ≤ e) : LQ A' av id bh bz :=
  ⟨hn.1, hn.2.1, (hn.2.2 0 (by omega) (by omega)).trans h.l0, (hn.2.2 1 (by omega) (by omega)).trans h.l1, (hn.2.2 5 (by omega) (by omega)).trans h.l5, (hn.2.2 6 (by omega) (by omega)).trans h.l6⟩
theorem NearQ.at_ {n e : Nat} {A A' : Act} (hn : NearQ n e A A') {i : Nat} {v : Value} (h : sl A.tmps i = v) (hi : i < n) (he : i ≠ e) : sl A'.tmps i = v := (hn.2.2 i hi he).trans h
/-- Where the i-th mark is set, the other. -/
def pkq {α : Type} (m : List Bool) (i : Nat) (a b : α) : α := if m[i]? = some true then b else a
theorem pkq_off {α : Type} {m : List Bool} {i : Nat} {a b : α} (h : m[i]? = some false) : pkq m i a b = a := by unfold pkq; rw [h]; rfl
theorem pkq_on {α : Type} {m : List Bool} {i : Nat} {a b : α} (h : m[i]? = some false) : pkq (m.set i true) i a b = b := by
  unfold pkq
  rw [List.getElem?_set_self (List.getElem?_eq_some_iff.1 h).1]; rfl
theorem pkq_far {α : Type} {m : List Bool} {i j : Nat} {a b : α} (h : i ≠ j) : pkq (m.set i true) j a b = pkq m j a b := by
  unfold pkq
  rw [List.getElem?_set_ne h]
/-- Two calls, one on each queue, each of which may have come up. -/
def C2q (wL w0 : World) (G : Nat → Prop) (vh vz row : Value) (l l' : List Jb) (m : List Bool) (w : World) : Prop := QInv3 wL G vh (pkq m 0 l l') vz (pkq m 1 l l') row l w ∧ StayQ G w0 w
section
variable {wL w0 w : World} {G : Nat → Prop} {vh vz row : Value} {l : List Jb} {m : List Bool}
theorem c2q_put_h (x : Jb) (hx : x.ok) (hn : l.length ≤ 100000) (hm : m[0]? = some false) (h : C2q wL w0 G vh vz row l (putJ l x) m w) :
    Calls Try.prog 8 #[vh, x.val] w fun e w' => e = .returned (.bool (decide (0 ≤ x.prio))) ∧ C2q wL w0 G vh vz row l (putJ l x) (m.set 0 true) w' := by
  unfold C2q at *
  rw [pkq_off hm] at h
  rw [pkq_on hm, pkq_far (show 0 ≠ 1 by decide)]
  exact (iqput_h x hx hn h.1).mono fun e w' ⟨he, hi, hs⟩ => ⟨he, hi, h.2.trans hs⟩
theorem c2q_put_z (x : Jb) (hx : x.ok) (hn : l.length ≤ 100000) (hm : m[1]? = some false) (h : C2q wL w0 G vh vz row l (putJ l x) m w) :
    Calls Try.prog 8 #[vz, x.val] w fun e w' => e = .returned (.bool (decide (0 ≤ x.prio))) ∧ C2q wL w0 G vh vz row l (putJ l x) (m.set 1 true) w' := by
  unfold C2q at *
  rw [pkq_off hm] at h
  rw [pkq_on hm, pkq_far (show 1 ≠ 0 by decide)]
  exact (iqput_z x hx hn h.1).mono fun e w' ⟨he, hi, hs⟩ => ⟨he, hi, h.2.trans hs⟩
end
end Go.Proofs.Ytalpocgajecjbaa
