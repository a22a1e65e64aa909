/- Things in memory that own blocks (a queue, a set, a wheel ..), told by a predicate: one of them beside blocks of the law's own; two of them and a row: what each call leaves. Of any program. Conditions: as stated. -/
import Derived.Test.YtjpcghnhekafiaaTurned
import Derived.Test.YtjpcghnhekafiaaHolds
namespace Go.Proofs.Ytjpcghnhekafiaa
open Go.ChangeShapes Go.WideShapes Go.ChangeAt Go.RowKit
set_option linter.unusedVariables false
set_option maxRecDepth 100000

/-- A kind of things: 'P F v l w': the value v is such a thing, it says l, its blocks are those of F. -/
structure Own (α : Type) where
  P : (Nat → Prop) → Value → α → World → Prop
  keep : ∀ {F v l w w'}, P F v l w → (∀ k, F k → w'.heap[k]? = w.heap[k]?) → w.heap.size ≤ w'.heap.size → P F v l w'
  lt : ∀ {F v l w}, P F v l w → ∀ k, F k → k < w.heap.size
/-- A kind of rows: 'R w K v l': the value v reads as l, in blocks of K. -/
structure Rdr (β : Type) where
  R : World → (Nat → Prop) → Value → β → Prop
  keep : ∀ {w w' K v l}, R w K v l → (∀ b, K b → b < w.heap.size → w'.heap[b]? = w.heap[b]?) → w.heap.size ≤ w'.heap.size → R w' K v l
  imp : ∀ {w K K' v l}, R w K v l → (∀ b, K b → b < w.heap.size → K' b) → R w K' v l
/-- The law's own blocks stay. -/
def Stay (G : Nat → Prop) (w w' : World) : Prop := ∀ k, G k → w'.heap[k]? = w.heap[k]?
theorem Stay.trans {G : Nat → Prop} {a b c : World} (h : Stay G a b) (k : Stay G b c) : Stay G a c := fun q hq => (k q hq).trans (h q hq)
theorem below_drew {w : World} : Below w.heap.size w w.drew := ⟨rfl, rfl, rfl, Nat.le_refl _, fun _ _ => rfl⟩
section
variable {α β : Type} {O : Own α} {R : Rdr β}
/-- What a call that may turn the thing leaves. -/
def OPost (O : Own α) (F : Nat → Prop) (v : Value) (l : α) (w w' : World) : Prop := ∃ F', O.P F' v l w' ∧ Turned F w w' ∧ ∀ k, F' k → F k ∨ w.heap.size ≤ k
theorem Own.below {F : Nat → Prop} {v : Value} {l : α} {w w' : World} (h : O.P F v l w) (hb : Below w.heap.size w w') : O.P F v l w' := O.keep h (fun k hk => hb.block k (O.lt h k hk)) hb.size
theorem Rdr.below {K : Nat → Prop} {v : Value} {l : β} {w w' : World} (h : R.R w K v l) (hb : Below w.heap.size w w') : R.R w' K v l := R.keep h (fun b _ hl => hb.block b hl) hb.size
theorem opost_same {F : Nat → Prop} {v : Value} {l : α} {w w' : World} (h : O.P F v l w) (hb : Below w.heap.size w w') : OPost O F v l w w' := ⟨F, Own.below h hb, Turned.of hb, fun k hk => .inl hk⟩
theorem opost_below {F : Nat → Prop} {v : Value} {l : α} {w w' w2 : World} (h : OPost O F v l w w') (hb : Below w'.heap.size w' w2) : OPost O F v l w w2 := by
  obtain ⟨F', h1, h2, h3⟩ := h
  exact ⟨F', Own.below h1 hb, h2.trans (G := fun _ => False) (Turned.of hb) (fun _ f => f.elim), h3⟩
/-! ### One thing -/
def One (O : Own α) (wL : World) (G : Nat → Prop) (v : Value) (l : α) (w : World) : Prop :=
  ∃ F : Nat → Prop, O.P F v l w ∧ (∀ k, F k → wL.heap.size ≤ k) ∧ Below wL.heap.size wL w ∧ (∀ k, G k → ¬ F k ∧ k < w.heap.size ∧ wL.heap.size ≤ k)
section
variable {wL : World} {G : Nat → Prop} {v : Value} {l : α} {w w' : World}
theorem One.bel (h : One O wL G v l w) : Below wL.heap.size wL w := by obtain ⟨F, _, _, h, _⟩ := h; exact h
theorem One.below (h : One O wL G v l w) (hb : Below w.heap.size w w') : One O wL G v l w' := by
  obtain ⟨F, h1, h2, h3, h4⟩ := h
  exact ⟨F, Own.below h1 hb, h2, h3.trans (hb.mono h3.size), fun k hk => ⟨(h4 k hk).1, Nat.lt_of_lt_of_le (h4 k hk).2.1 hb.size, (h4 k hk).2.2⟩⟩
theorem One.stay (h : One O wL G v l w) (hb : Below w.heap.size w w') : Stay G w w' := by
  obtain ⟨F, h1, h2, h3, h4⟩ := h
  exact fun k hk => hb.block k (h4 k hk).2.1
theorem One.own_lt (h : One O wL G v l w) : ∀ k, G k → k < w.heap.size := by
  obtain ⟨F, h1, h2, h3, h4⟩ := h
  exact fun k hk => (h4 k hk).2.1
theorem One.less {G' : Nat → Prop} (h : One O wL G v l w) (hG : ∀ k, G' k → G k) : One O wL G' v l w := by
  obtain ⟨F, h1, h2, h3, h4⟩ := h
  exact ⟨F, h1, h2, h3, fun k hk => h4 k (hG k hk)⟩
/-- Blocks that were made since are the law's own. -/
theorem One.more {G' : Nat → Prop} (h : One O wL G v l w) (hb : Below w.heap.size w w') (hG : ∀ k, G' k → G k ∨ (w.heap.size ≤ k ∧ k < w'.heap.size)) : One O wL G' v l w' := by
  obtain ⟨F, h1, h2, h3, h4⟩ := h
  refine ⟨F, Own.below h1 hb, h2, h3.trans (hb.mono h3.size), fun k hk => ?_⟩
  rcases hG k hk with hk | hk
  · exact ⟨(h4 k hk).1, Nat.lt_of_lt_of_le (h4 k hk).2.1 hb.size, (h4 k hk).2.2⟩
  · exact ⟨fun e => by have := O.lt h1 k e; omega, hk.2, Nat.le_trans h3.size hk.1⟩
theorem One.write {b : Nat} (h : One O wL G v l w) (hb : G b) (ho : Only b w w') : One O wL G v l w' := by
  obtain ⟨F, h1, h2, h3, h4⟩ := h
  refine ⟨F, O.keep h1 (fun k hf => ho.block k (O.lt h1 k hf) (fun e => (h4 b hb).1 (e ▸ hf))) ho.size, h2, h3.trans (ho.below (h4 b hb).2.2 h3.size), fun k hk => ⟨(h4 k hk).1, Nat.lt_of_lt_of_le (h4 k hk).2.1 ho.size, (h4 k hk).2.2⟩⟩
theorem one_turn {F : Nat → Prop} {l' : α} (h2 : ∀ k, F k → wL.heap.size ≤ k) (h3 : Below wL.heap.size wL w) (h4 : ∀ k, G k → ¬ F k ∧ k < w.heap.size ∧ wL.heap.size ≤ k) (hp : OPost O F v l' w w') : One O wL G v l' w' ∧ Stay G w w' := by
  obtain ⟨F', p1, p2, p3⟩ := hp
  refine ⟨⟨F', p1, fun k hk => ?_, h3.trans (p2.below h2 h3.size), fun k hk => ⟨fun e => ?_, Nat.lt_of_lt_of_le (h4 k hk).2.1 p2.size, (h4 k hk).2.2⟩⟩, fun k hk => p2.block k (h4 k hk).2.1 (h4 k hk).1⟩
  · rcases p3 k hk with e | e
    · exact h2 k e
    · exact Nat.le_trans h3.size e
  · rcases p3 k e with e | e
    · exact (h4 k hk).1 e
    · have := (h4 k hk).2.1; omega
theorem one_start {F : Nat → Prop} (h : O.P F v l w) (hF : ∀ k, F k → wL.heap.size ≤ k) (hb : Below wL.heap.size wL w) : One O wL (fun _ => False) v l w := ⟨F, h, hF, hb, fun _ h => h.elim⟩
theorem kept_one : Kept (fun w => One O wL G v l w) := fun w w' h hb => h.below hb
end
/-! ### Two things and a row -/
def Two (O : Own α) (R : Rdr β) (wL : World) (G : Nat → Prop) (vh : Value) (l1 : α) (vz : Value) (l2 : α) (row : Value) (l3 : β) (w : World) : Prop :=
  ∃ F1 F2 : Nat → Prop, O.P F1 vh l1 w ∧ O.P F2 vz l2 w ∧ (∀ k, F1 k → wL.heap.size ≤ k) ∧ (∀ k, F2 k → wL.heap.size ≤ k) ∧ (∀ k, F1 k → ¬ F2 k) ∧
    R.R w (fun b => ¬ F1 b ∧ ¬ F2 b ∧ ¬ G b) row l3 ∧ Below wL.heap.size wL w ∧ (∀ k, G k → ¬ F1 k ∧ ¬ F2 k ∧ k < w.heap.size ∧ wL.heap.size ≤ k)
section
variable {wL : World} {G : Nat → Prop} {vh vz row : Value} {l1 l2 : α} {l3 : β} {w w' : World}
theorem Two.bel (h : Two O R wL G vh l1 vz l2 row l3 w) : Below wL.heap.size wL w := by
  obtain ⟨F1, F2, _, _, _, _, _, _, h, _⟩ := h; exact h
theorem Two.below (h : Two O R wL G vh l1 vz l2 row l3 w) (hb : Below w.heap.size w w') : Two O R wL G vh l1 vz l2 row l3 w' := by
  obtain ⟨F1, F2, h1, h2, h3, h4, h5, h6, h7, h8⟩ := h
  exact ⟨F1, F2, Own.below h1 hb, Own.below h2 hb, h3, h4, h5, Rdr.below h6 hb, h7.trans (hb.mono h7.size), fun k hk => ⟨(h8 k hk).1, (h8 k hk).2.1, Nat.lt_of_lt_of_le (h8 k hk).2.2.1 hb.size, (h8 k hk).2.2.2⟩⟩
theorem kept_two : Kept (fun w => Two O R wL G vh l1 vz l2 row l3 w) := fun w w' h hb => h.below hb
theorem Two.stay (h : Two O R wL G vh l1 vz l2 row l3 w) (hb : Below w.heap.size w w') : Stay G w w' := by
  obtain ⟨F1, F2, h1, h2, h3, h4, h5, h6, h7, h8⟩ := h
  exact fun k hk => hb.block k (h8 k hk).2.2.1
theorem Two.own_lt (h : Two O R wL G vh l1 vz l2 row l3 w) : ∀ k, G k → k < w.heap.size := by
  obtain ⟨F1, F2, h1, h2, h3, h4, h5, h6, h7, h8⟩ := h
  exact fun k hk => (h8 k hk).2.2.1
theorem Two.rd (h : Two O R wL G vh l1 vz l2 row l3 w) : ∃ K, R.R w K row l3 := by
  obtain ⟨F1, F2, h1, h2, h3, h4, h5, h6, h7, h8⟩ := h
  exact ⟨_, h6⟩
theorem Two.less {G' : Nat → Prop} (h : Two O R wL G vh l1 vz l2 row l3 w) (hG : ∀ k, G' k → G k) : Two O R wL G' vh l1 vz l2 row l3 w := by
  obtain ⟨F1, F2, h1, h2, h3, h4, h5, h6, h7, h8⟩ := h
  exact ⟨F1, F2, h1, h2, h3, h4, h5, R.imp h6 fun b hb _ => ⟨hb.1, hb.2.1, fun e => hb.2.2 (hG b e)⟩, h7, fun k hk => h8 k (hG k hk)⟩
/-- Blocks that were made since are the law's own. -/
theorem Two.more {G' : Nat → Prop} (h : Two O R wL G vh l1 vz l2 row l3 w) (hb : Below w.heap.size w w') (hG : ∀ k, G' k → G k ∨ (w.heap.size ≤ k ∧ k < w'.heap.size)) : Two O R wL G' vh l1 vz l2 row l3 w' := by
  obtain ⟨F1, F2, h1, h2, h3, h4, h5, h6, h7, h8⟩ := h
  have hs := hb.size
  refine ⟨F1, F2, Own.below h1 hb, Own.below h2 hb, h3, h4, h5, ?_, h7.trans (hb.mono h7.size), fun k hk => ?_⟩
  · refine Rdr.below (R.imp h6 (K' := fun b => (¬ F1 b ∧ ¬ F2 b ∧ ¬ G' b)) fun b hb' hl => ⟨hb'.1, hb'.2.1, fun e => ?_⟩) hb
    rcases hG b e with q | q
    · exact hb'.2.2 q
    · omega
  · rcases hG k hk with hk | hk
    · exact ⟨(h8 k hk).1, (h8 k hk).2.1, Nat.lt_of_lt_of_le (h8 k hk).2.2.1 hs, (h8 k hk).2.2.2⟩
    · exact ⟨fun e => by have := O.lt h1 k e; omega, fun e => by have := O.lt h2 k e; omega, hk.2, Nat.le_trans h7.size hk.1⟩
theorem Two.write {b : Nat} (h : Two O R wL G vh l1 vz l2 row l3 w) (hb : G b) (ho : Only b w w') : Two O R wL G vh l1 vz l2 row l3 w' := by
  obtain ⟨F1, F2, h1, h2, h3, h4, h5, h6, h7, h8⟩ := h
  exact ⟨F1, F2, O.keep h1 (fun k hf => ho.block k (O.lt h1 k hf) (fun e => (h8 b hb).1 (e ▸ hf))) ho.size, O.keep h2 (fun k hf => ho.block k (O.lt h2 k hf) (fun e => (h8 b hb).2.1 (e ▸ hf))) ho.size, h3, h4, h5,
    R.keep h6 (fun k hf hl => ho.block k hl (fun e => hf.2.2 (e ▸ hb))) ho.size, h7.trans (ho.below (h8 b hb).2.2.2 h7.size), fun k hk => ⟨(h8 k hk).1, (h8 k hk).2.1, Nat.lt_of_lt_of_le (h8 k hk).2.2.1 ho.size, (h8 k hk).2.2.2⟩⟩
theorem two_turn1 {l : α} {F1 F2 : Nat → Prop} (h2 : O.P F2 vz l2 w) (h3 : ∀ k, F1 k → wL.heap.size ≤ k) (h4 : ∀ k, F2 k → wL.heap.size ≤ k) (h5 : ∀ k, F1 k → ¬ F2 k)
    (h6 : R.R w (fun b => ¬ F1 b ∧ ¬ F2 b ∧ ¬ G b) row l3) (h7 : Below wL.heap.size wL w) (h8 : ∀ k, G k → ¬ F1 k ∧ ¬ F2 k ∧ k < w.heap.size ∧ wL.heap.size ≤ k) (hp : OPost O F1 vh l w w') : Two O R wL G vh l vz l2 row l3 w' ∧ Stay G w w' := by
  obtain ⟨F, p1, p2, p3⟩ := hp
  refine ⟨⟨F, F2, p1, O.keep h2 (fun k hk => p2.block k (O.lt h2 k hk) (fun e => h5 k e hk)) p2.size, fun k hk => ?_, h4, fun k hk hk2 => ?_, ?_, h7.trans (p2.below h3 h7.size), fun k hk => ⟨fun e => by rcases p3 k e with e | e; exact (h8 k hk).1 e; have := (h8 k hk).2.2.1; omega, (h8 k hk).2.1, Nat.lt_of_lt_of_le (h8 k hk).2.2.1 p2.size, (h8 k hk).2.2.2⟩⟩, fun k hk => p2.block k (h8 k hk).2.2.1 (h8 k hk).1⟩
  · rcases p3 k hk with e | e
    · exact h3 k e
    · exact Nat.le_trans h7.size e
  · rcases p3 k hk with e | e
    · exact h5 k e hk2
    · have := O.lt h2 k hk2; omega
  · exact R.imp (R.keep (R.imp h6 (K' := fun b => (¬ F b ∧ ¬ F2 b ∧ ¬ G b) ∧ ¬ F1 b) fun b hb hl => ⟨⟨fun e => by rcases p3 b e with e | e; exact hb.1 e; omega, hb.2⟩, hb.1⟩) (fun b hb hl => p2.block b hl hb.2) p2.size) fun b hb _ => hb.1
theorem two_turn2 {l : α} {F1 F2 : Nat → Prop} (h1 : O.P F1 vh l1 w) (h3 : ∀ k, F1 k → wL.heap.size ≤ k) (h4 : ∀ k, F2 k → wL.heap.size ≤ k) (h5 : ∀ k, F1 k → ¬ F2 k)
    (h6 : R.R w (fun b => ¬ F1 b ∧ ¬ F2 b ∧ ¬ G b) row l3) (h7 : Below wL.heap.size wL w) (h8 : ∀ k, G k → ¬ F1 k ∧ ¬ F2 k ∧ k < w.heap.size ∧ wL.heap.size ≤ k) (hp : OPost O F2 vz l w w') : Two O R wL G vh l1 vz l row l3 w' ∧ Stay G w w' := by
  obtain ⟨F, p1, p2, p3⟩ := hp
  refine ⟨⟨F1, F, O.keep h1 (fun k hk => p2.block k (O.lt h1 k hk) (h5 k hk)) p2.size, p1, h3, fun k hk => ?_, fun k hk hk2 => ?_, ?_, h7.trans (p2.below h4 h7.size), fun k hk => ⟨(h8 k hk).1, fun e => by rcases p3 k e with e | e; exact (h8 k hk).2.1 e; have := (h8 k hk).2.2.1; omega, Nat.lt_of_lt_of_le (h8 k hk).2.2.1 p2.size, (h8 k hk).2.2.2⟩⟩, fun k hk => p2.block k (h8 k hk).2.2.1 (h8 k hk).2.1⟩
  · rcases p3 k hk with e | e
    · exact h4 k e
    · exact Nat.le_trans h7.size e
  · rcases p3 k hk2 with e | e
    · exact h5 k hk e
    · have := O.lt h1 k hk; omega
  · exact R.imp (R.keep (R.imp h6 (K' := fun b => (¬ F1 b ∧ ¬ F b ∧ ¬ G b) ∧ ¬ F2 b) fun b hb hl => ⟨⟨hb.1, fun e => by rcases p3 b e with e | e; exact hb.2.1 e; omega, hb.2.2⟩, hb.2.1⟩) (fun b hb hl => p2.block b hl hb.2) p2.size) fun b hb _ => hb.1
/-- Another row, made anew or of what the old one had. -/
theorem two_row {l : β} {v : Value} {F1 F2 : Nat → Prop} (h1 : O.P F1 vh l1 w) (h2 : O.P F2 vz l2 w) (h3 : ∀ k, F1 k → wL.heap.size ≤ k) (h4 : ∀ k, F2 k → wL.heap.size ≤ k) (h5 : ∀ k, F1 k → ¬ F2 k) (h7 : Below wL.heap.size wL w) (h8 : ∀ k, G k → ¬ F1 k ∧ ¬ F2 k ∧ k < w.heap.size ∧ wL.heap.size ≤ k)
    (hr : R.R w' (fun b => (¬ F1 b ∧ ¬ F2 b ∧ ¬ G b) ∨ w.heap.size ≤ b) v l) (hb : Below w.heap.size w w') : Two O R wL G vh l1 vz l2 v l w' :=
  ⟨F1, F2, Own.below h1 hb, Own.below h2 hb, h3, h4, h5,
    R.imp hr fun b hb _ => by
      rcases hb with hb | hb
      · exact hb
      · exact ⟨fun e => by have := O.lt h1 b e; omega, fun e => by have := O.lt h2 b e; omega, fun e => by have := (h8 b e).2.2.1; omega⟩, h7.trans (hb.mono h7.size), fun k hk => ⟨(h8 k hk).1, (h8 k hk).2.1, Nat.lt_of_lt_of_le (h8 k hk).2.2.1 hb.size, (h8 k hk).2.2.2⟩⟩
theorem two_start {F F' : Nat → Prop} {w1 : World} (h : O.P F vh l1 w1) (hF : ∀ k, F k → wL.heap.size ≤ k) (hb : Below wL.heap.size wL w1) (h2 : O.P F' vz l2 w) (hF' : ∀ k, F' k → w1.heap.size ≤ k) (hb2 : Below w1.heap.size w1 w) (hr : ∀ K, R.R w K row l3) :
    Two O R wL (fun _ => False) vh l1 vz l2 row l3 w := by
  refine ⟨F, F', Own.below h hb2, h2, hF, fun k hk => Nat.le_trans hb.size (hF' k hk), fun k hk e => ?_, hr _, hb.trans (hb2.mono hb.size), fun _ h => h.elim⟩
  have := O.lt h k hk
  have := hF' k e
  omega
end
end
end Go.Proofs.Ytjpcghnhekafiaa
