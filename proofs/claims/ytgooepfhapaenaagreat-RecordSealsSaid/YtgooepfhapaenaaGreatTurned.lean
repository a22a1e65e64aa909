/- What a call that owns some blocks leaves of all others. Conditions: as stated. -/
import Derived.Test.YtgooepfhapaenaaGreatKit
namespace Go.Proofs.YtgooepfhapaenaaGreat
open Go.ChangeShapes Go.WideShapes Go.ChangeAt Go.RowKit
set_option linter.unusedVariables false

/-- Of all that lay there just blocks of F may have turned. -/
structure Turned (F : Nat → Prop) (w w' : World) : Prop where
  os : w'.os = w.os
  tape : w'.tape = w.tape
  output : w'.output = w.output
  size : w.heap.size ≤ w'.heap.size
  block : ∀ k, k < w.heap.size → ¬ F k → w'.heap[k]? = w.heap[k]?
theorem Turned.refl (F : Nat → Prop) (w : World) : Turned F w w := ⟨rfl, rfl, rfl, Nat.le_refl _, fun _ _ _ => rfl⟩
theorem Turned.of {F : Nat → Prop} {w w' : World} (h : Below w.heap.size w w') : Turned F w w' := ⟨h.os, h.tape, h.output, h.size, fun k hk _ => h.block k hk⟩
theorem Turned.trans {F G : Nat → Prop} {x y z : World} (h : Turned F x y) (k : Turned G y z) (hG : ∀ b, G b → F b ∨ x.heap.size ≤ b) : Turned F x z :=
  ⟨k.os.trans h.os, k.tape.trans h.tape, k.output.trans h.output, Nat.le_trans h.size k.size, fun b hb hF => (k.block b (Nat.lt_of_lt_of_le hb h.size) (fun hg => by rcases hG b hg with h1 | h1; exact hF h1; omega)).trans (h.block b hb hF)⟩
theorem Turned.below {F : Nat → Prop} {w w' : World} {B : Nat} (h : Turned F w w') (hF : ∀ b, F b → B ≤ b) (hB : B ≤ w.heap.size) : Below B w w' :=
  ⟨h.os, h.tape, h.output, h.size, fun b hb => h.block b (by omega) (fun hf => by have := hF b hf; omega)⟩
theorem Turned.imp {F G : Nat → Prop} {w w' : World} (h : Turned F w w') (hG : ∀ b, b < w.heap.size → F b → G b) : Turned G w w' :=
  ⟨h.os, h.tape, h.output, h.size, fun b hb hg => h.block b hb fun hf => hg (hG b hb hf)⟩
end Go.Proofs.YtgooepfhapaenaaGreat
