/- A strings.Builder of the call's own, as a list of bytes. Conditions: as stated. -/
import Derived.Test.YtgiofaccigkfjaaDoorBld
import Derived.Test.YtgiofaccigkfjaaDoorShelf
import Derived.Test.YtgiofaccigkfjaaDoorKit
namespace Go.Proofs.YtgiofaccigkfjaaDoor
open Go.ChangeShapes Go.WideShapes Go.ChangeAt Go.RowKit
set_option linter.unusedVariables false
set_option maxRecDepth 100000

/-- Block b is a builder of the call's own (from block B on) that holds the bytes l. -/
def IsB (B b : Nat) (l : List UInt8) (w : World) : Prop := Lib.IsBuilderF 55 5 B b (Lib.byteCells l) w
theorem isB_at {B b : Nat} {p : Value} {l : List UInt8} {w w' : World} (h : Lib.BuilderAtF 55 5 B b p (Lib.byteCells l) w) (hb : Below w.heap.size w w') :
    Lib.BuilderAtF 55 5 B b p (Lib.byteCells l) w' := by
  have hlt := h.lt
  obtain ⟨hB, v, h1, h2, h3⟩ := h
  exact ⟨hB, v, (hb.block b hlt).trans h1, h2.kept (row := none) ⟨hb.os, hb.tape, hb.output, hb.size, fun k hk _ => hb.block k hk⟩ (by cases v.ownBlock <;> simp), h3⟩
theorem isB_below {B b : Nat} {l : List UInt8} {w w' : World} (h : IsB B b l w) (hb : Below w.heap.size w w') : IsB B b l w' := by
  rcases h with h | h
  · exact Or.inl (isB_at h hb)
  · exact Or.inr (isB_at h hb)
theorem isB_fresh (w : World) : IsB w.heap.size w.heap.size [] (w.alloc (.cells #[.pointer none, .slice none 0 0] 55)) := Lib.IsBuilderF.of (Lib.fresh_isBuilder 55 5 w)
theorem isB_string (B b : Nat) (l r : List UInt8) (w : World) (h : IsB B b l w) (hl : l.length ≤ 1000000000) (hr : r.length ≤ 1000000000) (hBw : B ≤ w.heap.size) :
    Calls Tryd.prog 42 #[.pointer (some ⟨b, 0, none⟩), .string (bs r)] w fun e w' => e = .returned (.tuple #[.int .i64 r.length, .nilIface]) ∧ IsB B b (l ++ r) w' ∧ Below B w w' := by
  refine (bld_string B b _ (bs r) w h (by rw [Lib.byteCells_length, bs_size]; omega) hBw).mono ?_
  rintro e w' ⟨rfl, h1, h2, h3⟩
  refine ⟨by rw [bs_size], Or.inr ?_, h2⟩
  rw [Lib.strCells_eq, bs_list] at h1
  rw [Lib.byteCells_append]; exact h1
theorem isB_text (B b : Nat) (l : List UInt8) (w : World) (h : IsB B b l w) (hBw : B ≤ w.heap.size) :
    Calls Tryd.prog 44 #[.pointer (some ⟨b, 0, none⟩)] w fun e w' => e = .returned (.string (bs l)) ∧ Below B w w' := by
  refine (Tryd.Builder_String_any_k B b l w h hBw).mono ?_
  rintro e w' ⟨rfl, h1, h2, h3⟩
  exact ⟨rfl, h2⟩
end Go.Proofs.YtgiofaccigkfjaaDoor
