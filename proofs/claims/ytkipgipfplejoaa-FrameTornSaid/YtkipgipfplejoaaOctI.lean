/- What the cursor's methods come to. Conditions: the text is no longer than any text. -/
import Derived.Test.YtkipgipfplejoaaOctH
namespace Go.Proofs.Ytkipgipfplejoaa
open Go.ChangeShapes Go.WideShapes Go.ChangeAt Go.RowKit
set_option linter.unusedVariables false
set_option maxRecDepth 100000
set_option linter.unusedSimpArgs false

theorem leadN_nil : tvV [] = 0 ∧ tvM [] = 0 ∧ tvE [] = 3 := by
  have e := tvE_short (l := []) (by simp)
  obtain ⟨e2, e3⟩ := tvE_ne (l := []) (by omega)
  exact ⟨e2, e3, e⟩
theorem cur_below {w w1 : World} {B b : Nat} {s : ByteArray} {k : Nat} (h : Cur w b s k) (hb : Below B w w1) (hB : b < B) : Cur w1 b s k := ⟨blk_below hb h.1 hB, h.2⟩
theorem cur_set {w : World} {b : Nat} {s : ByteArray} {k j : Nat} (h : Cur w b s k) (hj : j ≤ s.size) : Cur (w.setCell ⟨b, 1, none⟩ (.int .i64 j)) b s j := ⟨blk_set h.1 1 _, hj⟩
theorem cur_cells {w : World} {b : Nat} {s : ByteArray} {k : Nat} (h : Cur w b s k) : w.cell? ⟨b, 0, none⟩ = some (.string s) ∧ w.cell? ⟨b, 1, none⟩ = some (.int .i64 k) ∧ w.frozen? ⟨b, 1, none⟩ = false :=
  ⟨blk_cell h.1 0, blk_cell h.1 1, blk_free h.1 1⟩

end Go.Proofs.Ytkipgipfplejoaa
