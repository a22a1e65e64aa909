/- The library's table of powers of ten, and strconv.Itoa over it. Conditions: the table holds what it was laid with. -/
import Derived.Test.YthpijibcfkcenaaDoorPlains
import Derived.Test.YthpijibcfkcenaaDoorShelf
import Derived.Lib.LaidTab
import Derived.Lib.ItoaNum
import Derived.Lib.AppendIntMem
namespace Go.Proofs.YthpijibcfkcenaaDoor
open Go.ChangeShapes Go.WideShapes Go.ChangeAt Go.RowKit
set_option linter.unusedVariables false
set_option maxRecDepth 100000

/-- The table holds what it was laid with. -/
def Tb (w : World) : Prop := Lib.TabIs Tryd.prog w "internal/strconv.uint64pow10" .u64 Lib.pow10Tab
theorem tb_name : ∃ g, Tryd.prog.globalNamed "internal/strconv.uint64pow10" = some g := Option.isSome_iff_exists.1 (by kernel_rfl)
theorem tb_below {w w' : World} (h : Tb w) (hb : Below w.heap.size w w') : Tb w' := by
  obtain ⟨g, hg⟩ := tb_name
  unfold Tb Lib.TabIs World.var? at h ⊢
  rw [hg] at h ⊢
  simp only [Option.bind_some] at h ⊢
  have hlt : g < w.heap.size := by
    rcases Nat.lt_or_ge g w.heap.size with h' | h'
    · exact h'
    · rw [Array.getElem?_eq_none h'] at h; cases h
  rw [hb.block g hlt]
  exact h
theorem tb_drew {w : World} (h : Tb w) (n : Nat) : Tb (w.drewN n) := h
theorem decDigits_eq (n : Nat) : Lib.decDigits n = decL n := by
  induction n using Nat.strongRecOn with
  | ind n ih =>
    rw [Lib.decDigits]
    by_cases h : n < 10
    · rw [dif_pos h, decL_lt h]; rfl
    · rw [dif_neg h, decL_ge h, ih (n / 10) (by omega)]; rfl
theorem itoa_textL (n : Int) : Lib.itoa n = textL n := by
  unfold Lib.itoa textL
  by_cases h : n < 0
  · rw [if_pos h, if_pos h, decDigits_eq]
  · rw [if_neg h, if_neg h, decDigits_eq, show n.toNat = n.natAbs by omega]
theorem itoa_any (n : Int) (hn : inI n) (w : World) (ht : Tb w) :
    Calls Tryd.prog 57 #[.int .i64 n] w fun e w' => e = .returned (.string (bs (textL n))) ∧ Below w.heap.size w w' := by
  refine (Tryd.strconv_Itoa n hn.1 hn.2 w ht).mono ?_
  rintro e w' ⟨rfl, k, os, rfl⟩
  exact ⟨by rw [itoa_textL]; rfl, Lib.below_grow _ _ (Nat.le_refl _) _ _⟩
end Go.Proofs.YthpijibcfkcenaaDoor
