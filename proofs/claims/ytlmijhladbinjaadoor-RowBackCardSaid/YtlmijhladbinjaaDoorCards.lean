/-
  DERIVED. GIVEN WITH THE SEED: THE CARDS: each row of YtlmijhladbinjaaDoorRows.lean that lists a variable, with what it lists TIED to the program's text (the seventh form; the later family's looks); each row that meets fmt, with fmt's text TOLD by the authors' own Lean function (tested against real Go, not proved from fmt's source: count such statements apart). THE CARD IS WHAT COUNTS. Prove the row's statement (the work); the ties are given (YtlmijhladbinjaaDoorTie.lean); close each card by the builder's one call (the guide's Derived/Test/ToyasCard.lean, 'card_holds'). Laid BY PROGRAM, IN A SANDBOX (cutbox-door.mjs). By AI agents, Wed Nov 11 2026. No macro, syntax, notation, axiom, sorry.
-/
import Derived.Test.YtlmijhladbinjaaDoorRows
import GoSem.ClaimSeven
namespace Go.Proofs.YtlmijhladbinjaaDoor
namespace Rows

/-- THE TIED CARD OF 'reevelaw07.RowLines'. -/
def rowLinesCard : Claim7 := { stood := { row := rowLinesRow, standIns := [], harness := (true, "3e817aff2dda2d9ba820d71b5f599197ea6945169da57ac76af39bea1ca2b07f"), looks := false }, kinds := [], alts := [], laidByText := true, laidKinds := [.data, .data, .data], laidTests := true, laidLooks := .later }
def RowLinesCardSaid : Prop := Claim7.holds Tryd.pinned (.plain (OpenSpec.ofChange rowLinesSpec)) rowLinesCard

/-- THE TIED CARD OF 'reevelaw07.RowBack'. -/
def rowBackCard : Claim7 := { stood := { row := rowBackRow, standIns := [], harness := (true, "3e817aff2dda2d9ba820d71b5f599197ea6945169da57ac76af39bea1ca2b07f"), looks := false }, kinds := [], alts := [], laidByText := true, laidKinds := [.data, .data, .data], laidTests := true, laidLooks := .later }
def RowBackCardSaid : Prop := Claim7.holds Tryd.pinned (.plain (OpenSpec.ofChange rowBackSpec)) rowBackCard

/-- THE SECOND FORM's CARD OF 'reevelaw07.RowLines'. -/
def rowLinesUptoCard : Claim7 := { stood := { row := rowLinesUptoRow, standIns := [], harness := (true, "3e817aff2dda2d9ba820d71b5f599197ea6945169da57ac76af39bea1ca2b07f"), looks := false }, kinds := [], alts := [], laidByText := true, laidKinds := [.data, .data, .data], laidTests := true, laidLooks := .later }
def RowLinesUptoCardSaid : Prop := Claim7.holds Tryd.pinned (.plain (OpenSpec.upto rowLinesSpec)) rowLinesUptoCard

/-- THE SECOND FORM's CARD OF 'reevelaw07.RowBack'. -/
def rowBackUptoCard : Claim7 := { stood := { row := rowBackUptoRow, standIns := [], harness := (true, "3e817aff2dda2d9ba820d71b5f599197ea6945169da57ac76af39bea1ca2b07f"), looks := false }, kinds := [], alts := [], laidByText := true, laidKinds := [.data, .data, .data], laidTests := true, laidLooks := .later }
def RowBackUptoCardSaid : Prop := Claim7.holds Tryd.pinned (.plain (OpenSpec.upto rowBackSpec)) rowBackUptoCard
end Rows
end Go.Proofs.YtlmijhladbinjaaDoor
