/-
  DERIVED. GIVEN WITH THE SEED: THE CARDS: each row of YtfklchjhnocnhaaDoorRows.lean that lists a variable, with what it lists TIED to the program's text (the seventh form; the later family's looks); each row that meets fmt, with fmt's text TOLD by the authors' own Lean function (tested against real Go, not proved from fmt's source: count such statements apart). THE CARD IS WHAT COUNTS. Prove the row's statement (the work); the ties are given (YtfklchjhnocnhaaDoorTie.lean); close each card by the builder's one call (the guide's Derived/Test/ToyasCard.lean, 'card_holds'). Laid BY PROGRAM, IN A SANDBOX (cutbox-door.mjs). By AI agents, Wed Nov 11 2026. No macro, syntax, notation, axiom, sorry.
-/
import Derived.Test.YtfklchjhnocnhaaDoorRows
import GoSem.ClaimSeven
namespace Go.Proofs.YtfklchjhnocnhaaDoor
namespace Rows

/-- THE TIED CARD OF 'reevelaw05.DecNumbers'. -/
def decNumbersCard : Claim7 := { stood := { row := decNumbersRow, standIns := [], harness := (true, "f61f83631520f4e25b7064f3508bd6e7820b6797e0922b6734ad04f27db824d0"), looks := false }, kinds := [], alts := [], laidByText := true, laidKinds := [.data, .data, .data], laidTests := true, laidLooks := .later }
def DecNumbersCardSaid : Prop := Claim7.holds Tryd.pinned (.plain (OpenSpec.ofChange decNumbersSpec)) decNumbersCard

/-- THE TIED CARD OF 'reevelaw05.DecLists'. -/
def decListsCard : Claim7 := { stood := { row := decListsRow, standIns := [], harness := (true, "f61f83631520f4e25b7064f3508bd6e7820b6797e0922b6734ad04f27db824d0"), looks := false }, kinds := [], alts := [], laidByText := true, laidKinds := [.data, .data, .data], laidTests := true, laidLooks := .later }
def DecListsCardSaid : Prop := Claim7.holds Tryd.pinned (.plain (OpenSpec.ofChange decListsSpec)) decListsCard

/-- THE TIED CARD OF 'reevelaw05.DecBack'. -/
def decBackCard : Claim7 := { stood := { row := decBackRow, standIns := [], harness := (true, "f61f83631520f4e25b7064f3508bd6e7820b6797e0922b6734ad04f27db824d0"), looks := false }, kinds := [], alts := [], laidByText := true, laidKinds := [.data, .data, .data], laidTests := true, laidLooks := .later }
def DecBackCardSaid : Prop := Claim7.holds Tryd.pinned (.plain (OpenSpec.ofChange decBackSpec)) decBackCard

/-- THE SECOND FORM's CARD OF 'reevelaw05.DecNumbers'. -/
def decNumbersUptoCard : Claim7 := { stood := { row := decNumbersUptoRow, standIns := [], harness := (true, "f61f83631520f4e25b7064f3508bd6e7820b6797e0922b6734ad04f27db824d0"), looks := false }, kinds := [], alts := [], laidByText := true, laidKinds := [.data, .data, .data], laidTests := true, laidLooks := .later }
def DecNumbersUptoCardSaid : Prop := Claim7.holds Tryd.pinned (.plain (OpenSpec.upto decNumbersSpec)) decNumbersUptoCard

/-- THE SECOND FORM's CARD OF 'reevelaw05.DecLists'. -/
def decListsUptoCard : Claim7 := { stood := { row := decListsUptoRow, standIns := [], harness := (true, "f61f83631520f4e25b7064f3508bd6e7820b6797e0922b6734ad04f27db824d0"), looks := false }, kinds := [], alts := [], laidByText := true, laidKinds := [.data, .data, .data], laidTests := true, laidLooks := .later }
def DecListsUptoCardSaid : Prop := Claim7.holds Tryd.pinned (.plain (OpenSpec.upto decListsSpec)) decListsUptoCard

/-- THE SECOND FORM's CARD OF 'reevelaw05.DecBack'. -/
def decBackUptoCard : Claim7 := { stood := { row := decBackUptoRow, standIns := [], harness := (true, "f61f83631520f4e25b7064f3508bd6e7820b6797e0922b6734ad04f27db824d0"), looks := false }, kinds := [], alts := [], laidByText := true, laidKinds := [.data, .data, .data], laidTests := true, laidLooks := .later }
def DecBackUptoCardSaid : Prop := Claim7.holds Tryd.pinned (.plain (OpenSpec.upto decBackSpec)) decBackUptoCard
end Rows
end Go.Proofs.YtfklchjhnocnhaaDoor
