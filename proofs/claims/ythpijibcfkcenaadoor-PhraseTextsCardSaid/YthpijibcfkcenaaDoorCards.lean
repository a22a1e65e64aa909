/-
  DERIVED. GIVEN WITH THE SEED: THE CARDS: each row of YthpijibcfkcenaaDoorRows.lean that lists a variable, with what it lists TIED to the program's text (the seventh form; the later family's looks); each row that meets fmt, with fmt's text TOLD by the authors' own Lean function (tested against real Go, not proved from fmt's source: count such statements apart). THE CARD IS WHAT COUNTS. Prove the row's statement (the work); the ties are given (YthpijibcfkcenaaDoorTie.lean); close each card by the builder's one call (the guide's Derived/Test/ToyasCard.lean, 'card_holds'). Laid BY PROGRAM, IN A SANDBOX (cutbox-door.mjs). By AI agents, Wed Nov 11 2026. No macro, syntax, notation, axiom, sorry.
-/
import Derived.Test.YthpijibcfkcenaaDoorRows
import GoSem.ClaimSeven
namespace Go.Proofs.YthpijibcfkcenaaDoor
namespace Rows

/-- THE TIED CARD OF 'reevelaw19.PhraseLines'. -/
def phraseLinesCard : Claim7 := { stood := { row := phraseLinesRow, standIns := [], harness := (true, "e7b8e969df539245d28662642bf8db658f0bc4ea9c504a54e108a1ec23ca8e3c"), looks := false }, kinds := [], alts := [], laidByText := true, laidKinds := [.data, .data, .data, .data], laidTests := true, laidLooks := .later }
def PhraseLinesCardSaid : Prop := Claim7.holds Tryd.pinned (.plain (OpenSpec.ofChange phraseLinesSpec)) phraseLinesCard

/-- THE TIED CARD OF 'reevelaw19.PhraseTexts'. -/
def phraseTextsCard : Claim7 := { stood := { row := phraseTextsRow, standIns := [], harness := (true, "e7b8e969df539245d28662642bf8db658f0bc4ea9c504a54e108a1ec23ca8e3c"), looks := false }, kinds := [], alts := [], laidByText := true, laidKinds := [.data, .data, .data, .data], laidTests := true, laidLooks := .later }
def PhraseTextsCardSaid : Prop := Claim7.holds Tryd.pinned (.plain (OpenSpec.ofChange phraseTextsSpec)) phraseTextsCard

/-- THE TIED CARD OF 'reevelaw19.PhraseBack'. -/
def phraseBackCard : Claim7 := { stood := { row := phraseBackRow, standIns := [], harness := (true, "e7b8e969df539245d28662642bf8db658f0bc4ea9c504a54e108a1ec23ca8e3c"), looks := false }, kinds := [], alts := [], laidByText := true, laidKinds := [.data, .data, .data, .data], laidTests := true, laidLooks := .later }
def PhraseBackCardSaid : Prop := Claim7.holds Tryd.pinned (.plain (OpenSpec.ofChange phraseBackSpec)) phraseBackCard

/-- THE SECOND FORM's CARD OF 'reevelaw19.PhraseLines'. -/
def phraseLinesUptoCard : Claim7 := { stood := { row := phraseLinesUptoRow, standIns := [], harness := (true, "e7b8e969df539245d28662642bf8db658f0bc4ea9c504a54e108a1ec23ca8e3c"), looks := false }, kinds := [], alts := [], laidByText := true, laidKinds := [.data, .data, .data, .data], laidTests := true, laidLooks := .later }
def PhraseLinesUptoCardSaid : Prop := Claim7.holds Tryd.pinned (.plain (OpenSpec.upto phraseLinesSpec)) phraseLinesUptoCard

/-- THE SECOND FORM's CARD OF 'reevelaw19.PhraseTexts'. -/
def phraseTextsUptoCard : Claim7 := { stood := { row := phraseTextsUptoRow, standIns := [], harness := (true, "e7b8e969df539245d28662642bf8db658f0bc4ea9c504a54e108a1ec23ca8e3c"), looks := false }, kinds := [], alts := [], laidByText := true, laidKinds := [.data, .data, .data, .data], laidTests := true, laidLooks := .later }
def PhraseTextsUptoCardSaid : Prop := Claim7.holds Tryd.pinned (.plain (OpenSpec.upto phraseTextsSpec)) phraseTextsUptoCard

/-- THE SECOND FORM's CARD OF 'reevelaw19.PhraseBack'. -/
def phraseBackUptoCard : Claim7 := { stood := { row := phraseBackUptoRow, standIns := [], harness := (true, "e7b8e969df539245d28662642bf8db658f0bc4ea9c504a54e108a1ec23ca8e3c"), looks := false }, kinds := [], alts := [], laidByText := true, laidKinds := [.data, .data, .data, .data], laidTests := true, laidLooks := .later }
def PhraseBackUptoCardSaid : Prop := Claim7.holds Tryd.pinned (.plain (OpenSpec.upto phraseBackSpec)) phraseBackUptoCard
end Rows
end Go.Proofs.YthpijibcfkcenaaDoor
