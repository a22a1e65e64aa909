/-
  DERIVED. GIVEN WITH THE SEED: THE CARDS: each row of YtgiofaccigkfjaaDoorRows.lean that lists a variable, with what it lists TIED to the program's text (the seventh form; the later family's looks); each row that meets fmt, with fmt's text TOLD by the authors' own Lean function (tested against real Go, not proved from fmt's source: count such statements apart). THE CARD IS WHAT COUNTS. Prove the row's statement (the work); the ties are given (YtgiofaccigkfjaaDoorTie.lean); close each card by the builder's one call (the guide's Derived/Test/ToyasCard.lean, 'card_holds'). Laid BY PROGRAM, IN A SANDBOX (cutbox-door.mjs). By AI agents, Wed Nov 11 2026. No macro, syntax, notation, axiom, sorry.
-/
import Derived.Test.YtgiofaccigkfjaaDoorRows
import GoSem.ClaimSeven
namespace Go.Proofs.YtgiofaccigkfjaaDoor
namespace Rows

/-- THE TIED CARD OF 'reevelaw08.ResAdds'. -/
def resAddsCard : Claim7 := { stood := { row := resAddsRow, standIns := [], harness := (true, "82ff6db06fee50aa0c3dbfe868e7dce65c9f4de1dba2520d171193fce050021c"), looks := false }, kinds := [], alts := [], laidByText := true, laidKinds := [.data, .data, .data], laidTests := true, laidLooks := .later }
def ResAddsCardSaid : Prop := Claim7.holds Tryd.pinned (.plain (OpenSpec.ofChange resAddsSpec)) resAddsCard

/-- THE TIED CARD OF 'reevelaw08.ResTexts'. -/
def resTextsCard : Claim7 := { stood := { row := resTextsRow, standIns := [], harness := (true, "82ff6db06fee50aa0c3dbfe868e7dce65c9f4de1dba2520d171193fce050021c"), looks := false }, kinds := [], alts := [], laidByText := true, laidKinds := [.data, .data, .data], laidTests := true, laidLooks := .later }
def ResTextsCardSaid : Prop := Claim7.holds Tryd.pinned (.plain (OpenSpec.ofChange resTextsSpec)) resTextsCard

/-- THE TIED CARD OF 'reevelaw08.ResBack'. -/
def resBackCard : Claim7 := { stood := { row := resBackRow, standIns := [], harness := (true, "82ff6db06fee50aa0c3dbfe868e7dce65c9f4de1dba2520d171193fce050021c"), looks := false }, kinds := [], alts := [], laidByText := true, laidKinds := [.data, .data, .data], laidTests := true, laidLooks := .later }
def ResBackCardSaid : Prop := Claim7.holds Tryd.pinned (.plain (OpenSpec.ofChange resBackSpec)) resBackCard

/-- THE TIED CARD OF 'reevelaw08.ResOrders'. -/
def resOrdersCard : Claim7 := { stood := { row := resOrdersRow, standIns := [], harness := (true, "82ff6db06fee50aa0c3dbfe868e7dce65c9f4de1dba2520d171193fce050021c"), looks := false }, kinds := [], alts := [], laidByText := true, laidKinds := [.data, .data, .data], laidTests := true, laidLooks := .later }
def ResOrdersCardSaid : Prop := Claim7.holds Tryd.pinned (.plain (OpenSpec.ofChange resOrdersSpec)) resOrdersCard

/-- THE SECOND FORM's CARD OF 'reevelaw08.ResAdds'. -/
def resAddsUptoCard : Claim7 := { stood := { row := resAddsUptoRow, standIns := [], harness := (true, "82ff6db06fee50aa0c3dbfe868e7dce65c9f4de1dba2520d171193fce050021c"), looks := false }, kinds := [], alts := [], laidByText := true, laidKinds := [.data, .data, .data], laidTests := true, laidLooks := .later }
def ResAddsUptoCardSaid : Prop := Claim7.holds Tryd.pinned (.plain (OpenSpec.upto resAddsSpec)) resAddsUptoCard

/-- THE SECOND FORM's CARD OF 'reevelaw08.ResTexts'. -/
def resTextsUptoCard : Claim7 := { stood := { row := resTextsUptoRow, standIns := [], harness := (true, "82ff6db06fee50aa0c3dbfe868e7dce65c9f4de1dba2520d171193fce050021c"), looks := false }, kinds := [], alts := [], laidByText := true, laidKinds := [.data, .data, .data], laidTests := true, laidLooks := .later }
def ResTextsUptoCardSaid : Prop := Claim7.holds Tryd.pinned (.plain (OpenSpec.upto resTextsSpec)) resTextsUptoCard

/-- THE SECOND FORM's CARD OF 'reevelaw08.ResBack'. -/
def resBackUptoCard : Claim7 := { stood := { row := resBackUptoRow, standIns := [], harness := (true, "82ff6db06fee50aa0c3dbfe868e7dce65c9f4de1dba2520d171193fce050021c"), looks := false }, kinds := [], alts := [], laidByText := true, laidKinds := [.data, .data, .data], laidTests := true, laidLooks := .later }
def ResBackUptoCardSaid : Prop := Claim7.holds Tryd.pinned (.plain (OpenSpec.upto resBackSpec)) resBackUptoCard

/-- THE SECOND FORM's CARD OF 'reevelaw08.ResOrders'. -/
def resOrdersUptoCard : Claim7 := { stood := { row := resOrdersUptoRow, standIns := [], harness := (true, "82ff6db06fee50aa0c3dbfe868e7dce65c9f4de1dba2520d171193fce050021c"), looks := false }, kinds := [], alts := [], laidByText := true, laidKinds := [.data, .data, .data], laidTests := true, laidLooks := .later }
def ResOrdersUptoCardSaid : Prop := Claim7.holds Tryd.pinned (.plain (OpenSpec.upto resOrdersSpec)) resOrdersUptoCard
end Rows
end Go.Proofs.YtgiofaccigkfjaaDoor
