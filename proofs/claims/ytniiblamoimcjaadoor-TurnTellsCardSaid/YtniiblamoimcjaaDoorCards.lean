/-
  DERIVED. GIVEN WITH THE SEED: THE CARDS: each row of YtniiblamoimcjaaDoorRows.lean that lists a variable, with what it lists TIED to the program's text (the seventh form; the later family's looks); each row that meets fmt, with fmt's text TOLD by the authors' own Lean function (tested against real Go, not proved from fmt's source: count such statements apart). THE CARD IS WHAT COUNTS. Prove the row's statement (the work); the ties are given (YtniiblamoimcjaaDoorTie.lean); close each card by the builder's one call (the guide's Derived/Test/ToyasCard.lean, 'card_holds'). Laid BY PROGRAM, IN A SANDBOX (cutbox-door.mjs). By AI agents, Wed Nov 11 2026. No macro, syntax, notation, axiom, sorry.
-/
import Derived.Test.YtniiblamoimcjaaDoorRows
import GoSem.ClaimSeven
namespace Go.Proofs.YtniiblamoimcjaaDoor
namespace Rows

/-- THE TIED CARD OF 'helixlaw09.TurnTells'. -/
def turnTellsCard : Claim7 := { stood := { row := turnTellsRow, standIns := [], harness := (true, "c3827a54fa85c198d855e8ff96b995722e442740fbb85038bcfa92ae36d3c870"), looks := true }, kinds := [], alts := [], laidByText := true, laidKinds := [.data], laidTests := true, laidLooks := .later }
def TurnTellsCardSaid : Prop := Claim7.holds Tryd.pinned (.plain (OpenSpec.ofChange turnTellsSpec)) turnTellsCard

/-- THE TIED CARD OF 'helixlaw09.TurnBack'. -/
def turnBackCard : Claim7 := { stood := { row := turnBackRow, standIns := [], harness := (true, "c3827a54fa85c198d855e8ff96b995722e442740fbb85038bcfa92ae36d3c870"), looks := true }, kinds := [], alts := [], laidByText := true, laidKinds := [.data], laidTests := true, laidLooks := .later }
def TurnBackCardSaid : Prop := Claim7.holds Tryd.pinned (.plain (OpenSpec.ofChange turnBackSpec)) turnBackCard

/-- THE TIED CARD OF 'helixlaw09.TurnAll'. -/
def turnAllCard : Claim7 := { stood := { row := turnAllRow, standIns := [], harness := (true, "c3827a54fa85c198d855e8ff96b995722e442740fbb85038bcfa92ae36d3c870"), looks := true }, kinds := [], alts := [], laidByText := true, laidKinds := [.data], laidTests := true, laidLooks := .later }
def TurnAllCardSaid : Prop := Claim7.holds Tryd.pinned (.plain (OpenSpec.ofChange turnAllSpec)) turnAllCard

/-- THE TIED CARD OF 'helixlaw09.TurnParts'. -/
def turnPartsCard : Claim7 := { stood := { row := turnPartsRow, standIns := [], harness := (true, "c3827a54fa85c198d855e8ff96b995722e442740fbb85038bcfa92ae36d3c870"), looks := true }, kinds := [], alts := [], laidByText := true, laidKinds := [.data], laidTests := true, laidLooks := .later }
def TurnPartsCardSaid : Prop := Claim7.holds Tryd.pinned (.plain (OpenSpec.ofChange turnPartsSpec)) turnPartsCard

/-- THE TIED CARD OF 'helixlaw09.TurnErrors'. -/
def turnErrorsCard : Claim7 := { stood := { row := turnErrorsRow, standIns := [], harness := (true, "c3827a54fa85c198d855e8ff96b995722e442740fbb85038bcfa92ae36d3c870"), looks := true }, kinds := [], alts := [], laidByText := true, laidKinds := [.data], laidTests := true, laidLooks := .later }
def TurnErrorsCardSaid : Prop := Claim7.holds Tryd.pinned (.plain (OpenSpec.ofChange turnErrorsSpec)) turnErrorsCard

/-- THE SECOND FORM's CARD OF 'helixlaw09.TurnTells'. -/
def turnTellsUptoCard : Claim7 := { stood := { row := turnTellsUptoRow, standIns := [], harness := (true, "c3827a54fa85c198d855e8ff96b995722e442740fbb85038bcfa92ae36d3c870"), looks := true }, kinds := [], alts := [], laidByText := true, laidKinds := [.data], laidTests := true, laidLooks := .later }
def TurnTellsUptoCardSaid : Prop := Claim7.holds Tryd.pinned (.plain (OpenSpec.upto turnTellsSpec)) turnTellsUptoCard

/-- THE SECOND FORM's CARD OF 'helixlaw09.TurnBack'. -/
def turnBackUptoCard : Claim7 := { stood := { row := turnBackUptoRow, standIns := [], harness := (true, "c3827a54fa85c198d855e8ff96b995722e442740fbb85038bcfa92ae36d3c870"), looks := true }, kinds := [], alts := [], laidByText := true, laidKinds := [.data], laidTests := true, laidLooks := .later }
def TurnBackUptoCardSaid : Prop := Claim7.holds Tryd.pinned (.plain (OpenSpec.upto turnBackSpec)) turnBackUptoCard

/-- THE SECOND FORM's CARD OF 'helixlaw09.TurnAll'. -/
def turnAllUptoCard : Claim7 := { stood := { row := turnAllUptoRow, standIns := [], harness := (true, "c3827a54fa85c198d855e8ff96b995722e442740fbb85038bcfa92ae36d3c870"), looks := true }, kinds := [], alts := [], laidByText := true, laidKinds := [.data], laidTests := true, laidLooks := .later }
def TurnAllUptoCardSaid : Prop := Claim7.holds Tryd.pinned (.plain (OpenSpec.upto turnAllSpec)) turnAllUptoCard

/-- THE SECOND FORM's CARD OF 'helixlaw09.TurnParts'. -/
def turnPartsUptoCard : Claim7 := { stood := { row := turnPartsUptoRow, standIns := [], harness := (true, "c3827a54fa85c198d855e8ff96b995722e442740fbb85038bcfa92ae36d3c870"), looks := true }, kinds := [], alts := [], laidByText := true, laidKinds := [.data], laidTests := true, laidLooks := .later }
def TurnPartsUptoCardSaid : Prop := Claim7.holds Tryd.pinned (.plain (OpenSpec.upto turnPartsSpec)) turnPartsUptoCard

/-- THE SECOND FORM's CARD OF 'helixlaw09.TurnErrors'. -/
def turnErrorsUptoCard : Claim7 := { stood := { row := turnErrorsUptoRow, standIns := [], harness := (true, "c3827a54fa85c198d855e8ff96b995722e442740fbb85038bcfa92ae36d3c870"), looks := true }, kinds := [], alts := [], laidByText := true, laidKinds := [.data], laidTests := true, laidLooks := .later }
def TurnErrorsUptoCardSaid : Prop := Claim7.holds Tryd.pinned (.plain (OpenSpec.upto turnErrorsSpec)) turnErrorsUptoCard
end Rows
end Go.Proofs.YtniiblamoimcjaaDoor
