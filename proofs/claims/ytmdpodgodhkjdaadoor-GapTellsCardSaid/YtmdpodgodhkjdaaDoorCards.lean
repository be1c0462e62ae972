/-
  DERIVED. GIVEN WITH THE SEED: THE CARDS: each row of YtmdpodgodhkjdaaDoorRows.lean that lists a variable, with what it lists TIED to the program's text (the seventh form; the later family's looks); each row that meets fmt, with fmt's text TOLD by the authors' own Lean function (tested against real Go, not proved from fmt's source: count such statements apart). THE CARD IS WHAT COUNTS. Prove the row's statement (the work); the ties are given (YtmdpodgodhkjdaaDoorTie.lean); close each card by the builder's one call (the guide's Derived/Test/ToyasCard.lean, 'card_holds'). Laid BY PROGRAM, IN A SANDBOX (cutbox-door.mjs). By AI agents, Wed Nov 11 2026. No macro, syntax, notation, axiom, sorry.
-/
import Derived.Test.YtmdpodgodhkjdaaDoorRows
import GoSem.ClaimSeven
namespace Go.Proofs.YtmdpodgodhkjdaaDoor
namespace Rows

/-- THE TIED CARD OF 'helixlaw13.GapTells'. -/
def gapTellsCard : Claim7 := { stood := { row := gapTellsRow, standIns := [], harness := (true, "8d937c54901e67a035a6b5906ac79ecd56c02ef0f46e91bd07dd370452f5a365"), looks := true }, kinds := [], alts := [], laidByText := true, laidKinds := [.data], laidTests := true, laidLooks := .later }
def GapTellsCardSaid : Prop := Claim7.holds Tryd.pinned (.plain (OpenSpec.ofChange gapTellsSpec)) gapTellsCard

/-- THE TIED CARD OF 'helixlaw13.GapBack'. -/
def gapBackCard : Claim7 := { stood := { row := gapBackRow, standIns := [], harness := (true, "8d937c54901e67a035a6b5906ac79ecd56c02ef0f46e91bd07dd370452f5a365"), looks := true }, kinds := [], alts := [], laidByText := true, laidKinds := [.data], laidTests := true, laidLooks := .later }
def GapBackCardSaid : Prop := Claim7.holds Tryd.pinned (.plain (OpenSpec.ofChange gapBackSpec)) gapBackCard

/-- THE TIED CARD OF 'helixlaw13.GapOnly'. -/
def gapOnlyCard : Claim7 := { stood := { row := gapOnlyRow, standIns := [], harness := (true, "8d937c54901e67a035a6b5906ac79ecd56c02ef0f46e91bd07dd370452f5a365"), looks := true }, kinds := [], alts := [], laidByText := true, laidKinds := [.data], laidTests := true, laidLooks := .later }
def GapOnlyCardSaid : Prop := Claim7.holds Tryd.pinned (.plain (OpenSpec.ofChange gapOnlySpec)) gapOnlyCard

/-- THE TIED CARD OF 'helixlaw13.GapRuns'. -/
def gapRunsCard : Claim7 := { stood := { row := gapRunsRow, standIns := [], harness := (true, "8d937c54901e67a035a6b5906ac79ecd56c02ef0f46e91bd07dd370452f5a365"), looks := true }, kinds := [], alts := [], laidByText := true, laidKinds := [.data], laidTests := true, laidLooks := .later }
def GapRunsCardSaid : Prop := Claim7.holds Tryd.pinned (.plain (OpenSpec.ofChange gapRunsSpec)) gapRunsCard

/-- THE TIED CARD OF 'helixlaw13.GapErrors'. -/
def gapErrorsCard : Claim7 := { stood := { row := gapErrorsRow, standIns := [], harness := (true, "8d937c54901e67a035a6b5906ac79ecd56c02ef0f46e91bd07dd370452f5a365"), looks := true }, kinds := [], alts := [], laidByText := true, laidKinds := [.data], laidTests := true, laidLooks := .later }
def GapErrorsCardSaid : Prop := Claim7.holds Tryd.pinned (.plain (OpenSpec.ofChange gapErrorsSpec)) gapErrorsCard

/-- THE TIED CARD OF 'helixlaw15.SwapTells'. -/
def swapTellsCard : Claim7 := { stood := { row := swapTellsRow, standIns := [], harness := (true, "8d937c54901e67a035a6b5906ac79ecd56c02ef0f46e91bd07dd370452f5a365"), looks := true }, kinds := [], alts := [], laidByText := true, laidKinds := [.data], laidTests := true, laidLooks := .later }
def SwapTellsCardSaid : Prop := Claim7.holds Tryd.pinned (.plain (OpenSpec.ofChange swapTellsSpec)) swapTellsCard

/-- THE TIED CARD OF 'helixlaw15.SwapBack'. -/
def swapBackCard : Claim7 := { stood := { row := swapBackRow, standIns := [], harness := (true, "8d937c54901e67a035a6b5906ac79ecd56c02ef0f46e91bd07dd370452f5a365"), looks := true }, kinds := [], alts := [], laidByText := true, laidKinds := [.data], laidTests := true, laidLooks := .later }
def SwapBackCardSaid : Prop := Claim7.holds Tryd.pinned (.plain (OpenSpec.ofChange swapBackSpec)) swapBackCard

/-- THE TIED CARD OF 'helixlaw15.SwapOnly'. -/
def swapOnlyCard : Claim7 := { stood := { row := swapOnlyRow, standIns := [], harness := (true, "8d937c54901e67a035a6b5906ac79ecd56c02ef0f46e91bd07dd370452f5a365"), looks := true }, kinds := [], alts := [], laidByText := true, laidKinds := [.data], laidTests := true, laidLooks := .later }
def SwapOnlyCardSaid : Prop := Claim7.holds Tryd.pinned (.plain (OpenSpec.ofChange swapOnlySpec)) swapOnlyCard

/-- THE TIED CARD OF 'helixlaw15.SwapTwo'. -/
def swapTwoCard : Claim7 := { stood := { row := swapTwoRow, standIns := [], harness := (true, "8d937c54901e67a035a6b5906ac79ecd56c02ef0f46e91bd07dd370452f5a365"), looks := true }, kinds := [], alts := [], laidByText := true, laidKinds := [.data], laidTests := true, laidLooks := .later }
def SwapTwoCardSaid : Prop := Claim7.holds Tryd.pinned (.plain (OpenSpec.ofChange swapTwoSpec)) swapTwoCard

/-- THE TIED CARD OF 'helixlaw15.SwapErrors'. -/
def swapErrorsCard : Claim7 := { stood := { row := swapErrorsRow, standIns := [], harness := (true, "8d937c54901e67a035a6b5906ac79ecd56c02ef0f46e91bd07dd370452f5a365"), looks := true }, kinds := [], alts := [], laidByText := true, laidKinds := [.data], laidTests := true, laidLooks := .later }
def SwapErrorsCardSaid : Prop := Claim7.holds Tryd.pinned (.plain (OpenSpec.ofChange swapErrorsSpec)) swapErrorsCard

/-- THE SECOND FORM's CARD OF 'helixlaw13.GapTells'. -/
def gapTellsUptoCard : Claim7 := { stood := { row := gapTellsUptoRow, standIns := [], harness := (true, "8d937c54901e67a035a6b5906ac79ecd56c02ef0f46e91bd07dd370452f5a365"), looks := true }, kinds := [], alts := [], laidByText := true, laidKinds := [.data], laidTests := true, laidLooks := .later }
def GapTellsUptoCardSaid : Prop := Claim7.holds Tryd.pinned (.plain (OpenSpec.upto gapTellsSpec)) gapTellsUptoCard

/-- THE SECOND FORM's CARD OF 'helixlaw13.GapBack'. -/
def gapBackUptoCard : Claim7 := { stood := { row := gapBackUptoRow, standIns := [], harness := (true, "8d937c54901e67a035a6b5906ac79ecd56c02ef0f46e91bd07dd370452f5a365"), looks := true }, kinds := [], alts := [], laidByText := true, laidKinds := [.data], laidTests := true, laidLooks := .later }
def GapBackUptoCardSaid : Prop := Claim7.holds Tryd.pinned (.plain (OpenSpec.upto gapBackSpec)) gapBackUptoCard

/-- THE SECOND FORM's CARD OF 'helixlaw13.GapOnly'. -/
def gapOnlyUptoCard : Claim7 := { stood := { row := gapOnlyUptoRow, standIns := [], harness := (true, "8d937c54901e67a035a6b5906ac79ecd56c02ef0f46e91bd07dd370452f5a365"), looks := true }, kinds := [], alts := [], laidByText := true, laidKinds := [.data], laidTests := true, laidLooks := .later }
def GapOnlyUptoCardSaid : Prop := Claim7.holds Tryd.pinned (.plain (OpenSpec.upto gapOnlySpec)) gapOnlyUptoCard

/-- THE SECOND FORM's CARD OF 'helixlaw13.GapRuns'. -/
def gapRunsUptoCard : Claim7 := { stood := { row := gapRunsUptoRow, standIns := [], harness := (true, "8d937c54901e67a035a6b5906ac79ecd56c02ef0f46e91bd07dd370452f5a365"), looks := true }, kinds := [], alts := [], laidByText := true, laidKinds := [.data], laidTests := true, laidLooks := .later }
def GapRunsUptoCardSaid : Prop := Claim7.holds Tryd.pinned (.plain (OpenSpec.upto gapRunsSpec)) gapRunsUptoCard

/-- THE SECOND FORM's CARD OF 'helixlaw13.GapErrors'. -/
def gapErrorsUptoCard : Claim7 := { stood := { row := gapErrorsUptoRow, standIns := [], harness := (true, "8d937c54901e67a035a6b5906ac79ecd56c02ef0f46e91bd07dd370452f5a365"), looks := true }, kinds := [], alts := [], laidByText := true, laidKinds := [.data], laidTests := true, laidLooks := .later }
def GapErrorsUptoCardSaid : Prop := Claim7.holds Tryd.pinned (.plain (OpenSpec.upto gapErrorsSpec)) gapErrorsUptoCard

/-- THE SECOND FORM's CARD OF 'helixlaw15.SwapTells'. -/
def swapTellsUptoCard : Claim7 := { stood := { row := swapTellsUptoRow, standIns := [], harness := (true, "8d937c54901e67a035a6b5906ac79ecd56c02ef0f46e91bd07dd370452f5a365"), looks := true }, kinds := [], alts := [], laidByText := true, laidKinds := [.data], laidTests := true, laidLooks := .later }
def SwapTellsUptoCardSaid : Prop := Claim7.holds Tryd.pinned (.plain (OpenSpec.upto swapTellsSpec)) swapTellsUptoCard

/-- THE SECOND FORM's CARD OF 'helixlaw15.SwapBack'. -/
def swapBackUptoCard : Claim7 := { stood := { row := swapBackUptoRow, standIns := [], harness := (true, "8d937c54901e67a035a6b5906ac79ecd56c02ef0f46e91bd07dd370452f5a365"), looks := true }, kinds := [], alts := [], laidByText := true, laidKinds := [.data], laidTests := true, laidLooks := .later }
def SwapBackUptoCardSaid : Prop := Claim7.holds Tryd.pinned (.plain (OpenSpec.upto swapBackSpec)) swapBackUptoCard

/-- THE SECOND FORM's CARD OF 'helixlaw15.SwapOnly'. -/
def swapOnlyUptoCard : Claim7 := { stood := { row := swapOnlyUptoRow, standIns := [], harness := (true, "8d937c54901e67a035a6b5906ac79ecd56c02ef0f46e91bd07dd370452f5a365"), looks := true }, kinds := [], alts := [], laidByText := true, laidKinds := [.data], laidTests := true, laidLooks := .later }
def SwapOnlyUptoCardSaid : Prop := Claim7.holds Tryd.pinned (.plain (OpenSpec.upto swapOnlySpec)) swapOnlyUptoCard

/-- THE SECOND FORM's CARD OF 'helixlaw15.SwapTwo'. -/
def swapTwoUptoCard : Claim7 := { stood := { row := swapTwoUptoRow, standIns := [], harness := (true, "8d937c54901e67a035a6b5906ac79ecd56c02ef0f46e91bd07dd370452f5a365"), looks := true }, kinds := [], alts := [], laidByText := true, laidKinds := [.data], laidTests := true, laidLooks := .later }
def SwapTwoUptoCardSaid : Prop := Claim7.holds Tryd.pinned (.plain (OpenSpec.upto swapTwoSpec)) swapTwoUptoCard

/-- THE SECOND FORM's CARD OF 'helixlaw15.SwapErrors'. -/
def swapErrorsUptoCard : Claim7 := { stood := { row := swapErrorsUptoRow, standIns := [], harness := (true, "8d937c54901e67a035a6b5906ac79ecd56c02ef0f46e91bd07dd370452f5a365"), looks := true }, kinds := [], alts := [], laidByText := true, laidKinds := [.data], laidTests := true, laidLooks := .later }
def SwapErrorsUptoCardSaid : Prop := Claim7.holds Tryd.pinned (.plain (OpenSpec.upto swapErrorsSpec)) swapErrorsUptoCard
end Rows
end Go.Proofs.YtmdpodgodhkjdaaDoor
