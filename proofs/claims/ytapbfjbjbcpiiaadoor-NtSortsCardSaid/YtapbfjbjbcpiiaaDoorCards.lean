/-
  DERIVED. GIVEN WITH THE SEED: THE CARDS: each row of YtapbfjbjbcpiiaaDoorRows.lean that lists a variable, with what it lists TIED to the program's text (the seventh form; the later family's looks); each row that meets fmt, with fmt's text TOLD by the authors' own Lean function (tested against real Go, not proved from fmt's source: count such statements apart). THE CARD IS WHAT COUNTS. Prove the row's statement (the work); the ties are given (YtapbfjbjbcpiiaaDoorTie.lean); close each card by the builder's one call (the guide's Derived/Test/ToyasCard.lean, 'card_holds'). Laid BY PROGRAM, IN A SANDBOX (cutbox-door.mjs). By AI agents, Wed Nov 11 2026. No macro, syntax, notation, axiom, sorry.
-/
import Derived.Test.YtapbfjbjbcpiiaaDoorRows
import GoSem.ClaimSeven
namespace Go.Proofs.YtapbfjbjbcpiiaaDoor
namespace Rows

/-- THE TIED CARD OF 'helixlaw01.NtSorts'. -/
def ntSortsCard : Claim7 := { stood := { row := ntSortsRow, standIns := [], harness := (true, "a7c3db96e09a7bcf8113bc1abb9a3949cf26230344d99688b4c36838c3a6ec48"), looks := false }, kinds := [], alts := [], laidByText := true, laidKinds := [.data], laidTests := true, laidLooks := .later }
def NtSortsCardSaid : Prop := Claim7.holds Tryd.pinned (.plain (OpenSpec.ofChange ntSortsSpec)) ntSortsCard

/-- THE TIED CARD OF 'helixlaw02.EditMetric'. -/
def editMetricCard : Claim7 := { stood := { row := editMetricRow, standIns := [], harness := (true, "a7c3db96e09a7bcf8113bc1abb9a3949cf26230344d99688b4c36838c3a6ec48"), looks := false }, kinds := [], alts := [], laidByText := true, laidKinds := [.data], laidTests := true, laidLooks := .later }
def EditMetricCardSaid : Prop := Claim7.holds Tryd.pinned (.plain (OpenSpec.ofChange editMetricSpec)) editMetricCard

/-- THE TIED CARD OF 'helixlaw02.EditApplies'. -/
def editAppliesCard : Claim7 := { stood := { row := editAppliesRow, standIns := [], harness := (true, "a7c3db96e09a7bcf8113bc1abb9a3949cf26230344d99688b4c36838c3a6ec48"), looks := false }, kinds := [], alts := [], laidByText := true, laidKinds := [.data], laidTests := true, laidLooks := .later }
def EditAppliesCardSaid : Prop := Claim7.holds Tryd.pinned (.plain (OpenSpec.ofChange editAppliesSpec)) editAppliesCard

/-- THE TIED CARD OF 'helixlaw02.EditBall'. -/
def editBallCard : Claim7 := { stood := { row := editBallRow, standIns := [], harness := (true, "a7c3db96e09a7bcf8113bc1abb9a3949cf26230344d99688b4c36838c3a6ec48"), looks := false }, kinds := [], alts := [], laidByText := true, laidKinds := [.data], laidTests := true, laidLooks := .later }
def EditBallCardSaid : Prop := Claim7.holds Tryd.pinned (.plain (OpenSpec.ofChange editBallSpec)) editBallCard

/-- THE TIED CARD OF 'helixlaw02.EditPrefix'. -/
def editPrefixCard : Claim7 := { stood := { row := editPrefixRow, standIns := [], harness := (true, "a7c3db96e09a7bcf8113bc1abb9a3949cf26230344d99688b4c36838c3a6ec48"), looks := false }, kinds := [], alts := [], laidByText := true, laidKinds := [.data], laidTests := true, laidLooks := .later }
def EditPrefixCardSaid : Prop := Claim7.holds Tryd.pinned (.plain (OpenSpec.ofChange editPrefixSpec)) editPrefixCard

/-- THE SECOND FORM's CARD OF 'helixlaw01.NtSorts'. -/
def ntSortsUptoCard : Claim7 := { stood := { row := ntSortsUptoRow, standIns := [], harness := (true, "a7c3db96e09a7bcf8113bc1abb9a3949cf26230344d99688b4c36838c3a6ec48"), looks := false }, kinds := [], alts := [], laidByText := true, laidKinds := [.data], laidTests := true, laidLooks := .later }
def NtSortsUptoCardSaid : Prop := Claim7.holds Tryd.pinned (.plain (OpenSpec.upto ntSortsSpec)) ntSortsUptoCard

/-- THE SECOND FORM's CARD OF 'helixlaw02.EditMetric'. -/
def editMetricUptoCard : Claim7 := { stood := { row := editMetricUptoRow, standIns := [], harness := (true, "a7c3db96e09a7bcf8113bc1abb9a3949cf26230344d99688b4c36838c3a6ec48"), looks := false }, kinds := [], alts := [], laidByText := true, laidKinds := [.data], laidTests := true, laidLooks := .later }
def EditMetricUptoCardSaid : Prop := Claim7.holds Tryd.pinned (.plain (OpenSpec.upto editMetricSpec)) editMetricUptoCard

/-- THE SECOND FORM's CARD OF 'helixlaw02.EditApplies'. -/
def editAppliesUptoCard : Claim7 := { stood := { row := editAppliesUptoRow, standIns := [], harness := (true, "a7c3db96e09a7bcf8113bc1abb9a3949cf26230344d99688b4c36838c3a6ec48"), looks := false }, kinds := [], alts := [], laidByText := true, laidKinds := [.data], laidTests := true, laidLooks := .later }
def EditAppliesUptoCardSaid : Prop := Claim7.holds Tryd.pinned (.plain (OpenSpec.upto editAppliesSpec)) editAppliesUptoCard

/-- THE SECOND FORM's CARD OF 'helixlaw02.EditBall'. -/
def editBallUptoCard : Claim7 := { stood := { row := editBallUptoRow, standIns := [], harness := (true, "a7c3db96e09a7bcf8113bc1abb9a3949cf26230344d99688b4c36838c3a6ec48"), looks := false }, kinds := [], alts := [], laidByText := true, laidKinds := [.data], laidTests := true, laidLooks := .later }
def EditBallUptoCardSaid : Prop := Claim7.holds Tryd.pinned (.plain (OpenSpec.upto editBallSpec)) editBallUptoCard

/-- THE SECOND FORM's CARD OF 'helixlaw02.EditPrefix'. -/
def editPrefixUptoCard : Claim7 := { stood := { row := editPrefixUptoRow, standIns := [], harness := (true, "a7c3db96e09a7bcf8113bc1abb9a3949cf26230344d99688b4c36838c3a6ec48"), looks := false }, kinds := [], alts := [], laidByText := true, laidKinds := [.data], laidTests := true, laidLooks := .later }
def EditPrefixUptoCardSaid : Prop := Claim7.holds Tryd.pinned (.plain (OpenSpec.upto editPrefixSpec)) editPrefixUptoCard
end Rows
end Go.Proofs.YtapbfjbjbcpiiaaDoor
