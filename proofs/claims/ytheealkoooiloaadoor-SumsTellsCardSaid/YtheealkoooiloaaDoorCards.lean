/-
  DERIVED. GIVEN WITH THE SEED: THE CARDS: each row of YtheealkoooiloaaDoorRows.lean that lists a variable, with what it lists TIED to the program's text (the seventh form; the later family's looks); each row that meets fmt, with fmt's text TOLD by the authors' own Lean function (tested against real Go, not proved from fmt's source: count such statements apart). THE CARD IS WHAT COUNTS. Prove the row's statement (the work); the ties are given (YtheealkoooiloaaDoorTie.lean); close each card by the builder's one call (the guide's Derived/Test/ToyasCard.lean, 'card_holds'). Laid BY PROGRAM, IN A SANDBOX (cutbox-door.mjs). By AI agents, Wed Nov 11 2026. No macro, syntax, notation, axiom, sorry.
-/
import Derived.Test.YtheealkoooiloaaDoorRows
import GoSem.ClaimSeven
namespace Go.Proofs.YtheealkoooiloaaDoor
namespace Rows

/-- THE TIED CARD OF 'helixlaw12.SumsTells'. -/
def sumsTellsCard : Claim7 := { stood := { row := sumsTellsRow, standIns := [], harness := (true, "c26247506dff147eac007737702efaaa4c5bbca32ce295249a336a02a8d7c40b"), looks := true }, kinds := [], alts := [], laidByText := true, laidKinds := [.data], laidTests := true, laidLooks := .later }
def SumsTellsCardSaid : Prop := Claim7.holds Tryd.pinned (.plain (OpenSpec.ofChange sumsTellsSpec)) sumsTellsCard

/-- THE TIED CARD OF 'helixlaw12.SumsGap'. -/
def sumsGapCard : Claim7 := { stood := { row := sumsGapRow, standIns := [], harness := (true, "c26247506dff147eac007737702efaaa4c5bbca32ce295249a336a02a8d7c40b"), looks := true }, kinds := [], alts := [], laidByText := true, laidKinds := [.data], laidTests := true, laidLooks := .later }
def SumsGapCardSaid : Prop := Claim7.holds Tryd.pinned (.plain (OpenSpec.ofChange sumsGapSpec)) sumsGapCard

/-- THE TIED CARD OF 'helixlaw12.SumsSwap'. -/
def sumsSwapCard : Claim7 := { stood := { row := sumsSwapRow, standIns := [], harness := (true, "c26247506dff147eac007737702efaaa4c5bbca32ce295249a336a02a8d7c40b"), looks := true }, kinds := [], alts := [], laidByText := true, laidKinds := [.data], laidTests := true, laidLooks := .later }
def SumsSwapCardSaid : Prop := Claim7.holds Tryd.pinned (.plain (OpenSpec.ofChange sumsSwapSpec)) sumsSwapCard

/-- THE TIED CARD OF 'helixlaw12.SumsAll'. -/
def sumsAllCard : Claim7 := { stood := { row := sumsAllRow, standIns := [], harness := (true, "c26247506dff147eac007737702efaaa4c5bbca32ce295249a336a02a8d7c40b"), looks := true }, kinds := [], alts := [], laidByText := true, laidKinds := [.data], laidTests := true, laidLooks := .later }
def SumsAllCardSaid : Prop := Claim7.holds Tryd.pinned (.plain (OpenSpec.ofChange sumsAllSpec)) sumsAllCard

/-- THE TIED CARD OF 'helixlaw12.SumsBits'. -/
def sumsBitsCard : Claim7 := { stood := { row := sumsBitsRow, standIns := [], harness := (true, "c26247506dff147eac007737702efaaa4c5bbca32ce295249a336a02a8d7c40b"), looks := true }, kinds := [], alts := [], laidByText := true, laidKinds := [.data], laidTests := true, laidLooks := .later }
def SumsBitsCardSaid : Prop := Claim7.holds Tryd.pinned (.plain (OpenSpec.ofChange sumsBitsSpec)) sumsBitsCard

/-- THE SECOND FORM's CARD OF 'helixlaw12.SumsTells'. -/
def sumsTellsUptoCard : Claim7 := { stood := { row := sumsTellsUptoRow, standIns := [], harness := (true, "c26247506dff147eac007737702efaaa4c5bbca32ce295249a336a02a8d7c40b"), looks := true }, kinds := [], alts := [], laidByText := true, laidKinds := [.data], laidTests := true, laidLooks := .later }
def SumsTellsUptoCardSaid : Prop := Claim7.holds Tryd.pinned (.plain (OpenSpec.upto sumsTellsSpec)) sumsTellsUptoCard

/-- THE SECOND FORM's CARD OF 'helixlaw12.SumsGap'. -/
def sumsGapUptoCard : Claim7 := { stood := { row := sumsGapUptoRow, standIns := [], harness := (true, "c26247506dff147eac007737702efaaa4c5bbca32ce295249a336a02a8d7c40b"), looks := true }, kinds := [], alts := [], laidByText := true, laidKinds := [.data], laidTests := true, laidLooks := .later }
def SumsGapUptoCardSaid : Prop := Claim7.holds Tryd.pinned (.plain (OpenSpec.upto sumsGapSpec)) sumsGapUptoCard

/-- THE SECOND FORM's CARD OF 'helixlaw12.SumsSwap'. -/
def sumsSwapUptoCard : Claim7 := { stood := { row := sumsSwapUptoRow, standIns := [], harness := (true, "c26247506dff147eac007737702efaaa4c5bbca32ce295249a336a02a8d7c40b"), looks := true }, kinds := [], alts := [], laidByText := true, laidKinds := [.data], laidTests := true, laidLooks := .later }
def SumsSwapUptoCardSaid : Prop := Claim7.holds Tryd.pinned (.plain (OpenSpec.upto sumsSwapSpec)) sumsSwapUptoCard

/-- THE SECOND FORM's CARD OF 'helixlaw12.SumsAll'. -/
def sumsAllUptoCard : Claim7 := { stood := { row := sumsAllUptoRow, standIns := [], harness := (true, "c26247506dff147eac007737702efaaa4c5bbca32ce295249a336a02a8d7c40b"), looks := true }, kinds := [], alts := [], laidByText := true, laidKinds := [.data], laidTests := true, laidLooks := .later }
def SumsAllUptoCardSaid : Prop := Claim7.holds Tryd.pinned (.plain (OpenSpec.upto sumsAllSpec)) sumsAllUptoCard

/-- THE SECOND FORM's CARD OF 'helixlaw12.SumsBits'. -/
def sumsBitsUptoCard : Claim7 := { stood := { row := sumsBitsUptoRow, standIns := [], harness := (true, "c26247506dff147eac007737702efaaa4c5bbca32ce295249a336a02a8d7c40b"), looks := true }, kinds := [], alts := [], laidByText := true, laidKinds := [.data], laidTests := true, laidLooks := .later }
def SumsBitsUptoCardSaid : Prop := Claim7.holds Tryd.pinned (.plain (OpenSpec.upto sumsBitsSpec)) sumsBitsUptoCard
end Rows
end Go.Proofs.YtheealkoooiloaaDoor
