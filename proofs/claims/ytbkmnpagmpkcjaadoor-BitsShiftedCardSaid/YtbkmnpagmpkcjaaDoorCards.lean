/-
  DERIVED. GIVEN WITH THE SEED: THE CARDS: each row of YtbkmnpagmpkcjaaDoorRows.lean that lists a variable, with what it lists TIED to the program's text (the seventh form; the later family's looks); each row that meets fmt, with fmt's text TOLD by the authors' own Lean function (tested against real Go, not proved from fmt's source: count such statements apart). THE CARD IS WHAT COUNTS. Prove the row's statement (the work); the ties are given (YtbkmnpagmpkcjaaDoorTie.lean); close each card by the builder's one call (the guide's Derived/Test/ToyasCard.lean, 'card_holds'). Laid BY PROGRAM, IN A SANDBOX (cutbox-door.mjs). By AI agents, Wed Nov 11 2026. No macro, syntax, notation, axiom, sorry.
-/
import Derived.Test.YtbkmnpagmpkcjaaDoorRows
import GoSem.ClaimSeven
namespace Go.Proofs.YtbkmnpagmpkcjaaDoor
namespace Rows

/-- THE TIED CARD OF 'helixlaw11.BitsBack'. -/
def bitsBackCard : Claim7 := { stood := { row := bitsBackRow, standIns := [], harness := (true, "8fd6de7f1cee80998e585a55c72da53dbe1219cea573ea988bff92e6ce531f5a"), looks := false }, kinds := [], alts := [], laidByText := true, laidKinds := [.data], laidTests := true, laidLooks := .later }
def BitsBackCardSaid : Prop := Claim7.holds Tryd.pinned (.plain (OpenSpec.ofChange bitsBackSpec)) bitsBackCard

/-- THE TIED CARD OF 'helixlaw11.BitsShifted'. -/
def bitsShiftedCard : Claim7 := { stood := { row := bitsShiftedRow, standIns := [], harness := (true, "8fd6de7f1cee80998e585a55c72da53dbe1219cea573ea988bff92e6ce531f5a"), looks := false }, kinds := [], alts := [], laidByText := true, laidKinds := [.data], laidTests := true, laidLooks := .later }
def BitsShiftedCardSaid : Prop := Claim7.holds Tryd.pinned (.plain (OpenSpec.ofChange bitsShiftedSpec)) bitsShiftedCard

/-- THE TIED CARD OF 'helixlaw11.BitsNumbers'. -/
def bitsNumbersCard : Claim7 := { stood := { row := bitsNumbersRow, standIns := [], harness := (true, "8fd6de7f1cee80998e585a55c72da53dbe1219cea573ea988bff92e6ce531f5a"), looks := false }, kinds := [], alts := [], laidByText := true, laidKinds := [.data], laidTests := true, laidLooks := .later }
def BitsNumbersCardSaid : Prop := Claim7.holds Tryd.pinned (.plain (OpenSpec.ofChange bitsNumbersSpec)) bitsNumbersCard

/-- THE TIED CARD OF 'helixlaw11.BitsRooms'. -/
def bitsRoomsCard : Claim7 := { stood := { row := bitsRoomsRow, standIns := [], harness := (true, "8fd6de7f1cee80998e585a55c72da53dbe1219cea573ea988bff92e6ce531f5a"), looks := false }, kinds := [], alts := [], laidByText := true, laidKinds := [.data], laidTests := true, laidLooks := .later }
def BitsRoomsCardSaid : Prop := Claim7.holds Tryd.pinned (.plain (OpenSpec.ofChange bitsRoomsSpec)) bitsRoomsCard

/-- THE SECOND FORM's CARD OF 'helixlaw11.BitsBack'. -/
def bitsBackUptoCard : Claim7 := { stood := { row := bitsBackUptoRow, standIns := [], harness := (true, "8fd6de7f1cee80998e585a55c72da53dbe1219cea573ea988bff92e6ce531f5a"), looks := false }, kinds := [], alts := [], laidByText := true, laidKinds := [.data], laidTests := true, laidLooks := .later }
def BitsBackUptoCardSaid : Prop := Claim7.holds Tryd.pinned (.plain (OpenSpec.upto bitsBackSpec)) bitsBackUptoCard

/-- THE SECOND FORM's CARD OF 'helixlaw11.BitsShifted'. -/
def bitsShiftedUptoCard : Claim7 := { stood := { row := bitsShiftedUptoRow, standIns := [], harness := (true, "8fd6de7f1cee80998e585a55c72da53dbe1219cea573ea988bff92e6ce531f5a"), looks := false }, kinds := [], alts := [], laidByText := true, laidKinds := [.data], laidTests := true, laidLooks := .later }
def BitsShiftedUptoCardSaid : Prop := Claim7.holds Tryd.pinned (.plain (OpenSpec.upto bitsShiftedSpec)) bitsShiftedUptoCard

/-- THE SECOND FORM's CARD OF 'helixlaw11.BitsNumbers'. -/
def bitsNumbersUptoCard : Claim7 := { stood := { row := bitsNumbersUptoRow, standIns := [], harness := (true, "8fd6de7f1cee80998e585a55c72da53dbe1219cea573ea988bff92e6ce531f5a"), looks := false }, kinds := [], alts := [], laidByText := true, laidKinds := [.data], laidTests := true, laidLooks := .later }
def BitsNumbersUptoCardSaid : Prop := Claim7.holds Tryd.pinned (.plain (OpenSpec.upto bitsNumbersSpec)) bitsNumbersUptoCard

/-- THE SECOND FORM's CARD OF 'helixlaw11.BitsRooms'. -/
def bitsRoomsUptoCard : Claim7 := { stood := { row := bitsRoomsUptoRow, standIns := [], harness := (true, "8fd6de7f1cee80998e585a55c72da53dbe1219cea573ea988bff92e6ce531f5a"), looks := false }, kinds := [], alts := [], laidByText := true, laidKinds := [.data], laidTests := true, laidLooks := .later }
def BitsRoomsUptoCardSaid : Prop := Claim7.holds Tryd.pinned (.plain (OpenSpec.upto bitsRoomsSpec)) bitsRoomsUptoCard
end Rows
end Go.Proofs.YtbkmnpagmpkcjaaDoor
