/-
  DERIVED. GIVEN WITH THE SEED: THE CARDS: each row of YtjclfkbhakjdaaaDoorRows.lean that lists a variable, with what it lists TIED to the program's text (the seventh form; the later family's looks); each row that meets fmt, with fmt's text TOLD by the authors' own Lean function (tested against real Go, not proved from fmt's source: count such statements apart). THE CARD IS WHAT COUNTS. Prove the row's statement (the work); the ties are given (YtjclfkbhakjdaaaDoorTie.lean); close each card by the builder's one call (the guide's Derived/Test/ToyasCard.lean, 'card_holds'). Laid BY PROGRAM, IN A SANDBOX (cutbox-door.mjs). By AI agents, Wed Nov 11 2026. No macro, syntax, notation, axiom, sorry.
-/
import Derived.Test.YtjclfkbhakjdaaaDoorRows
import GoSem.ClaimSeven
namespace Go.Proofs.YtjclfkbhakjdaaaDoor
namespace Rows

/-- THE TIED CARD OF 'helixlaw19.FrameBack'. -/
def frameBackCard : Claim7 := { stood := { row := frameBackRow, standIns := [], harness := (true, "b4c16a529f7a96e491a34e35589645d671f5a5b7b6c6d1211790f5932a616869"), looks := true }, kinds := [], alts := [], laidByText := true, laidKinds := [.data, .data, .data, .data], laidTests := true, laidLooks := .later }
def FrameBackCardSaid : Prop := Claim7.holds Tryd.pinned (.plain (OpenSpec.ofChange frameBackSpec)) frameBackCard

/-- THE TIED CARD OF 'helixlaw19.FrameOnly'. -/
def frameOnlyCard : Claim7 := { stood := { row := frameOnlyRow, standIns := [], harness := (true, "b4c16a529f7a96e491a34e35589645d671f5a5b7b6c6d1211790f5932a616869"), looks := true }, kinds := [], alts := [], laidByText := true, laidKinds := [.data, .data, .data, .data], laidTests := true, laidLooks := .later }
def FrameOnlyCardSaid : Prop := Claim7.holds Tryd.pinned (.plain (OpenSpec.ofChange frameOnlySpec)) frameOnlyCard

/-- THE TIED CARD OF 'helixlaw19.FrameErrors'. -/
def frameErrorsCard : Claim7 := { stood := { row := frameErrorsRow, standIns := [], harness := (true, "b4c16a529f7a96e491a34e35589645d671f5a5b7b6c6d1211790f5932a616869"), looks := true }, kinds := [], alts := [], laidByText := true, laidKinds := [.data, .data, .data, .data], laidTests := true, laidLooks := .later }
def FrameErrorsCardSaid : Prop := Claim7.holds Tryd.pinned (.plain (OpenSpec.ofChange frameErrorsSpec)) frameErrorsCard

/-- THE SECOND FORM's CARD OF 'helixlaw19.FrameBack'. -/
def frameBackUptoCard : Claim7 := { stood := { row := frameBackUptoRow, standIns := [], harness := (true, "b4c16a529f7a96e491a34e35589645d671f5a5b7b6c6d1211790f5932a616869"), looks := true }, kinds := [], alts := [], laidByText := true, laidKinds := [.data, .data, .data, .data], laidTests := true, laidLooks := .later }
def FrameBackUptoCardSaid : Prop := Claim7.holds Tryd.pinned (.plain (OpenSpec.upto frameBackSpec)) frameBackUptoCard

/-- THE SECOND FORM's CARD OF 'helixlaw19.FrameOnly'. -/
def frameOnlyUptoCard : Claim7 := { stood := { row := frameOnlyUptoRow, standIns := [], harness := (true, "b4c16a529f7a96e491a34e35589645d671f5a5b7b6c6d1211790f5932a616869"), looks := true }, kinds := [], alts := [], laidByText := true, laidKinds := [.data, .data, .data, .data], laidTests := true, laidLooks := .later }
def FrameOnlyUptoCardSaid : Prop := Claim7.holds Tryd.pinned (.plain (OpenSpec.upto frameOnlySpec)) frameOnlyUptoCard

/-- THE SECOND FORM's CARD OF 'helixlaw19.FrameErrors'. -/
def frameErrorsUptoCard : Claim7 := { stood := { row := frameErrorsUptoRow, standIns := [], harness := (true, "b4c16a529f7a96e491a34e35589645d671f5a5b7b6c6d1211790f5932a616869"), looks := true }, kinds := [], alts := [], laidByText := true, laidKinds := [.data, .data, .data, .data], laidTests := true, laidLooks := .later }
def FrameErrorsUptoCardSaid : Prop := Claim7.holds Tryd.pinned (.plain (OpenSpec.upto frameErrorsSpec)) frameErrorsUptoCard
end Rows
end Go.Proofs.YtjclfkbhakjdaaaDoor
