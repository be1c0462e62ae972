/-
  DERIVED. GIVEN WITH THE SEED: THE CARDS: each row of YtjfhbhidnlgabaaDoorRows.lean that lists a variable, with what it lists TIED to the program's text (the seventh form; the later family's looks); each row that meets fmt, with fmt's text TOLD by the authors' own Lean function (tested against real Go, not proved from fmt's source: count such statements apart). THE CARD IS WHAT COUNTS. Prove the row's statement (the work); the ties are given (YtjfhbhidnlgabaaDoorTie.lean); close each card by the builder's one call (the guide's Derived/Test/ToyasCard.lean, 'card_holds'). Laid BY PROGRAM, IN A SANDBOX (cutbox-door.mjs). By AI agents, Wed Nov 11 2026. No macro, syntax, notation, axiom, sorry.
-/
import Derived.Test.YtjfhbhidnlgabaaDoorRows
import GoSem.ClaimSeven
namespace Go.Proofs.YtjfhbhidnlgabaaDoor
namespace Rows

/-- THE TIED CARD OF 'helixlaw18.ShapeTells'. -/
def shapeTellsCard : Claim7 := { stood := { row := shapeTellsRow, standIns := [], harness := (true, "d9798bedcaedb888c213406fdd49aba86ffed30557d88290145c5257ff559c74"), looks := true }, kinds := [], alts := [], laidByText := true, laidKinds := [.data], laidTests := true, laidLooks := .later }
def ShapeTellsCardSaid : Prop := Claim7.holds Tryd.pinned (.plain (OpenSpec.ofChange shapeTellsSpec)) shapeTellsCard

/-- THE TIED CARD OF 'helixlaw18.ShapeAll'. -/
def shapeAllCard : Claim7 := { stood := { row := shapeAllRow, standIns := [], harness := (true, "d9798bedcaedb888c213406fdd49aba86ffed30557d88290145c5257ff559c74"), looks := true }, kinds := [], alts := [], laidByText := true, laidKinds := [.data], laidTests := true, laidLooks := .later }
def ShapeAllCardSaid : Prop := Claim7.holds Tryd.pinned (.plain (OpenSpec.ofChange shapeAllSpec)) shapeAllCard

/-- THE TIED CARD OF 'helixlaw18.ShapeEven'. -/
def shapeEvenCard : Claim7 := { stood := { row := shapeEvenRow, standIns := [], harness := (true, "d9798bedcaedb888c213406fdd49aba86ffed30557d88290145c5257ff559c74"), looks := true }, kinds := [], alts := [], laidByText := true, laidKinds := [.data], laidTests := true, laidLooks := .later }
def ShapeEvenCardSaid : Prop := Claim7.holds Tryd.pinned (.plain (OpenSpec.ofChange shapeEvenSpec)) shapeEvenCard

/-- THE TIED CARD OF 'helixlaw18.ShapeMore'. -/
def shapeMoreCard : Claim7 := { stood := { row := shapeMoreRow, standIns := [], harness := (true, "d9798bedcaedb888c213406fdd49aba86ffed30557d88290145c5257ff559c74"), looks := true }, kinds := [], alts := [], laidByText := true, laidKinds := [.data], laidTests := true, laidLooks := .later }
def ShapeMoreCardSaid : Prop := Claim7.holds Tryd.pinned (.plain (OpenSpec.ofChange shapeMoreSpec)) shapeMoreCard

/-- THE SECOND FORM's CARD OF 'helixlaw18.ShapeTells'. -/
def shapeTellsUptoCard : Claim7 := { stood := { row := shapeTellsUptoRow, standIns := [], harness := (true, "d9798bedcaedb888c213406fdd49aba86ffed30557d88290145c5257ff559c74"), looks := true }, kinds := [], alts := [], laidByText := true, laidKinds := [.data], laidTests := true, laidLooks := .later }
def ShapeTellsUptoCardSaid : Prop := Claim7.holds Tryd.pinned (.plain (OpenSpec.upto shapeTellsSpec)) shapeTellsUptoCard

/-- THE SECOND FORM's CARD OF 'helixlaw18.ShapeAll'. -/
def shapeAllUptoCard : Claim7 := { stood := { row := shapeAllUptoRow, standIns := [], harness := (true, "d9798bedcaedb888c213406fdd49aba86ffed30557d88290145c5257ff559c74"), looks := true }, kinds := [], alts := [], laidByText := true, laidKinds := [.data], laidTests := true, laidLooks := .later }
def ShapeAllUptoCardSaid : Prop := Claim7.holds Tryd.pinned (.plain (OpenSpec.upto shapeAllSpec)) shapeAllUptoCard

/-- THE SECOND FORM's CARD OF 'helixlaw18.ShapeEven'. -/
def shapeEvenUptoCard : Claim7 := { stood := { row := shapeEvenUptoRow, standIns := [], harness := (true, "d9798bedcaedb888c213406fdd49aba86ffed30557d88290145c5257ff559c74"), looks := true }, kinds := [], alts := [], laidByText := true, laidKinds := [.data], laidTests := true, laidLooks := .later }
def ShapeEvenUptoCardSaid : Prop := Claim7.holds Tryd.pinned (.plain (OpenSpec.upto shapeEvenSpec)) shapeEvenUptoCard

/-- THE SECOND FORM's CARD OF 'helixlaw18.ShapeMore'. -/
def shapeMoreUptoCard : Claim7 := { stood := { row := shapeMoreUptoRow, standIns := [], harness := (true, "d9798bedcaedb888c213406fdd49aba86ffed30557d88290145c5257ff559c74"), looks := true }, kinds := [], alts := [], laidByText := true, laidKinds := [.data], laidTests := true, laidLooks := .later }
def ShapeMoreUptoCardSaid : Prop := Claim7.holds Tryd.pinned (.plain (OpenSpec.upto shapeMoreSpec)) shapeMoreUptoCard
end Rows
end Go.Proofs.YtjfhbhidnlgabaaDoor
