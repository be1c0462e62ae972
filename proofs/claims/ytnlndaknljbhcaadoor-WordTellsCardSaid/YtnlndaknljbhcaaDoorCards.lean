/-
  DERIVED. GIVEN WITH THE SEED: THE CARDS: each row of YtnlndaknljbhcaaDoorRows.lean that lists a variable, with what it lists TIED to the program's text (the seventh form; the later family's looks); each row that meets fmt, with fmt's text TOLD by the authors' own Lean function (tested against real Go, not proved from fmt's source: count such statements apart). THE CARD IS WHAT COUNTS. Prove the row's statement (the work); the ties are given (YtnlndaknljbhcaaDoorTie.lean); close each card by the builder's one call (the guide's Derived/Test/ToyasCard.lean, 'card_holds'). Laid BY PROGRAM, IN A SANDBOX (cutbox-door.mjs). By AI agents, Wed Nov 11 2026. No macro, syntax, notation, axiom, sorry.
-/
import Derived.Test.YtnlndaknljbhcaaDoorRows
import GoSem.ClaimSeven
namespace Go.Proofs.YtnlndaknljbhcaaDoor
namespace Rows

/-- THE TIED CARD OF 'helixlaw16.WordTells'. -/
def wordTellsCard : Claim7 := { stood := { row := wordTellsRow, standIns := [], harness := (true, "af3f1cac6b17c4e2feb397ea206a4baf58db8a05433f2014ccbe354fbed2d20d"), looks := true }, kinds := [], alts := [], laidByText := true, laidKinds := [.data, .data], laidTests := true, laidLooks := .later }
def WordTellsCardSaid : Prop := Claim7.holds Tryd.pinned (.plain (OpenSpec.ofChange wordTellsSpec)) wordTellsCard

/-- THE TIED CARD OF 'helixlaw16.WordApart'. -/
def wordApartCard : Claim7 := { stood := { row := wordApartRow, standIns := [], harness := (true, "af3f1cac6b17c4e2feb397ea206a4baf58db8a05433f2014ccbe354fbed2d20d"), looks := true }, kinds := [], alts := [], laidByText := true, laidKinds := [.data, .data], laidTests := true, laidLooks := .later }
def WordApartCardSaid : Prop := Claim7.holds Tryd.pinned (.plain (OpenSpec.ofChange wordApartSpec)) wordApartCard

/-- THE TIED CARD OF 'helixlaw16.WordFar'. -/
def wordFarCard : Claim7 := { stood := { row := wordFarRow, standIns := [], harness := (true, "af3f1cac6b17c4e2feb397ea206a4baf58db8a05433f2014ccbe354fbed2d20d"), looks := true }, kinds := [], alts := [], laidByText := true, laidKinds := [.data, .data], laidTests := true, laidLooks := .later }
def WordFarCardSaid : Prop := Claim7.holds Tryd.pinned (.plain (OpenSpec.ofChange wordFarSpec)) wordFarCard

/-- THE TIED CARD OF 'helixlaw16.WordNear'. -/
def wordNearCard : Claim7 := { stood := { row := wordNearRow, standIns := [], harness := (true, "af3f1cac6b17c4e2feb397ea206a4baf58db8a05433f2014ccbe354fbed2d20d"), looks := true }, kinds := [], alts := [], laidByText := true, laidKinds := [.data, .data], laidTests := true, laidLooks := .later }
def WordNearCardSaid : Prop := Claim7.holds Tryd.pinned (.plain (OpenSpec.ofChange wordNearSpec)) wordNearCard

/-- THE TIED CARD OF 'helixlaw16.WordParts'. -/
def wordPartsCard : Claim7 := { stood := { row := wordPartsRow, standIns := [], harness := (true, "af3f1cac6b17c4e2feb397ea206a4baf58db8a05433f2014ccbe354fbed2d20d"), looks := true }, kinds := [], alts := [], laidByText := true, laidKinds := [.data, .data], laidTests := true, laidLooks := .later }
def WordPartsCardSaid : Prop := Claim7.holds Tryd.pinned (.plain (OpenSpec.ofChange wordPartsSpec)) wordPartsCard

/-- THE SECOND FORM's CARD OF 'helixlaw16.WordTells'. -/
def wordTellsUptoCard : Claim7 := { stood := { row := wordTellsUptoRow, standIns := [], harness := (true, "af3f1cac6b17c4e2feb397ea206a4baf58db8a05433f2014ccbe354fbed2d20d"), looks := true }, kinds := [], alts := [], laidByText := true, laidKinds := [.data, .data], laidTests := true, laidLooks := .later }
def WordTellsUptoCardSaid : Prop := Claim7.holds Tryd.pinned (.plain (OpenSpec.upto wordTellsSpec)) wordTellsUptoCard

/-- THE SECOND FORM's CARD OF 'helixlaw16.WordApart'. -/
def wordApartUptoCard : Claim7 := { stood := { row := wordApartUptoRow, standIns := [], harness := (true, "af3f1cac6b17c4e2feb397ea206a4baf58db8a05433f2014ccbe354fbed2d20d"), looks := true }, kinds := [], alts := [], laidByText := true, laidKinds := [.data, .data], laidTests := true, laidLooks := .later }
def WordApartUptoCardSaid : Prop := Claim7.holds Tryd.pinned (.plain (OpenSpec.upto wordApartSpec)) wordApartUptoCard

/-- THE SECOND FORM's CARD OF 'helixlaw16.WordFar'. -/
def wordFarUptoCard : Claim7 := { stood := { row := wordFarUptoRow, standIns := [], harness := (true, "af3f1cac6b17c4e2feb397ea206a4baf58db8a05433f2014ccbe354fbed2d20d"), looks := true }, kinds := [], alts := [], laidByText := true, laidKinds := [.data, .data], laidTests := true, laidLooks := .later }
def WordFarUptoCardSaid : Prop := Claim7.holds Tryd.pinned (.plain (OpenSpec.upto wordFarSpec)) wordFarUptoCard

/-- THE SECOND FORM's CARD OF 'helixlaw16.WordNear'. -/
def wordNearUptoCard : Claim7 := { stood := { row := wordNearUptoRow, standIns := [], harness := (true, "af3f1cac6b17c4e2feb397ea206a4baf58db8a05433f2014ccbe354fbed2d20d"), looks := true }, kinds := [], alts := [], laidByText := true, laidKinds := [.data, .data], laidTests := true, laidLooks := .later }
def WordNearUptoCardSaid : Prop := Claim7.holds Tryd.pinned (.plain (OpenSpec.upto wordNearSpec)) wordNearUptoCard

/-- THE SECOND FORM's CARD OF 'helixlaw16.WordParts'. -/
def wordPartsUptoCard : Claim7 := { stood := { row := wordPartsUptoRow, standIns := [], harness := (true, "af3f1cac6b17c4e2feb397ea206a4baf58db8a05433f2014ccbe354fbed2d20d"), looks := true }, kinds := [], alts := [], laidByText := true, laidKinds := [.data, .data], laidTests := true, laidLooks := .later }
def WordPartsUptoCardSaid : Prop := Claim7.holds Tryd.pinned (.plain (OpenSpec.upto wordPartsSpec)) wordPartsUptoCard
end Rows
end Go.Proofs.YtnlndaknljbhcaaDoor
