/-
  DERIVED. GIVEN WITH THE SEED: THE CARDS: each row of YtcngnjkpnmpcpaaDoorRows.lean that lists a variable, with what it lists TIED to the program's text (the seventh form; the later family's looks); each row that meets fmt, with fmt's text TOLD by the authors' own Lean function (tested against real Go, not proved from fmt's source: count such statements apart). THE CARD IS WHAT COUNTS. Prove the row's statement (the work); the ties are given (YtcngnjkpnmpcpaaDoorTie.lean); close each card by the builder's one call (the guide's Derived/Test/ToyasCard.lean, 'card_holds'). Laid BY PROGRAM, IN A SANDBOX (cutbox-door.mjs). By AI agents, Wed Nov 11 2026. No macro, syntax, notation, axiom, sorry.
-/
import Derived.Test.YtcngnjkpnmpcpaaDoorRows
import GoSem.ClaimSeven
namespace Go.Proofs.YtcngnjkpnmpcpaaDoor
namespace Rows

/-- THE TIED CARD OF 'helixlaw20.PrimersTells'. -/
def primersTellsCard : Claim7 := { stood := { row := primersTellsRow, standIns := [], harness := (true, "d78b3dda3247acc28c6eac90aa343ecc1199dda9b7befdc48cadd8a07a36962e"), looks := true }, kinds := [], alts := [], laidByText := true, laidKinds := [.data], laidTests := true, laidLooks := .later }
def PrimersTellsCardSaid : Prop := Claim7.holds Tryd.pinned (.plain (OpenSpec.ofChange primersTellsSpec)) primersTellsCard

/-- THE TIED CARD OF 'helixlaw20.PrimersOnce'. -/
def primersOnceCard : Claim7 := { stood := { row := primersOnceRow, standIns := [], harness := (true, "d78b3dda3247acc28c6eac90aa343ecc1199dda9b7befdc48cadd8a07a36962e"), looks := true }, kinds := [], alts := [], laidByText := true, laidKinds := [.data], laidTests := true, laidLooks := .later }
def PrimersOnceCardSaid : Prop := Claim7.holds Tryd.pinned (.plain (OpenSpec.ofChange primersOnceSpec)) primersOnceCard

/-- THE TIED CARD OF 'helixlaw20.PrimersEdits'. -/
def primersEditsCard : Claim7 := { stood := { row := primersEditsRow, standIns := [], harness := (true, "d78b3dda3247acc28c6eac90aa343ecc1199dda9b7befdc48cadd8a07a36962e"), looks := true }, kinds := [], alts := [], laidByText := true, laidKinds := [.data], laidTests := true, laidLooks := .later }
def PrimersEditsCardSaid : Prop := Claim7.holds Tryd.pinned (.plain (OpenSpec.ofChange primersEditsSpec)) primersEditsCard

/-- THE TIED CARD OF 'helixlaw20.PrimersMay'. -/
def primersMayCard : Claim7 := { stood := { row := primersMayRow, standIns := [], harness := (true, "d78b3dda3247acc28c6eac90aa343ecc1199dda9b7befdc48cadd8a07a36962e"), looks := true }, kinds := [], alts := [], laidByText := true, laidKinds := [.data], laidTests := true, laidLooks := .later }
def PrimersMayCardSaid : Prop := Claim7.holds Tryd.pinned (.plain (OpenSpec.ofChange primersMaySpec)) primersMayCard

/-- THE TIED CARD OF 'helixlaw20.PrimersOne'. -/
def primersOneCard : Claim7 := { stood := { row := primersOneRow, standIns := [], harness := (true, "d78b3dda3247acc28c6eac90aa343ecc1199dda9b7befdc48cadd8a07a36962e"), looks := true }, kinds := [], alts := [], laidByText := true, laidKinds := [.data], laidTests := true, laidLooks := .later }
def PrimersOneCardSaid : Prop := Claim7.holds Tryd.pinned (.plain (OpenSpec.ofChange primersOneSpec)) primersOneCard

/-- THE SECOND FORM's CARD OF 'helixlaw20.PrimersTells'. -/
def primersTellsUptoCard : Claim7 := { stood := { row := primersTellsUptoRow, standIns := [], harness := (true, "d78b3dda3247acc28c6eac90aa343ecc1199dda9b7befdc48cadd8a07a36962e"), looks := true }, kinds := [], alts := [], laidByText := true, laidKinds := [.data], laidTests := true, laidLooks := .later }
def PrimersTellsUptoCardSaid : Prop := Claim7.holds Tryd.pinned (.plain (OpenSpec.upto primersTellsSpec)) primersTellsUptoCard

/-- THE SECOND FORM's CARD OF 'helixlaw20.PrimersOnce'. -/
def primersOnceUptoCard : Claim7 := { stood := { row := primersOnceUptoRow, standIns := [], harness := (true, "d78b3dda3247acc28c6eac90aa343ecc1199dda9b7befdc48cadd8a07a36962e"), looks := true }, kinds := [], alts := [], laidByText := true, laidKinds := [.data], laidTests := true, laidLooks := .later }
def PrimersOnceUptoCardSaid : Prop := Claim7.holds Tryd.pinned (.plain (OpenSpec.upto primersOnceSpec)) primersOnceUptoCard

/-- THE SECOND FORM's CARD OF 'helixlaw20.PrimersEdits'. -/
def primersEditsUptoCard : Claim7 := { stood := { row := primersEditsUptoRow, standIns := [], harness := (true, "d78b3dda3247acc28c6eac90aa343ecc1199dda9b7befdc48cadd8a07a36962e"), looks := true }, kinds := [], alts := [], laidByText := true, laidKinds := [.data], laidTests := true, laidLooks := .later }
def PrimersEditsUptoCardSaid : Prop := Claim7.holds Tryd.pinned (.plain (OpenSpec.upto primersEditsSpec)) primersEditsUptoCard

/-- THE SECOND FORM's CARD OF 'helixlaw20.PrimersMay'. -/
def primersMayUptoCard : Claim7 := { stood := { row := primersMayUptoRow, standIns := [], harness := (true, "d78b3dda3247acc28c6eac90aa343ecc1199dda9b7befdc48cadd8a07a36962e"), looks := true }, kinds := [], alts := [], laidByText := true, laidKinds := [.data], laidTests := true, laidLooks := .later }
def PrimersMayUptoCardSaid : Prop := Claim7.holds Tryd.pinned (.plain (OpenSpec.upto primersMaySpec)) primersMayUptoCard

/-- THE SECOND FORM's CARD OF 'helixlaw20.PrimersOne'. -/
def primersOneUptoCard : Claim7 := { stood := { row := primersOneUptoRow, standIns := [], harness := (true, "d78b3dda3247acc28c6eac90aa343ecc1199dda9b7befdc48cadd8a07a36962e"), looks := true }, kinds := [], alts := [], laidByText := true, laidKinds := [.data], laidTests := true, laidLooks := .later }
def PrimersOneUptoCardSaid : Prop := Claim7.holds Tryd.pinned (.plain (OpenSpec.upto primersOneSpec)) primersOneUptoCard
end Rows
end Go.Proofs.YtcngnjkpnmpcpaaDoor
