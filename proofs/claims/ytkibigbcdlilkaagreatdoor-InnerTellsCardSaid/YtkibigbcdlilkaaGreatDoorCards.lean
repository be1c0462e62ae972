/-
  DERIVED. GIVEN WITH THE SEED: THE CARDS: each row of YtkibigbcdlilkaaGreatDoorRows.lean that lists a variable, with what it lists TIED to the program's text (the seventh form; the later family's looks); each row that meets fmt, with fmt's text TOLD by the authors' own Lean function (tested against real Go, not proved from fmt's source: count such statements apart). THE CARD IS WHAT COUNTS. Prove the row's statement (the work); the ties are given (YtkibigbcdlilkaaGreatDoorTie.lean); close each card by the builder's one call (the guide's Derived/Test/ToyasCard.lean, 'card_holds'). Laid BY PROGRAM, IN A SANDBOX (cutbox-door.mjs). By AI agents, Wed Nov 11 2026. No macro, syntax, notation, axiom, sorry.
-/
import Derived.Test.YtkibigbcdlilkaaGreatDoorRows
import GoSem.ClaimSeven
namespace Go.Proofs.YtkibigbcdlilkaaGreatDoor
namespace Rows

/-- THE TIED CARD OF 'helixlaw17.InnerTells'. -/
def innerTellsCard : Claim7 := { stood := { row := innerTellsRow, standIns := [], harness := (true, "92127294ddb647d749af2b104fad8cf99e3ecf98ddbfbfa2917d97209365b97e"), looks := true }, kinds := [], alts := [], laidByText := true, laidKinds := [.data, .data, .data], laidTests := true, laidLooks := .later }
def InnerTellsCardSaid : Prop := Claim7.holds Tryz.pinned (.plain (OpenSpec.ofChange innerTellsSpec)) innerTellsCard

/-- THE TIED CARD OF 'helixlaw17.InnerMends'. -/
def innerMendsCard : Claim7 := { stood := { row := innerMendsRow, standIns := [], harness := (true, "92127294ddb647d749af2b104fad8cf99e3ecf98ddbfbfa2917d97209365b97e"), looks := true }, kinds := [], alts := [], laidByText := true, laidKinds := [.data, .data, .data], laidTests := true, laidLooks := .later }
def InnerMendsCardSaid : Prop := Claim7.holds Tryz.pinned (.plain (OpenSpec.ofChange innerMendsSpec)) innerMendsCard

/-- THE TIED CARD OF 'helixlaw17.InnerAll'. -/
def innerAllCard : Claim7 := { stood := { row := innerAllRow, standIns := [], harness := (true, "92127294ddb647d749af2b104fad8cf99e3ecf98ddbfbfa2917d97209365b97e"), looks := true }, kinds := [], alts := [], laidByText := true, laidKinds := [.data, .data, .data], laidTests := true, laidLooks := .later }
def InnerAllCardSaid : Prop := Claim7.holds Tryz.pinned (.plain (OpenSpec.ofChange innerAllSpec)) innerAllCard

/-- THE TIED CARD OF 'helixlaw17.InnerNear'. -/
def innerNearCard : Claim7 := { stood := { row := innerNearRow, standIns := [], harness := (true, "92127294ddb647d749af2b104fad8cf99e3ecf98ddbfbfa2917d97209365b97e"), looks := true }, kinds := [], alts := [], laidByText := true, laidKinds := [.data, .data, .data], laidTests := true, laidLooks := .later }
def InnerNearCardSaid : Prop := Claim7.holds Tryz.pinned (.plain (OpenSpec.ofChange innerNearSpec)) innerNearCard

/-- THE TIED CARD OF 'helixlaw17.InnerApart'. -/
def innerApartCard : Claim7 := { stood := { row := innerApartRow, standIns := [], harness := (true, "92127294ddb647d749af2b104fad8cf99e3ecf98ddbfbfa2917d97209365b97e"), looks := true }, kinds := [], alts := [], laidByText := true, laidKinds := [.data, .data, .data], laidTests := true, laidLooks := .later }
def InnerApartCardSaid : Prop := Claim7.holds Tryz.pinned (.plain (OpenSpec.ofChange innerApartSpec)) innerApartCard

/-- THE SECOND FORM's CARD OF 'helixlaw17.InnerTells'. -/
def innerTellsUptoCard : Claim7 := { stood := { row := innerTellsUptoRow, standIns := [], harness := (true, "92127294ddb647d749af2b104fad8cf99e3ecf98ddbfbfa2917d97209365b97e"), looks := true }, kinds := [], alts := [], laidByText := true, laidKinds := [.data, .data, .data], laidTests := true, laidLooks := .later }
def InnerTellsUptoCardSaid : Prop := Claim7.holds Tryz.pinned (.plain (OpenSpec.upto innerTellsSpec)) innerTellsUptoCard

/-- THE SECOND FORM's CARD OF 'helixlaw17.InnerMends'. -/
def innerMendsUptoCard : Claim7 := { stood := { row := innerMendsUptoRow, standIns := [], harness := (true, "92127294ddb647d749af2b104fad8cf99e3ecf98ddbfbfa2917d97209365b97e"), looks := true }, kinds := [], alts := [], laidByText := true, laidKinds := [.data, .data, .data], laidTests := true, laidLooks := .later }
def InnerMendsUptoCardSaid : Prop := Claim7.holds Tryz.pinned (.plain (OpenSpec.upto innerMendsSpec)) innerMendsUptoCard

/-- THE SECOND FORM's CARD OF 'helixlaw17.InnerAll'. -/
def innerAllUptoCard : Claim7 := { stood := { row := innerAllUptoRow, standIns := [], harness := (true, "92127294ddb647d749af2b104fad8cf99e3ecf98ddbfbfa2917d97209365b97e"), looks := true }, kinds := [], alts := [], laidByText := true, laidKinds := [.data, .data, .data], laidTests := true, laidLooks := .later }
def InnerAllUptoCardSaid : Prop := Claim7.holds Tryz.pinned (.plain (OpenSpec.upto innerAllSpec)) innerAllUptoCard

/-- THE SECOND FORM's CARD OF 'helixlaw17.InnerNear'. -/
def innerNearUptoCard : Claim7 := { stood := { row := innerNearUptoRow, standIns := [], harness := (true, "92127294ddb647d749af2b104fad8cf99e3ecf98ddbfbfa2917d97209365b97e"), looks := true }, kinds := [], alts := [], laidByText := true, laidKinds := [.data, .data, .data], laidTests := true, laidLooks := .later }
def InnerNearUptoCardSaid : Prop := Claim7.holds Tryz.pinned (.plain (OpenSpec.upto innerNearSpec)) innerNearUptoCard

/-- THE SECOND FORM's CARD OF 'helixlaw17.InnerApart'. -/
def innerApartUptoCard : Claim7 := { stood := { row := innerApartUptoRow, standIns := [], harness := (true, "92127294ddb647d749af2b104fad8cf99e3ecf98ddbfbfa2917d97209365b97e"), looks := true }, kinds := [], alts := [], laidByText := true, laidKinds := [.data, .data, .data], laidTests := true, laidLooks := .later }
def InnerApartUptoCardSaid : Prop := Claim7.holds Tryz.pinned (.plain (OpenSpec.upto innerApartSpec)) innerApartUptoCard
end Rows
end Go.Proofs.YtkibigbcdlilkaaGreatDoor
