/-
  DERIVED. GIVEN WITH THE SEED: THE CARDS: each row of YtpjpfgahjalggaaDoorRows.lean that lists a variable, with what it lists TIED to the program's text (the seventh form; the later family's looks); each row that meets fmt, with fmt's text TOLD by the authors' own Lean function (tested against real Go, not proved from fmt's source: count such statements apart). THE CARD IS WHAT COUNTS. Prove the row's statement (the work); the ties are given (YtpjpfgahjalggaaDoorTie.lean); close each card by the builder's one call (the guide's Derived/Test/ToyasCard.lean, 'card_holds'). Laid BY PROGRAM, IN A SANDBOX (cutbox-door.mjs). By AI agents, Wed Nov 11 2026. No macro, syntax, notation, axiom, sorry.
-/
import Derived.Test.YtpjpfgahjalggaaDoorRows
import GoSem.ClaimSeven
namespace Go.Proofs.YtpjpfgahjalggaaDoor
namespace Rows

/-- THE TIED CARD OF 'helixlaw14.ExtraTells'. -/
def extraTellsCard : Claim7 := { stood := { row := extraTellsRow, standIns := [], harness := (true, "94071142a636ee0b52698e0551e52d271c7b8c8af14a85542ea543455ee060a1"), looks := true }, kinds := [], alts := [], laidByText := true, laidKinds := [.data], laidTests := true, laidLooks := .later }
def ExtraTellsCardSaid : Prop := Claim7.holds Tryd.pinned (.plain (OpenSpec.ofChange extraTellsSpec)) extraTellsCard

/-- THE TIED CARD OF 'helixlaw14.ExtraFinds'. -/
def extraFindsCard : Claim7 := { stood := { row := extraFindsRow, standIns := [], harness := (true, "94071142a636ee0b52698e0551e52d271c7b8c8af14a85542ea543455ee060a1"), looks := true }, kinds := [], alts := [], laidByText := true, laidKinds := [.data], laidTests := true, laidLooks := .later }
def ExtraFindsCardSaid : Prop := Claim7.holds Tryd.pinned (.plain (OpenSpec.ofChange extraFindsSpec)) extraFindsCard

/-- THE TIED CARD OF 'helixlaw14.ExtraOne'. -/
def extraOneCard : Claim7 := { stood := { row := extraOneRow, standIns := [], harness := (true, "94071142a636ee0b52698e0551e52d271c7b8c8af14a85542ea543455ee060a1"), looks := true }, kinds := [], alts := [], laidByText := true, laidKinds := [.data], laidTests := true, laidLooks := .later }
def ExtraOneCardSaid : Prop := Claim7.holds Tryd.pinned (.plain (OpenSpec.ofChange extraOneSpec)) extraOneCard

/-- THE TIED CARD OF 'helixlaw14.ExtraRuns'. -/
def extraRunsCard : Claim7 := { stood := { row := extraRunsRow, standIns := [], harness := (true, "94071142a636ee0b52698e0551e52d271c7b8c8af14a85542ea543455ee060a1"), looks := true }, kinds := [], alts := [], laidByText := true, laidKinds := [.data], laidTests := true, laidLooks := .later }
def ExtraRunsCardSaid : Prop := Claim7.holds Tryd.pinned (.plain (OpenSpec.ofChange extraRunsSpec)) extraRunsCard

/-- THE SECOND FORM's CARD OF 'helixlaw14.ExtraTells'. -/
def extraTellsUptoCard : Claim7 := { stood := { row := extraTellsUptoRow, standIns := [], harness := (true, "94071142a636ee0b52698e0551e52d271c7b8c8af14a85542ea543455ee060a1"), looks := true }, kinds := [], alts := [], laidByText := true, laidKinds := [.data], laidTests := true, laidLooks := .later }
def ExtraTellsUptoCardSaid : Prop := Claim7.holds Tryd.pinned (.plain (OpenSpec.upto extraTellsSpec)) extraTellsUptoCard

/-- THE SECOND FORM's CARD OF 'helixlaw14.ExtraFinds'. -/
def extraFindsUptoCard : Claim7 := { stood := { row := extraFindsUptoRow, standIns := [], harness := (true, "94071142a636ee0b52698e0551e52d271c7b8c8af14a85542ea543455ee060a1"), looks := true }, kinds := [], alts := [], laidByText := true, laidKinds := [.data], laidTests := true, laidLooks := .later }
def ExtraFindsUptoCardSaid : Prop := Claim7.holds Tryd.pinned (.plain (OpenSpec.upto extraFindsSpec)) extraFindsUptoCard

/-- THE SECOND FORM's CARD OF 'helixlaw14.ExtraOne'. -/
def extraOneUptoCard : Claim7 := { stood := { row := extraOneUptoRow, standIns := [], harness := (true, "94071142a636ee0b52698e0551e52d271c7b8c8af14a85542ea543455ee060a1"), looks := true }, kinds := [], alts := [], laidByText := true, laidKinds := [.data], laidTests := true, laidLooks := .later }
def ExtraOneUptoCardSaid : Prop := Claim7.holds Tryd.pinned (.plain (OpenSpec.upto extraOneSpec)) extraOneUptoCard

/-- THE SECOND FORM's CARD OF 'helixlaw14.ExtraRuns'. -/
def extraRunsUptoCard : Claim7 := { stood := { row := extraRunsUptoRow, standIns := [], harness := (true, "94071142a636ee0b52698e0551e52d271c7b8c8af14a85542ea543455ee060a1"), looks := true }, kinds := [], alts := [], laidByText := true, laidKinds := [.data], laidTests := true, laidLooks := .later }
def ExtraRunsUptoCardSaid : Prop := Claim7.holds Tryd.pinned (.plain (OpenSpec.upto extraRunsSpec)) extraRunsUptoCard
end Rows
end Go.Proofs.YtpjpfgahjalggaaDoor
