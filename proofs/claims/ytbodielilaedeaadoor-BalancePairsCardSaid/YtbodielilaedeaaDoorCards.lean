/-
  DERIVED. GIVEN WITH THE SEED: THE CARDS: each row of YtbodielilaedeaaDoorRows.lean that lists a variable, with what it lists TIED to the program's text (the seventh form; the later family's looks); each row that meets fmt, with fmt's text TOLD by the authors' own Lean function (tested against real Go, not proved from fmt's source: count such statements apart). THE CARD IS WHAT COUNTS. Prove the row's statement (the work); the ties are given (YtbodielilaedeaaDoorTie.lean); close each card by the builder's one call (the guide's Derived/Test/ToyasCard.lean, 'card_holds'). Laid BY PROGRAM, IN A SANDBOX (cutbox-door.mjs). By AI agents, Wed Nov 11 2026. No macro, syntax, notation, axiom, sorry.
-/
import Derived.Test.YtbodielilaedeaaDoorRows
import GoSem.ClaimSeven
namespace Go.Proofs.YtbodielilaedeaaDoor
namespace Rows

/-- THE TIED CARD OF 'helixlaw10.BalanceAlways'. -/
def balanceAlwaysCard : Claim7 := { stood := { row := balanceAlwaysRow, standIns := [], harness := (true, "0cf9d88c8e7c09a18c2f89da0b7d13a0fc4048818715dc38c26bbea642adba3d"), looks := true }, kinds := [], alts := [], laidByText := true, laidKinds := [.data, .data], laidTests := true, laidLooks := .later }
def BalanceAlwaysCardSaid : Prop := Claim7.holds Tryd.pinned (.plain (OpenSpec.ofChange balanceAlwaysSpec)) balanceAlwaysCard

/-- THE TIED CARD OF 'helixlaw10.BalancePairs'. -/
def balancePairsCard : Claim7 := { stood := { row := balancePairsRow, standIns := [], harness := (true, "0cf9d88c8e7c09a18c2f89da0b7d13a0fc4048818715dc38c26bbea642adba3d"), looks := true }, kinds := [], alts := [], laidByText := true, laidKinds := [.data, .data], laidTests := true, laidLooks := .later }
def BalancePairsCardSaid : Prop := Claim7.holds Tryd.pinned (.plain (OpenSpec.ofChange balancePairsSpec)) balancePairsCard

/-- THE TIED CARD OF 'helixlaw10.BalanceWidth'. -/
def balanceWidthCard : Claim7 := { stood := { row := balanceWidthRow, standIns := [], harness := (true, "0cf9d88c8e7c09a18c2f89da0b7d13a0fc4048818715dc38c26bbea642adba3d"), looks := true }, kinds := [], alts := [], laidByText := true, laidKinds := [.data, .data], laidTests := true, laidLooks := .later }
def BalanceWidthCardSaid : Prop := Claim7.holds Tryd.pinned (.plain (OpenSpec.ofChange balanceWidthSpec)) balanceWidthCard

/-- THE SECOND FORM's CARD OF 'helixlaw10.BalanceAlways'. -/
def balanceAlwaysUptoCard : Claim7 := { stood := { row := balanceAlwaysUptoRow, standIns := [], harness := (true, "0cf9d88c8e7c09a18c2f89da0b7d13a0fc4048818715dc38c26bbea642adba3d"), looks := true }, kinds := [], alts := [], laidByText := true, laidKinds := [.data, .data], laidTests := true, laidLooks := .later }
def BalanceAlwaysUptoCardSaid : Prop := Claim7.holds Tryd.pinned (.plain (OpenSpec.upto balanceAlwaysSpec)) balanceAlwaysUptoCard

/-- THE SECOND FORM's CARD OF 'helixlaw10.BalancePairs'. -/
def balancePairsUptoCard : Claim7 := { stood := { row := balancePairsUptoRow, standIns := [], harness := (true, "0cf9d88c8e7c09a18c2f89da0b7d13a0fc4048818715dc38c26bbea642adba3d"), looks := true }, kinds := [], alts := [], laidByText := true, laidKinds := [.data, .data], laidTests := true, laidLooks := .later }
def BalancePairsUptoCardSaid : Prop := Claim7.holds Tryd.pinned (.plain (OpenSpec.upto balancePairsSpec)) balancePairsUptoCard

/-- THE SECOND FORM's CARD OF 'helixlaw10.BalanceWidth'. -/
def balanceWidthUptoCard : Claim7 := { stood := { row := balanceWidthUptoRow, standIns := [], harness := (true, "0cf9d88c8e7c09a18c2f89da0b7d13a0fc4048818715dc38c26bbea642adba3d"), looks := true }, kinds := [], alts := [], laidByText := true, laidKinds := [.data, .data], laidTests := true, laidLooks := .later }
def BalanceWidthUptoCardSaid : Prop := Claim7.holds Tryd.pinned (.plain (OpenSpec.upto balanceWidthSpec)) balanceWidthUptoCard
end Rows
end Go.Proofs.YtbodielilaedeaaDoor
