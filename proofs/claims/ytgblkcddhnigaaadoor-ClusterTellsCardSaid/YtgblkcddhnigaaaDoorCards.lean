/-
  DERIVED. GIVEN WITH THE SEED: THE CARDS: each row of YtgblkcddhnigaaaDoorRows.lean that lists a variable, with what it lists TIED to the program's text (the seventh form; the later family's looks); each row that meets fmt, with fmt's text TOLD by the authors' own Lean function (tested against real Go, not proved from fmt's source: count such statements apart). THE CARD IS WHAT COUNTS. Prove the row's statement (the work); the ties are given (YtgblkcddhnigaaaDoorTie.lean); close each card by the builder's one call (the guide's Derived/Test/ToyasCard.lean, 'card_holds'). Laid BY PROGRAM, IN A SANDBOX (cutbox-door.mjs). By AI agents, Wed Nov 11 2026. No macro, syntax, notation, axiom, sorry.
-/
import Derived.Test.YtgblkcddhnigaaaDoorRows
import GoSem.ClaimSeven
namespace Go.Proofs.YtgblkcddhnigaaaDoor
namespace Rows

/-- THE TIED CARD OF 'helixlaw26.ClusterTells'. -/
def clusterTellsCard : Claim7 := { stood := { row := clusterTellsRow, standIns := [], harness := (true, "6c7f19956d35a607ce41d0ba237c28f67d90bae1e46aacb01f40646c9415a71b"), looks := true }, kinds := [], alts := [], laidByText := true, laidKinds := [.data], laidTests := true, laidLooks := .later }
def ClusterTellsCardSaid : Prop := Claim7.holds Tryd.pinned (.plain (OpenSpec.ofChange clusterTellsSpec)) clusterTellsCard

/-- THE TIED CARD OF 'helixlaw26.ClusterOrder'. -/
def clusterOrderCard : Claim7 := { stood := { row := clusterOrderRow, standIns := [], harness := (true, "6c7f19956d35a607ce41d0ba237c28f67d90bae1e46aacb01f40646c9415a71b"), looks := true }, kinds := [], alts := [], laidByText := true, laidKinds := [.data], laidTests := true, laidLooks := .later }
def ClusterOrderCardSaid : Prop := Claim7.holds Tryd.pinned (.plain (OpenSpec.ofChange clusterOrderSpec)) clusterOrderCard

/-- THE TIED CARD OF 'helixlaw26.ClusterOnce'. -/
def clusterOnceCard : Claim7 := { stood := { row := clusterOnceRow, standIns := [], harness := (true, "6c7f19956d35a607ce41d0ba237c28f67d90bae1e46aacb01f40646c9415a71b"), looks := true }, kinds := [], alts := [], laidByText := true, laidKinds := [.data], laidTests := true, laidLooks := .later }
def ClusterOnceCardSaid : Prop := Claim7.holds Tryd.pinned (.plain (OpenSpec.ofChange clusterOnceSpec)) clusterOnceCard

/-- THE TIED CARD OF 'helixlaw26.ClusterClean'. -/
def clusterCleanCard : Claim7 := { stood := { row := clusterCleanRow, standIns := [], harness := (true, "6c7f19956d35a607ce41d0ba237c28f67d90bae1e46aacb01f40646c9415a71b"), looks := true }, kinds := [], alts := [], laidByText := true, laidKinds := [.data], laidTests := true, laidLooks := .later }
def ClusterCleanCardSaid : Prop := Claim7.holds Tryd.pinned (.plain (OpenSpec.ofChange clusterCleanSpec)) clusterCleanCard

/-- THE TIED CARD OF 'helixlaw26.ClusterMore'. -/
def clusterMoreCard : Claim7 := { stood := { row := clusterMoreRow, standIns := [], harness := (true, "6c7f19956d35a607ce41d0ba237c28f67d90bae1e46aacb01f40646c9415a71b"), looks := true }, kinds := [], alts := [], laidByText := true, laidKinds := [.data], laidTests := true, laidLooks := .later }
def ClusterMoreCardSaid : Prop := Claim7.holds Tryd.pinned (.plain (OpenSpec.ofChange clusterMoreSpec)) clusterMoreCard

/-- THE SECOND FORM's CARD OF 'helixlaw26.ClusterTells'. -/
def clusterTellsUptoCard : Claim7 := { stood := { row := clusterTellsUptoRow, standIns := [], harness := (true, "6c7f19956d35a607ce41d0ba237c28f67d90bae1e46aacb01f40646c9415a71b"), looks := true }, kinds := [], alts := [], laidByText := true, laidKinds := [.data], laidTests := true, laidLooks := .later }
def ClusterTellsUptoCardSaid : Prop := Claim7.holds Tryd.pinned (.plain (OpenSpec.upto clusterTellsSpec)) clusterTellsUptoCard

/-- THE SECOND FORM's CARD OF 'helixlaw26.ClusterOrder'. -/
def clusterOrderUptoCard : Claim7 := { stood := { row := clusterOrderUptoRow, standIns := [], harness := (true, "6c7f19956d35a607ce41d0ba237c28f67d90bae1e46aacb01f40646c9415a71b"), looks := true }, kinds := [], alts := [], laidByText := true, laidKinds := [.data], laidTests := true, laidLooks := .later }
def ClusterOrderUptoCardSaid : Prop := Claim7.holds Tryd.pinned (.plain (OpenSpec.upto clusterOrderSpec)) clusterOrderUptoCard

/-- THE SECOND FORM's CARD OF 'helixlaw26.ClusterOnce'. -/
def clusterOnceUptoCard : Claim7 := { stood := { row := clusterOnceUptoRow, standIns := [], harness := (true, "6c7f19956d35a607ce41d0ba237c28f67d90bae1e46aacb01f40646c9415a71b"), looks := true }, kinds := [], alts := [], laidByText := true, laidKinds := [.data], laidTests := true, laidLooks := .later }
def ClusterOnceUptoCardSaid : Prop := Claim7.holds Tryd.pinned (.plain (OpenSpec.upto clusterOnceSpec)) clusterOnceUptoCard

/-- THE SECOND FORM's CARD OF 'helixlaw26.ClusterClean'. -/
def clusterCleanUptoCard : Claim7 := { stood := { row := clusterCleanUptoRow, standIns := [], harness := (true, "6c7f19956d35a607ce41d0ba237c28f67d90bae1e46aacb01f40646c9415a71b"), looks := true }, kinds := [], alts := [], laidByText := true, laidKinds := [.data], laidTests := true, laidLooks := .later }
def ClusterCleanUptoCardSaid : Prop := Claim7.holds Tryd.pinned (.plain (OpenSpec.upto clusterCleanSpec)) clusterCleanUptoCard

/-- THE SECOND FORM's CARD OF 'helixlaw26.ClusterMore'. -/
def clusterMoreUptoCard : Claim7 := { stood := { row := clusterMoreUptoRow, standIns := [], harness := (true, "6c7f19956d35a607ce41d0ba237c28f67d90bae1e46aacb01f40646c9415a71b"), looks := true }, kinds := [], alts := [], laidByText := true, laidKinds := [.data], laidTests := true, laidLooks := .later }
def ClusterMoreUptoCardSaid : Prop := Claim7.holds Tryd.pinned (.plain (OpenSpec.upto clusterMoreSpec)) clusterMoreUptoCard
end Rows
end Go.Proofs.YtgblkcddhnigaaaDoor
