/-
  No cell of these rows narrows 'for every input' (looked for: loops, veiled, ifaces, maps, wideKeys, modest, calm, conditions, laid).
  DERIVED. THE GIVEN ROWS OF THIS SEAT. 5 by the template 'for every input the law returns true; each argument reads behind the call as it read before'; 0 by the template 'total and deterministic' (their statements: YtfkjheilcbppcaaTotals.lean).
  GIVEN WITH THE SEED: the statements are not yours to turn. If you find one false, say at which input.
  Laid BY PROGRAM, IN A SANDBOX (cutbox-rows.mjs): the forced cells as the released guide's own fill.sh prints them over the translation 4a00c0e1c219b804… (all of the seat's roots in one cut). By AI agents, Wed Nov 11 2026. No macro, syntax, notation, axiom, sorry.
-/
import Derived.Test.YtfkjheilcbppcaaChecked
import GoSem.Claim
import GoSem.ClaimJoined
import GoSem.ClaimMapViews
import Derived.JoinedTies
import Derived.KernelRfl
namespace Go.Proofs.Ytfkjheilcbppcaa
/- THE CELL 'sum', in the pinned program and in every row, IS THE sha256 OF THE DUMP (.gsa) THAT YtfkjheilcbppcaaProg.lean LOADS. Nothing in Lean hashes anything: it is a label: what it is worth is what the hold of that sum in a sandbox is worth. -/
noncomputable def Try.pinned : Pinned := { name := "ytfkjheilcbppcaa", sum := "4a00c0e1c219b804e4ebb5e92ee9c2d9b74d4a3be296a99c3f153ca8a1962459", checked := Try.checked }
namespace Rows
def none {H : Type} : Left H := { results := [], args := [] }

/-- 'helixlaw27.ConsensusTells': WHATEVER THE INPUT: true; the input reads as it did. -/
def consensusTellsSpec : ChangeSpec := { name := "consensusTells", fn := fun _ => fun
  | [d1, d2, d3] => { results := [.lit (.bool true)], args := [d1, d2, d3] }
  | _ => none }
def consensusTellsRow : OpenClaim := { program := "ytfkjheilcbppcaa", sum := "4a00c0e1c219b804e4ebb5e92ee9c2d9b74d4a3be296a99c3f153ca8a1962459", func := "helix/helixlaw27.ConsensusTells", spec := "consensusTells", unfollowed := true, recurses := true, apart := false }
def ConsensusTellsSaid : Prop := consensusTellsRow.holds Try.pinned (OpenSpec.ofChange consensusTellsSpec)

/-- ITS FALSE NEIGHBOUR: 'it returns false'. Refute it at one input. -/
def consensusTellsWrong : ChangeSpec := { name := "consensusTells", fn := fun _ => fun
  | [d1, d2, d3] => { results := [.lit (.bool false)], args := [d1, d2, d3] }
  | _ => none }
def ConsensusTellsWrongFalsely : Prop := consensusTellsRow.holds Try.pinned (OpenSpec.ofChange consensusTellsWrong)

/-- 'helixlaw27.ConsensusMost': WHATEVER THE INPUT: true; the input reads as it did. -/
def consensusMostSpec : ChangeSpec := { name := "consensusMost", fn := fun _ => fun
  | [d1, d2, d3, d4] => { results := [.lit (.bool true)], args := [d1, d2, d3, d4] }
  | _ => none }
def consensusMostRow : OpenClaim := { program := "ytfkjheilcbppcaa", sum := "4a00c0e1c219b804e4ebb5e92ee9c2d9b74d4a3be296a99c3f153ca8a1962459", func := "helix/helixlaw27.ConsensusMost", spec := "consensusMost", unfollowed := true, recurses := true, apart := false }
def ConsensusMostSaid : Prop := consensusMostRow.holds Try.pinned (OpenSpec.ofChange consensusMostSpec)

/-- ITS FALSE NEIGHBOUR: 'it returns false'. Refute it at one input. -/
def consensusMostWrong : ChangeSpec := { name := "consensusMost", fn := fun _ => fun
  | [d1, d2, d3, d4] => { results := [.lit (.bool false)], args := [d1, d2, d3, d4] }
  | _ => none }
def ConsensusMostWrongFalsely : Prop := consensusMostRow.holds Try.pinned (OpenSpec.ofChange consensusMostWrong)

/-- 'helixlaw27.ConsensusOrder': WHATEVER THE INPUT: true; the input reads as it did. -/
def consensusOrderSpec : ChangeSpec := { name := "consensusOrder", fn := fun _ => fun
  | [d1, d2] => { results := [.lit (.bool true)], args := [d1, d2] }
  | _ => none }
def consensusOrderRow : OpenClaim := { program := "ytfkjheilcbppcaa", sum := "4a00c0e1c219b804e4ebb5e92ee9c2d9b74d4a3be296a99c3f153ca8a1962459", func := "helix/helixlaw27.ConsensusOrder", spec := "consensusOrder", unfollowed := true, recurses := true, apart := false }
def ConsensusOrderSaid : Prop := consensusOrderRow.holds Try.pinned (OpenSpec.ofChange consensusOrderSpec)

/-- ITS FALSE NEIGHBOUR: 'it returns false'. Refute it at one input. -/
def consensusOrderWrong : ChangeSpec := { name := "consensusOrder", fn := fun _ => fun
  | [d1, d2] => { results := [.lit (.bool false)], args := [d1, d2] }
  | _ => none }
def ConsensusOrderWrongFalsely : Prop := consensusOrderRow.holds Try.pinned (OpenSpec.ofChange consensusOrderWrong)

/-- 'helixlaw27.ConsensusNear': WHATEVER THE INPUT: true; the input reads as it did. -/
def consensusNearSpec : ChangeSpec := { name := "consensusNear", fn := fun _ => fun
  | [d1, d2] => { results := [.lit (.bool true)], args := [d1, d2] }
  | _ => none }
def consensusNearRow : OpenClaim := { program := "ytfkjheilcbppcaa", sum := "4a00c0e1c219b804e4ebb5e92ee9c2d9b74d4a3be296a99c3f153ca8a1962459", func := "helix/helixlaw27.ConsensusNear", spec := "consensusNear", unfollowed := true, recurses := true, apart := false }
def ConsensusNearSaid : Prop := consensusNearRow.holds Try.pinned (OpenSpec.ofChange consensusNearSpec)

/-- ITS FALSE NEIGHBOUR: 'it returns false'. Refute it at one input. -/
def consensusNearWrong : ChangeSpec := { name := "consensusNear", fn := fun _ => fun
  | [d1, d2] => { results := [.lit (.bool false)], args := [d1, d2] }
  | _ => none }
def ConsensusNearWrongFalsely : Prop := consensusNearRow.holds Try.pinned (OpenSpec.ofChange consensusNearWrong)

/-- 'helixlaw27.ConsensusAlone': WHATEVER THE INPUT: true; the input reads as it did. -/
def consensusAloneSpec : ChangeSpec := { name := "consensusAlone", fn := fun _ => fun
  | [d1, d2] => { results := [.lit (.bool true)], args := [d1, d2] }
  | _ => none }
def consensusAloneRow : OpenClaim := { program := "ytfkjheilcbppcaa", sum := "4a00c0e1c219b804e4ebb5e92ee9c2d9b74d4a3be296a99c3f153ca8a1962459", func := "helix/helixlaw27.ConsensusAlone", spec := "consensusAlone", unfollowed := true, recurses := true, apart := false }
def ConsensusAloneSaid : Prop := consensusAloneRow.holds Try.pinned (OpenSpec.ofChange consensusAloneSpec)

/-- ITS FALSE NEIGHBOUR: 'it returns false'. Refute it at one input. -/
def consensusAloneWrong : ChangeSpec := { name := "consensusAlone", fn := fun _ => fun
  | [d1, d2] => { results := [.lit (.bool false)], args := [d1, d2] }
  | _ => none }
def ConsensusAloneWrongFalsely : Prop := consensusAloneRow.holds Try.pinned (OpenSpec.ofChange consensusAloneWrong)

/- THE SECOND FORM. 'bulk': how many values and letters a reading holds, each counted each time it is reached (what is shared counts as often as it is met; a slice's spare places count too). A statement '..UptoSaid' is the law's where the arguments, and the package variables that the reading takes, are together of bulk at most 1048576: NARROWER than '..Said'. Prove '..Said' where nothing that the law and all that it calls make is longer than what came in: it says more and counts as full. Else prove '..UptoSaid'. A law counts once. -/
mutual
def uptoBulk {H : Type} : DataW H → Nat
  | .lit (.string bytes) => bytes.length + 1
  | .lit _ => 1
  | .nil => 1
  | .ptr d => uptoBulk d + 1
  | .slice elems spare => uptoBulkAll elems + uptoBulkAll spare + 1
  | .agg parts => uptoBulkAll parts + 1
  | .iface _ d => uptoBulk d + 1
  | .map entries => uptoBulkEntries entries + 1
  | .held _ => 1
def uptoBulkAll {H : Type} : List (DataW H) → Nat
  | [] => 0
  | d :: r => uptoBulk d + uptoBulkAll r
def uptoBulkEntries {H : Type} : List (Lit × DataW H) → Nat
  | [] => 0
  | x :: r => uptoBulkEntry x + uptoBulkEntries r
def uptoBulkEntry {H : Type} : Lit × DataW H → Nat
  | (.string bytes, d) => bytes.length + uptoBulk d + 1
  | (_, d) => uptoBulk d + 1
 end
def uptoSmall : (H : Type) → List (DataW H) → Bool := fun _ ds => decide (uptoBulkAll ds ≤ 1048576)
def OpenSpec.upto (s : _root_.Go.ChangeSpec) : _root_.Go.OpenSpec := { _root_.Go.OpenSpec.ofChange s with cond := some uptoSmall }

/-- 'helixlaw27.ConsensusTells', WHERE WHAT IT READS IS OF BULK AT MOST 1048576: true; the input reads as it did. -/
def consensusTellsUptoRow : OpenClaim := { program := "ytfkjheilcbppcaa", sum := "4a00c0e1c219b804e4ebb5e92ee9c2d9b74d4a3be296a99c3f153ca8a1962459", func := "helix/helixlaw27.ConsensusTells", spec := "consensusTells", unfollowed := true, recurses := true, apart := false, narrowed := true }
def ConsensusTellsUptoSaid : Prop := consensusTellsUptoRow.holds Try.pinned (OpenSpec.upto consensusTellsSpec)

/-- 'helixlaw27.ConsensusMost', WHERE WHAT IT READS IS OF BULK AT MOST 1048576: true; the input reads as it did. -/
def consensusMostUptoRow : OpenClaim := { program := "ytfkjheilcbppcaa", sum := "4a00c0e1c219b804e4ebb5e92ee9c2d9b74d4a3be296a99c3f153ca8a1962459", func := "helix/helixlaw27.ConsensusMost", spec := "consensusMost", unfollowed := true, recurses := true, apart := false, narrowed := true }
def ConsensusMostUptoSaid : Prop := consensusMostUptoRow.holds Try.pinned (OpenSpec.upto consensusMostSpec)

/-- 'helixlaw27.ConsensusOrder', WHERE WHAT IT READS IS OF BULK AT MOST 1048576: true; the input reads as it did. -/
def consensusOrderUptoRow : OpenClaim := { program := "ytfkjheilcbppcaa", sum := "4a00c0e1c219b804e4ebb5e92ee9c2d9b74d4a3be296a99c3f153ca8a1962459", func := "helix/helixlaw27.ConsensusOrder", spec := "consensusOrder", unfollowed := true, recurses := true, apart := false, narrowed := true }
def ConsensusOrderUptoSaid : Prop := consensusOrderUptoRow.holds Try.pinned (OpenSpec.upto consensusOrderSpec)

/-- 'helixlaw27.ConsensusNear', WHERE WHAT IT READS IS OF BULK AT MOST 1048576: true; the input reads as it did. -/
def consensusNearUptoRow : OpenClaim := { program := "ytfkjheilcbppcaa", sum := "4a00c0e1c219b804e4ebb5e92ee9c2d9b74d4a3be296a99c3f153ca8a1962459", func := "helix/helixlaw27.ConsensusNear", spec := "consensusNear", unfollowed := true, recurses := true, apart := false, narrowed := true }
def ConsensusNearUptoSaid : Prop := consensusNearUptoRow.holds Try.pinned (OpenSpec.upto consensusNearSpec)

/-- 'helixlaw27.ConsensusAlone', WHERE WHAT IT READS IS OF BULK AT MOST 1048576: true; the input reads as it did. -/
def consensusAloneUptoRow : OpenClaim := { program := "ytfkjheilcbppcaa", sum := "4a00c0e1c219b804e4ebb5e92ee9c2d9b74d4a3be296a99c3f153ca8a1962459", func := "helix/helixlaw27.ConsensusAlone", spec := "consensusAlone", unfollowed := true, recurses := true, apart := false, narrowed := true }
def ConsensusAloneUptoSaid : Prop := consensusAloneUptoRow.holds Try.pinned (OpenSpec.upto consensusAloneSpec)

end Rows
end Go.Proofs.Ytfkjheilcbppcaa
