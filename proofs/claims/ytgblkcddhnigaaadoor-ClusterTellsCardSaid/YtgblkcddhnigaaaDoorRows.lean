/-
  NARROWER THAN 'FOR EVERY INPUT', by the rows' own cells (each row's printed sentence says how): ClusterTells: laid · ClusterOrder: laid · ClusterOnce: laid · ClusterClean: laid · ClusterMore: laid.
  DERIVED. THE GIVEN ROWS OF THIS SEAT. 5 by the template 'for every input the law returns true; each argument reads behind the call as it read before'; 0 by the template 'total and deterministic' (their statements: YtgblkcddhnigaaaDoorTotals.lean).
  GIVEN WITH THE SEED: the statements are not yours to turn. If you find one false, say at which input.
  Laid BY PROGRAM, IN A SANDBOX (cutbox-rows.mjs): the forced cells as the released guide's own fill.sh prints them over the translation e1c8ad21aeb9d962… (all of the seat's roots in one cut). By AI agents, Wed Nov 11 2026. No macro, syntax, notation, axiom, sorry.
-/
import Derived.Test.YtgblkcddhnigaaaDoorChecked
import GoSem.Claim
import GoSem.ClaimJoined
import GoSem.ClaimMapViews
import Derived.JoinedTies
import Derived.KernelRfl
namespace Go.Proofs.YtgblkcddhnigaaaDoor
/- THE CELL 'sum', in the pinned program and in every row, IS THE sha256 OF THE DUMP (.gsa) THAT YtgblkcddhnigaaaDoorProg.lean LOADS. Nothing in Lean hashes anything: it is a label: what it is worth is what the hold of that sum in a sandbox is worth. -/
noncomputable def Tryd.pinned : Pinned := { name := "ytgblkcddhnigaaadoor", sum := "e1c8ad21aeb9d962907f4f75023a6bce4fd6db226f66fa86014c99abc47f8df8", checked := Tryd.checked }
namespace Rows
def none {H : Type} : Left H := { results := [], args := [] }

/- WHAT THE LISTED PACKAGE-LEVEL VARIABLES READ AS WHEN THE CALL BEGINS. Each datum BY PROGRAM (the guide's laid-datum.mjs) off the statement by which the dump's own 'gosem.cut.vars' lays the variable. In a bare row this is a premise. The card (YtgblkcddhnigaaaDoorCards.lean) ties it to the program's text. -/
def laid_helix_nt_letters {H : Type} : DataW H := .agg [.lit (.int .u8 65), .lit (.int .u8 67), .lit (.int .u8 71), .lit (.int .u8 84)]

/-- 'helixlaw26.ClusterTells': WHATEVER THE INPUT: true; the input reads as it did. -/
def clusterTellsSpec : ChangeSpec := { name := "clusterTells", fn := fun _ => fun
  | [d] => { results := [.lit (.bool true)], args := [d] }
  | _ => none }
def clusterTellsRow : OpenClaim := { program := "ytgblkcddhnigaaadoor", sum := "e1c8ad21aeb9d962907f4f75023a6bce4fd6db226f66fa86014c99abc47f8df8", func := "helix/helixlaw26.ClusterTells", spec := "clusterTells", inPlace := ["internal/bytealg.Compare"], unfollowed := true, recurses := true, named := ["helix/nt.letters"], apart := false, laid := [("helix/nt.letters", laid_helix_nt_letters)] }
def ClusterTellsSaid : Prop := clusterTellsRow.holds Tryd.pinned (OpenSpec.ofChange clusterTellsSpec)

/-- ITS FALSE NEIGHBOUR: 'it returns false'. Refute it at one input. -/
def clusterTellsWrong : ChangeSpec := { name := "clusterTells", fn := fun _ => fun
  | [d] => { results := [.lit (.bool false)], args := [d] }
  | _ => none }
def ClusterTellsWrongFalsely : Prop := clusterTellsRow.holds Tryd.pinned (OpenSpec.ofChange clusterTellsWrong)

/-- 'helixlaw26.ClusterOrder': WHATEVER THE INPUT: true; the input reads as it did. -/
def clusterOrderSpec : ChangeSpec := { name := "clusterOrder", fn := fun _ => fun
  | [d1, d2, d3] => { results := [.lit (.bool true)], args := [d1, d2, d3] }
  | _ => none }
def clusterOrderRow : OpenClaim := { program := "ytgblkcddhnigaaadoor", sum := "e1c8ad21aeb9d962907f4f75023a6bce4fd6db226f66fa86014c99abc47f8df8", func := "helix/helixlaw26.ClusterOrder", spec := "clusterOrder", inPlace := ["internal/bytealg.Compare"], unfollowed := true, recurses := true, named := ["helix/nt.letters"], apart := false, laid := [("helix/nt.letters", laid_helix_nt_letters)] }
def ClusterOrderSaid : Prop := clusterOrderRow.holds Tryd.pinned (OpenSpec.ofChange clusterOrderSpec)

/-- ITS FALSE NEIGHBOUR: 'it returns false'. Refute it at one input. -/
def clusterOrderWrong : ChangeSpec := { name := "clusterOrder", fn := fun _ => fun
  | [d1, d2, d3] => { results := [.lit (.bool false)], args := [d1, d2, d3] }
  | _ => none }
def ClusterOrderWrongFalsely : Prop := clusterOrderRow.holds Tryd.pinned (OpenSpec.ofChange clusterOrderWrong)

/-- 'helixlaw26.ClusterOnce': WHATEVER THE INPUT: true; the input reads as it did. -/
def clusterOnceSpec : ChangeSpec := { name := "clusterOnce", fn := fun _ => fun
  | [d] => { results := [.lit (.bool true)], args := [d] }
  | _ => none }
def clusterOnceRow : OpenClaim := { program := "ytgblkcddhnigaaadoor", sum := "e1c8ad21aeb9d962907f4f75023a6bce4fd6db226f66fa86014c99abc47f8df8", func := "helix/helixlaw26.ClusterOnce", spec := "clusterOnce", inPlace := ["internal/bytealg.Compare"], unfollowed := true, recurses := true, named := ["helix/nt.letters"], apart := false, laid := [("helix/nt.letters", laid_helix_nt_letters)] }
def ClusterOnceSaid : Prop := clusterOnceRow.holds Tryd.pinned (OpenSpec.ofChange clusterOnceSpec)

/-- ITS FALSE NEIGHBOUR: 'it returns false'. Refute it at one input. -/
def clusterOnceWrong : ChangeSpec := { name := "clusterOnce", fn := fun _ => fun
  | [d] => { results := [.lit (.bool false)], args := [d] }
  | _ => none }
def ClusterOnceWrongFalsely : Prop := clusterOnceRow.holds Tryd.pinned (OpenSpec.ofChange clusterOnceWrong)

/-- 'helixlaw26.ClusterClean': WHATEVER THE INPUT: true; the input reads as it did. -/
def clusterCleanSpec : ChangeSpec := { name := "clusterClean", fn := fun _ => fun
  | [d1, d2] => { results := [.lit (.bool true)], args := [d1, d2] }
  | _ => none }
def clusterCleanRow : OpenClaim := { program := "ytgblkcddhnigaaadoor", sum := "e1c8ad21aeb9d962907f4f75023a6bce4fd6db226f66fa86014c99abc47f8df8", func := "helix/helixlaw26.ClusterClean", spec := "clusterClean", inPlace := ["internal/bytealg.Compare"], unfollowed := true, recurses := true, named := ["helix/nt.letters"], apart := false, laid := [("helix/nt.letters", laid_helix_nt_letters)] }
def ClusterCleanSaid : Prop := clusterCleanRow.holds Tryd.pinned (OpenSpec.ofChange clusterCleanSpec)

/-- ITS FALSE NEIGHBOUR: 'it returns false'. Refute it at one input. -/
def clusterCleanWrong : ChangeSpec := { name := "clusterClean", fn := fun _ => fun
  | [d1, d2] => { results := [.lit (.bool false)], args := [d1, d2] }
  | _ => none }
def ClusterCleanWrongFalsely : Prop := clusterCleanRow.holds Tryd.pinned (OpenSpec.ofChange clusterCleanWrong)

/-- 'helixlaw26.ClusterMore': WHATEVER THE INPUT: true; the input reads as it did. -/
def clusterMoreSpec : ChangeSpec := { name := "clusterMore", fn := fun _ => fun
  | [d1, d2] => { results := [.lit (.bool true)], args := [d1, d2] }
  | _ => none }
def clusterMoreRow : OpenClaim := { program := "ytgblkcddhnigaaadoor", sum := "e1c8ad21aeb9d962907f4f75023a6bce4fd6db226f66fa86014c99abc47f8df8", func := "helix/helixlaw26.ClusterMore", spec := "clusterMore", inPlace := ["internal/bytealg.Compare"], unfollowed := true, recurses := true, named := ["helix/nt.letters"], apart := false, laid := [("helix/nt.letters", laid_helix_nt_letters)] }
def ClusterMoreSaid : Prop := clusterMoreRow.holds Tryd.pinned (OpenSpec.ofChange clusterMoreSpec)

/-- ITS FALSE NEIGHBOUR: 'it returns false'. Refute it at one input. -/
def clusterMoreWrong : ChangeSpec := { name := "clusterMore", fn := fun _ => fun
  | [d1, d2] => { results := [.lit (.bool false)], args := [d1, d2] }
  | _ => none }
def ClusterMoreWrongFalsely : Prop := clusterMoreRow.holds Tryd.pinned (OpenSpec.ofChange clusterMoreWrong)

/- THE SECOND FORM. 'bulk': how many values and letters a reading holds, each counted each time it is reached (what is shared counts as often as it is met; a slice's spare places count too). A statement '..UptoSaid' is the law's where the arguments, and the package variables that the reading takes, are together of bulk at most 1048576: NARROWER than '..Said'. Prove '..Said' where nothing that the law and all that it calls make is longer than what came in: it says more and counts as full. Else prove '..UptoSaid'. A law counts once. -/
mutual
def uptoBulk {H : Type} : DataW H → Nat
  | .lit (.string bytes) => bytes.length + 1
  | .lit _ => 1
  | .nil => 1
  | .ptr d => uptoBulk d + 1
  | .slice elems spare => uptoBulkAll elems + uptoBulkAll spare + 1
  | .agg parts => uptoBulkAll parts + 1
  | .iface _ d => uptoBulk d + 1
  | .map entries => uptoBulkEntries entries + 1
  | .held _ => 1
def uptoBulkAll {H : Type} : List (DataW H) → Nat
  | [] => 0
  | d :: r => uptoBulk d + uptoBulkAll r
def uptoBulkEntries {H : Type} : List (Lit × DataW H) → Nat
  | [] => 0
  | x :: r => uptoBulkEntry x + uptoBulkEntries r
def uptoBulkEntry {H : Type} : Lit × DataW H → Nat
  | (.string bytes, d) => bytes.length + uptoBulk d + 1
  | (_, d) => uptoBulk d + 1
 end
def uptoSmall : (H : Type) → List (DataW H) → Bool := fun _ ds => decide (uptoBulkAll ds ≤ 1048576)
def OpenSpec.upto (s : _root_.Go.ChangeSpec) : _root_.Go.OpenSpec := { _root_.Go.OpenSpec.ofChange s with cond := some uptoSmall }

/-- 'helixlaw26.ClusterTells', WHERE WHAT IT READS IS OF BULK AT MOST 1048576: true; the input reads as it did. -/
def clusterTellsUptoRow : OpenClaim := { program := "ytgblkcddhnigaaadoor", sum := "e1c8ad21aeb9d962907f4f75023a6bce4fd6db226f66fa86014c99abc47f8df8", func := "helix/helixlaw26.ClusterTells", spec := "clusterTells", inPlace := ["internal/bytealg.Compare"], unfollowed := true, recurses := true, named := ["helix/nt.letters"], apart := false, laid := [("helix/nt.letters", laid_helix_nt_letters)], narrowed := true }
def ClusterTellsUptoSaid : Prop := clusterTellsUptoRow.holds Tryd.pinned (OpenSpec.upto clusterTellsSpec)

/-- 'helixlaw26.ClusterOrder', WHERE WHAT IT READS IS OF BULK AT MOST 1048576: true; the input reads as it did. -/
def clusterOrderUptoRow : OpenClaim := { program := "ytgblkcddhnigaaadoor", sum := "e1c8ad21aeb9d962907f4f75023a6bce4fd6db226f66fa86014c99abc47f8df8", func := "helix/helixlaw26.ClusterOrder", spec := "clusterOrder", inPlace := ["internal/bytealg.Compare"], unfollowed := true, recurses := true, named := ["helix/nt.letters"], apart := false, laid := [("helix/nt.letters", laid_helix_nt_letters)], narrowed := true }
def ClusterOrderUptoSaid : Prop := clusterOrderUptoRow.holds Tryd.pinned (OpenSpec.upto clusterOrderSpec)

/-- 'helixlaw26.ClusterOnce', WHERE WHAT IT READS IS OF BULK AT MOST 1048576: true; the input reads as it did. -/
def clusterOnceUptoRow : OpenClaim := { program := "ytgblkcddhnigaaadoor", sum := "e1c8ad21aeb9d962907f4f75023a6bce4fd6db226f66fa86014c99abc47f8df8", func := "helix/helixlaw26.ClusterOnce", spec := "clusterOnce", inPlace := ["internal/bytealg.Compare"], unfollowed := true, recurses := true, named := ["helix/nt.letters"], apart := false, laid := [("helix/nt.letters", laid_helix_nt_letters)], narrowed := true }
def ClusterOnceUptoSaid : Prop := clusterOnceUptoRow.holds Tryd.pinned (OpenSpec.upto clusterOnceSpec)

/-- 'helixlaw26.ClusterClean', WHERE WHAT IT READS IS OF BULK AT MOST 1048576: true; the input reads as it did. -/
def clusterCleanUptoRow : OpenClaim := { program := "ytgblkcddhnigaaadoor", sum := "e1c8ad21aeb9d962907f4f75023a6bce4fd6db226f66fa86014c99abc47f8df8", func := "helix/helixlaw26.ClusterClean", spec := "clusterClean", inPlace := ["internal/bytealg.Compare"], unfollowed := true, recurses := true, named := ["helix/nt.letters"], apart := false, laid := [("helix/nt.letters", laid_helix_nt_letters)], narrowed := true }
def ClusterCleanUptoSaid : Prop := clusterCleanUptoRow.holds Tryd.pinned (OpenSpec.upto clusterCleanSpec)

/-- 'helixlaw26.ClusterMore', WHERE WHAT IT READS IS OF BULK AT MOST 1048576: true; the input reads as it did. -/
def clusterMoreUptoRow : OpenClaim := { program := "ytgblkcddhnigaaadoor", sum := "e1c8ad21aeb9d962907f4f75023a6bce4fd6db226f66fa86014c99abc47f8df8", func := "helix/helixlaw26.ClusterMore", spec := "clusterMore", inPlace := ["internal/bytealg.Compare"], unfollowed := true, recurses := true, named := ["helix/nt.letters"], apart := false, laid := [("helix/nt.letters", laid_helix_nt_letters)], narrowed := true }
def ClusterMoreUptoSaid : Prop := clusterMoreUptoRow.holds Tryd.pinned (OpenSpec.upto clusterMoreSpec)

end Rows
end Go.Proofs.YtgblkcddhnigaaaDoor
