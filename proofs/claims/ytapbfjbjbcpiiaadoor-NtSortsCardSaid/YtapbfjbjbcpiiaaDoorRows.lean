/-
  NARROWER THAN 'FOR EVERY INPUT', by the rows' own cells (each row's printed sentence says how): NtSorts: laid · EditMetric: laid · EditApplies: laid · EditBall: laid · EditPrefix: laid.
  DERIVED. THE GIVEN ROWS OF THIS SEAT. 5 by the template 'for every input the law returns true; each argument reads behind the call as it read before'; 0 by the template 'total and deterministic' (their statements: YtapbfjbjbcpiiaaDoorTotals.lean).
  GIVEN WITH THE SEED: the statements are not yours to turn. If you find one false, say at which input.
  Laid BY PROGRAM, IN A SANDBOX (cutbox-rows.mjs): the forced cells as the released guide's own fill.sh prints them over the translation 5f9ee45361e1c81c… (all of the seat's roots in one cut). By AI agents, Wed Nov 11 2026. No macro, syntax, notation, axiom, sorry.
-/
import Derived.Test.YtapbfjbjbcpiiaaDoorChecked
import GoSem.Claim
import GoSem.ClaimJoined
import GoSem.ClaimMapViews
import Derived.JoinedTies
import Derived.KernelRfl
namespace Go.Proofs.YtapbfjbjbcpiiaaDoor
/- THE CELL 'sum', in the pinned program and in every row, IS THE sha256 OF THE DUMP (.gsa) THAT YtapbfjbjbcpiiaaDoorProg.lean LOADS. Nothing in Lean hashes anything: it is a label: what it is worth is what the hold of that sum in a sandbox is worth. -/
noncomputable def Tryd.pinned : Pinned := { name := "ytapbfjbjbcpiiaadoor", sum := "5f9ee45361e1c81cf12cf74fd23ad348b9a77e1a2198b28d7f0a087176610021", checked := Tryd.checked }
namespace Rows
def none {H : Type} : Left H := { results := [], args := [] }

/- WHAT THE LISTED PACKAGE-LEVEL VARIABLES READ AS WHEN THE CALL BEGINS. Each datum BY PROGRAM (the guide's laid-datum.mjs) off the statement by which the dump's own 'gosem.cut.vars' lays the variable. In a bare row this is a premise. The card (YtapbfjbjbcpiiaaDoorCards.lean) ties it to the program's text. -/
def laid_helix_nt_letters {H : Type} : DataW H := .agg [.lit (.int .u8 65), .lit (.int .u8 67), .lit (.int .u8 71), .lit (.int .u8 84)]
def laid_helix_edit_letters {H : Type} : DataW H := .agg [.lit (.int .u8 65), .lit (.int .u8 67), .lit (.int .u8 71), .lit (.int .u8 84)]

/-- 'helixlaw01.NtSorts': WHATEVER THE INPUT: true; the input reads as it did. -/
def ntSortsSpec : ChangeSpec := { name := "ntSorts", fn := fun _ => fun
  | [d] => { results := [.lit (.bool true)], args := [d] }
  | _ => none }
def ntSortsRow : OpenClaim := { program := "ytapbfjbjbcpiiaadoor", sum := "5f9ee45361e1c81cf12cf74fd23ad348b9a77e1a2198b28d7f0a087176610021", func := "helix/helixlaw01.NtSorts", spec := "ntSorts", inPlace := ["internal/bytealg.Compare"], unfollowed := true, recurses := true, named := ["helix/nt.letters"], apart := false, laid := [("helix/nt.letters", laid_helix_nt_letters)] }
def NtSortsSaid : Prop := ntSortsRow.holds Tryd.pinned (OpenSpec.ofChange ntSortsSpec)

/-- ITS FALSE NEIGHBOUR: 'it returns false'. Refute it at one input. -/
def ntSortsWrong : ChangeSpec := { name := "ntSorts", fn := fun _ => fun
  | [d] => { results := [.lit (.bool false)], args := [d] }
  | _ => none }
def NtSortsWrongFalsely : Prop := ntSortsRow.holds Tryd.pinned (OpenSpec.ofChange ntSortsWrong)

/-- 'helixlaw02.EditMetric': WHATEVER THE INPUT: true; the input reads as it did. -/
def editMetricSpec : ChangeSpec := { name := "editMetric", fn := fun _ => fun
  | [d1, d2, d3] => { results := [.lit (.bool true)], args := [d1, d2, d3] }
  | _ => none }
def editMetricRow : OpenClaim := { program := "ytapbfjbjbcpiiaadoor", sum := "5f9ee45361e1c81cf12cf74fd23ad348b9a77e1a2198b28d7f0a087176610021", func := "helix/helixlaw02.EditMetric", spec := "editMetric", unfollowed := true, recurses := true, named := ["helix/edit.letters"], apart := false, laid := [("helix/edit.letters", laid_helix_edit_letters)] }
def EditMetricSaid : Prop := editMetricRow.holds Tryd.pinned (OpenSpec.ofChange editMetricSpec)

/-- ITS FALSE NEIGHBOUR: 'it returns false'. Refute it at one input. -/
def editMetricWrong : ChangeSpec := { name := "editMetric", fn := fun _ => fun
  | [d1, d2, d3] => { results := [.lit (.bool false)], args := [d1, d2, d3] }
  | _ => none }
def EditMetricWrongFalsely : Prop := editMetricRow.holds Tryd.pinned (OpenSpec.ofChange editMetricWrong)

/-- 'helixlaw02.EditApplies': WHATEVER THE INPUT: true; the input reads as it did. -/
def editAppliesSpec : ChangeSpec := { name := "editApplies", fn := fun _ => fun
  | [d1, d2, d3] => { results := [.lit (.bool true)], args := [d1, d2, d3] }
  | _ => none }
def editAppliesRow : OpenClaim := { program := "ytapbfjbjbcpiiaadoor", sum := "5f9ee45361e1c81cf12cf74fd23ad348b9a77e1a2198b28d7f0a087176610021", func := "helix/helixlaw02.EditApplies", spec := "editApplies", unfollowed := true, recurses := true, named := ["helix/edit.letters"], apart := false, laid := [("helix/edit.letters", laid_helix_edit_letters)] }
def EditAppliesSaid : Prop := editAppliesRow.holds Tryd.pinned (OpenSpec.ofChange editAppliesSpec)

/-- ITS FALSE NEIGHBOUR: 'it returns false'. Refute it at one input. -/
def editAppliesWrong : ChangeSpec := { name := "editApplies", fn := fun _ => fun
  | [d1, d2, d3] => { results := [.lit (.bool false)], args := [d1, d2, d3] }
  | _ => none }
def EditAppliesWrongFalsely : Prop := editAppliesRow.holds Tryd.pinned (OpenSpec.ofChange editAppliesWrong)

/-- 'helixlaw02.EditBall': WHATEVER THE INPUT: true; the input reads as it did. -/
def editBallSpec : ChangeSpec := { name := "editBall", fn := fun _ => fun
  | [d1, d2] => { results := [.lit (.bool true)], args := [d1, d2] }
  | _ => none }
def editBallRow : OpenClaim := { program := "ytapbfjbjbcpiiaadoor", sum := "5f9ee45361e1c81cf12cf74fd23ad348b9a77e1a2198b28d7f0a087176610021", func := "helix/helixlaw02.EditBall", spec := "editBall", unfollowed := true, recurses := true, named := ["helix/edit.letters"], apart := false, laid := [("helix/edit.letters", laid_helix_edit_letters)] }
def EditBallSaid : Prop := editBallRow.holds Tryd.pinned (OpenSpec.ofChange editBallSpec)

/-- ITS FALSE NEIGHBOUR: 'it returns false'. Refute it at one input. -/
def editBallWrong : ChangeSpec := { name := "editBall", fn := fun _ => fun
  | [d1, d2] => { results := [.lit (.bool false)], args := [d1, d2] }
  | _ => none }
def EditBallWrongFalsely : Prop := editBallRow.holds Tryd.pinned (OpenSpec.ofChange editBallWrong)

/-- 'helixlaw02.EditPrefix': WHATEVER THE INPUT: true; the input reads as it did. -/
def editPrefixSpec : ChangeSpec := { name := "editPrefix", fn := fun _ => fun
  | [d1, d2, d3] => { results := [.lit (.bool true)], args := [d1, d2, d3] }
  | _ => none }
def editPrefixRow : OpenClaim := { program := "ytapbfjbjbcpiiaadoor", sum := "5f9ee45361e1c81cf12cf74fd23ad348b9a77e1a2198b28d7f0a087176610021", func := "helix/helixlaw02.EditPrefix", spec := "editPrefix", unfollowed := true, recurses := true, named := ["helix/edit.letters"], apart := false, laid := [("helix/edit.letters", laid_helix_edit_letters)] }
def EditPrefixSaid : Prop := editPrefixRow.holds Tryd.pinned (OpenSpec.ofChange editPrefixSpec)

/-- ITS FALSE NEIGHBOUR: 'it returns false'. Refute it at one input. -/
def editPrefixWrong : ChangeSpec := { name := "editPrefix", fn := fun _ => fun
  | [d1, d2, d3] => { results := [.lit (.bool false)], args := [d1, d2, d3] }
  | _ => none }
def EditPrefixWrongFalsely : Prop := editPrefixRow.holds Tryd.pinned (OpenSpec.ofChange editPrefixWrong)

/- THE SECOND FORM. 'bulk': how many values and letters a reading holds, each counted each time it is reached (what is shared counts as often as it is met; a slice's spare places count too). A statement '..UptoSaid' is the law's where the arguments, and the package variables that the reading takes, are together of bulk at most 1048576: NARROWER than '..Said'. Prove '..Said' where nothing that the law and all that it calls make is longer than what came in: it says more and counts as full. Else prove '..UptoSaid'. A law counts once. -/
mutual
def uptoBulk {H : Type} : DataW H → Nat
  | .lit (.string bytes) => bytes.length + 1
  | .lit _ => 1
  | .nil => 1
  | .ptr d => uptoBulk d + 1
  | .slice elems spare => uptoBulkAll elems + uptoBulkAll spare + 1
  | .agg parts => uptoBulkAll parts + 1
  | .iface _ d => uptoBulk d + 1
  | .map entries => uptoBulkEntries entries + 1
  | .held _ => 1
def uptoBulkAll {H : Type} : List (DataW H) → Nat
  | [] => 0
  | d :: r => uptoBulk d + uptoBulkAll r
def uptoBulkEntries {H : Type} : List (Lit × DataW H) → Nat
  | [] => 0
  | x :: r => uptoBulkEntry x + uptoBulkEntries r
def uptoBulkEntry {H : Type} : Lit × DataW H → Nat
  | (.string bytes, d) => bytes.length + uptoBulk d + 1
  | (_, d) => uptoBulk d + 1
 end
def uptoSmall : (H : Type) → List (DataW H) → Bool := fun _ ds => decide (uptoBulkAll ds ≤ 1048576)
def OpenSpec.upto (s : _root_.Go.ChangeSpec) : _root_.Go.OpenSpec := { _root_.Go.OpenSpec.ofChange s with cond := some uptoSmall }

/-- 'helixlaw01.NtSorts', WHERE WHAT IT READS IS OF BULK AT MOST 1048576: true; the input reads as it did. -/
def ntSortsUptoRow : OpenClaim := { program := "ytapbfjbjbcpiiaadoor", sum := "5f9ee45361e1c81cf12cf74fd23ad348b9a77e1a2198b28d7f0a087176610021", func := "helix/helixlaw01.NtSorts", spec := "ntSorts", inPlace := ["internal/bytealg.Compare"], unfollowed := true, recurses := true, named := ["helix/nt.letters"], apart := false, laid := [("helix/nt.letters", laid_helix_nt_letters)], narrowed := true }
def NtSortsUptoSaid : Prop := ntSortsUptoRow.holds Tryd.pinned (OpenSpec.upto ntSortsSpec)

/-- 'helixlaw02.EditMetric', WHERE WHAT IT READS IS OF BULK AT MOST 1048576: true; the input reads as it did. -/
def editMetricUptoRow : OpenClaim := { program := "ytapbfjbjbcpiiaadoor", sum := "5f9ee45361e1c81cf12cf74fd23ad348b9a77e1a2198b28d7f0a087176610021", func := "helix/helixlaw02.EditMetric", spec := "editMetric", unfollowed := true, recurses := true, named := ["helix/edit.letters"], apart := false, laid := [("helix/edit.letters", laid_helix_edit_letters)], narrowed := true }
def EditMetricUptoSaid : Prop := editMetricUptoRow.holds Tryd.pinned (OpenSpec.upto editMetricSpec)

/-- 'helixlaw02.EditApplies', WHERE WHAT IT READS IS OF BULK AT MOST 1048576: true; the input reads as it did. -/
def editAppliesUptoRow : OpenClaim := { program := "ytapbfjbjbcpiiaadoor", sum := "5f9ee45361e1c81cf12cf74fd23ad348b9a77e1a2198b28d7f0a087176610021", func := "helix/helixlaw02.EditApplies", spec := "editApplies", unfollowed := true, recurses := true, named := ["helix/edit.letters"], apart := false, laid := [("helix/edit.letters", laid_helix_edit_letters)], narrowed := true }
def EditAppliesUptoSaid : Prop := editAppliesUptoRow.holds Tryd.pinned (OpenSpec.upto editAppliesSpec)

/-- 'helixlaw02.EditBall', WHERE WHAT IT READS IS OF BULK AT MOST 1048576: true; the input reads as it did. -/
def editBallUptoRow : OpenClaim := { program := "ytapbfjbjbcpiiaadoor", sum := "5f9ee45361e1c81cf12cf74fd23ad348b9a77e1a2198b28d7f0a087176610021", func := "helix/helixlaw02.EditBall", spec := "editBall", unfollowed := true, recurses := true, named := ["helix/edit.letters"], apart := false, laid := [("helix/edit.letters", laid_helix_edit_letters)], narrowed := true }
def EditBallUptoSaid : Prop := editBallUptoRow.holds Tryd.pinned (OpenSpec.upto editBallSpec)

/-- 'helixlaw02.EditPrefix', WHERE WHAT IT READS IS OF BULK AT MOST 1048576: true; the input reads as it did. -/
def editPrefixUptoRow : OpenClaim := { program := "ytapbfjbjbcpiiaadoor", sum := "5f9ee45361e1c81cf12cf74fd23ad348b9a77e1a2198b28d7f0a087176610021", func := "helix/helixlaw02.EditPrefix", spec := "editPrefix", unfollowed := true, recurses := true, named := ["helix/edit.letters"], apart := false, laid := [("helix/edit.letters", laid_helix_edit_letters)], narrowed := true }
def EditPrefixUptoSaid : Prop := editPrefixUptoRow.holds Tryd.pinned (OpenSpec.upto editPrefixSpec)

end Rows
end Go.Proofs.YtapbfjbjbcpiiaaDoor
