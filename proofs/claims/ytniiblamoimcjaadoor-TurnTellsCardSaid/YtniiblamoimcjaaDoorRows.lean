/-
  NARROWER THAN 'FOR EVERY INPUT', by the rows' own cells (each row's printed sentence says how): TurnTells: laid · TurnBack: laid · TurnAll: laid · TurnParts: laid · TurnErrors: laid.
  DERIVED. THE GIVEN ROWS OF THIS SEAT. 5 by the template 'for every input the law returns true; each argument reads behind the call as it read before'; 0 by the template 'total and deterministic' (their statements: YtniiblamoimcjaaDoorTotals.lean).
  GIVEN WITH THE SEED: the statements are not yours to turn. If you find one false, say at which input.
  Laid BY PROGRAM, IN A SANDBOX (cutbox-rows.mjs): the forced cells as the released guide's own fill.sh prints them over the translation 86fa90d8b1af5a90… (all of the seat's roots in one cut). By AI agents, Wed Nov 11 2026. No macro, syntax, notation, axiom, sorry.
-/
import Derived.Test.YtniiblamoimcjaaDoorChecked
import GoSem.Claim
import GoSem.ClaimJoined
import GoSem.ClaimMapViews
import Derived.JoinedTies
import Derived.KernelRfl
namespace Go.Proofs.YtniiblamoimcjaaDoor
/- THE CELL 'sum', in the pinned program and in every row, IS THE sha256 OF THE DUMP (.gsa) THAT YtniiblamoimcjaaDoorProg.lean LOADS. Nothing in Lean hashes anything: it is a label: what it is worth is what the hold of that sum in a sandbox is worth. -/
noncomputable def Tryd.pinned : Pinned := { name := "ytniiblamoimcjaadoor", sum := "86fa90d8b1af5a9035f3116df1d45cdea40b99ccb02404d8703a0a5be80e1a42", checked := Tryd.checked }
namespace Rows
def none {H : Type} : Left H := { results := [], args := [] }

/- WHAT THE LISTED PACKAGE-LEVEL VARIABLES READ AS WHEN THE CALL BEGINS. Each datum BY PROGRAM (the guide's laid-datum.mjs) off the statement by which the dump's own 'gosem.cut.vars' lays the variable. In a bare row this is a premise. The card (YtniiblamoimcjaaDoorCards.lean) ties it to the program's text. -/
def laid_helix_nt_letters {H : Type} : DataW H := .agg [.lit (.int .u8 65), .lit (.int .u8 67), .lit (.int .u8 71), .lit (.int .u8 84)]

/-- 'helixlaw09.TurnTells': WHATEVER THE INPUT: true; the input reads as it did. -/
def turnTellsSpec : ChangeSpec := { name := "turnTells", fn := fun _ => fun
  | [d1, d2, d3, d4] => { results := [.lit (.bool true)], args := [d1, d2, d3, d4] }
  | _ => none }
def turnTellsRow : OpenClaim := { program := "ytniiblamoimcjaadoor", sum := "86fa90d8b1af5a9035f3116df1d45cdea40b99ccb02404d8703a0a5be80e1a42", func := "helix/helixlaw09.TurnTells", spec := "turnTells", unfollowed := true, recurses := true, named := ["helix/nt.letters"], apart := false, laid := [("helix/nt.letters", laid_helix_nt_letters)] }
def TurnTellsSaid : Prop := turnTellsRow.holds Tryd.pinned (OpenSpec.ofChange turnTellsSpec)

/-- ITS FALSE NEIGHBOUR: 'it returns false'. Refute it at one input. -/
def turnTellsWrong : ChangeSpec := { name := "turnTells", fn := fun _ => fun
  | [d1, d2, d3, d4] => { results := [.lit (.bool false)], args := [d1, d2, d3, d4] }
  | _ => none }
def TurnTellsWrongFalsely : Prop := turnTellsRow.holds Tryd.pinned (OpenSpec.ofChange turnTellsWrong)

/-- 'helixlaw09.TurnBack': WHATEVER THE INPUT: true; the input reads as it did. -/
def turnBackSpec : ChangeSpec := { name := "turnBack", fn := fun _ => fun
  | [d1, d2] => { results := [.lit (.bool true)], args := [d1, d2] }
  | _ => none }
def turnBackRow : OpenClaim := { program := "ytniiblamoimcjaadoor", sum := "86fa90d8b1af5a9035f3116df1d45cdea40b99ccb02404d8703a0a5be80e1a42", func := "helix/helixlaw09.TurnBack", spec := "turnBack", unfollowed := true, recurses := true, named := ["helix/nt.letters"], apart := false, laid := [("helix/nt.letters", laid_helix_nt_letters)] }
def TurnBackSaid : Prop := turnBackRow.holds Tryd.pinned (OpenSpec.ofChange turnBackSpec)

/-- ITS FALSE NEIGHBOUR: 'it returns false'. Refute it at one input. -/
def turnBackWrong : ChangeSpec := { name := "turnBack", fn := fun _ => fun
  | [d1, d2] => { results := [.lit (.bool false)], args := [d1, d2] }
  | _ => none }
def TurnBackWrongFalsely : Prop := turnBackRow.holds Tryd.pinned (OpenSpec.ofChange turnBackWrong)

/-- 'helixlaw09.TurnAll': WHATEVER THE INPUT: true; the input reads as it did. -/
def turnAllSpec : ChangeSpec := { name := "turnAll", fn := fun _ => fun
  | [d1, d2] => { results := [.lit (.bool true)], args := [d1, d2] }
  | _ => none }
def turnAllRow : OpenClaim := { program := "ytniiblamoimcjaadoor", sum := "86fa90d8b1af5a9035f3116df1d45cdea40b99ccb02404d8703a0a5be80e1a42", func := "helix/helixlaw09.TurnAll", spec := "turnAll", unfollowed := true, recurses := true, named := ["helix/nt.letters"], apart := false, laid := [("helix/nt.letters", laid_helix_nt_letters)] }
def TurnAllSaid : Prop := turnAllRow.holds Tryd.pinned (OpenSpec.ofChange turnAllSpec)

/-- ITS FALSE NEIGHBOUR: 'it returns false'. Refute it at one input. -/
def turnAllWrong : ChangeSpec := { name := "turnAll", fn := fun _ => fun
  | [d1, d2] => { results := [.lit (.bool false)], args := [d1, d2] }
  | _ => none }
def TurnAllWrongFalsely : Prop := turnAllRow.holds Tryd.pinned (OpenSpec.ofChange turnAllWrong)

/-- 'helixlaw09.TurnParts': WHATEVER THE INPUT: true; the input reads as it did. -/
def turnPartsSpec : ChangeSpec := { name := "turnParts", fn := fun _ => fun
  | [d1, d2, d3] => { results := [.lit (.bool true)], args := [d1, d2, d3] }
  | _ => none }
def turnPartsRow : OpenClaim := { program := "ytniiblamoimcjaadoor", sum := "86fa90d8b1af5a9035f3116df1d45cdea40b99ccb02404d8703a0a5be80e1a42", func := "helix/helixlaw09.TurnParts", spec := "turnParts", unfollowed := true, recurses := true, named := ["helix/nt.letters"], apart := false, laid := [("helix/nt.letters", laid_helix_nt_letters)] }
def TurnPartsSaid : Prop := turnPartsRow.holds Tryd.pinned (OpenSpec.ofChange turnPartsSpec)

/-- ITS FALSE NEIGHBOUR: 'it returns false'. Refute it at one input. -/
def turnPartsWrong : ChangeSpec := { name := "turnParts", fn := fun _ => fun
  | [d1, d2, d3] => { results := [.lit (.bool false)], args := [d1, d2, d3] }
  | _ => none }
def TurnPartsWrongFalsely : Prop := turnPartsRow.holds Tryd.pinned (OpenSpec.ofChange turnPartsWrong)

/-- 'helixlaw09.TurnErrors': WHATEVER THE INPUT: true; the input reads as it did. -/
def turnErrorsSpec : ChangeSpec := { name := "turnErrors", fn := fun _ => fun
  | [d1, d2, d3, d4] => { results := [.lit (.bool true)], args := [d1, d2, d3, d4] }
  | _ => none }
def turnErrorsRow : OpenClaim := { program := "ytniiblamoimcjaadoor", sum := "86fa90d8b1af5a9035f3116df1d45cdea40b99ccb02404d8703a0a5be80e1a42", func := "helix/helixlaw09.TurnErrors", spec := "turnErrors", unfollowed := true, recurses := true, named := ["helix/nt.letters"], apart := false, laid := [("helix/nt.letters", laid_helix_nt_letters)] }
def TurnErrorsSaid : Prop := turnErrorsRow.holds Tryd.pinned (OpenSpec.ofChange turnErrorsSpec)

/-- ITS FALSE NEIGHBOUR: 'it returns false'. Refute it at one input. -/
def turnErrorsWrong : ChangeSpec := { name := "turnErrors", fn := fun _ => fun
  | [d1, d2, d3, d4] => { results := [.lit (.bool false)], args := [d1, d2, d3, d4] }
  | _ => none }
def TurnErrorsWrongFalsely : Prop := turnErrorsRow.holds Tryd.pinned (OpenSpec.ofChange turnErrorsWrong)

/- THE SECOND FORM. 'bulk': how many values and letters a reading holds, each counted each time it is reached (what is shared counts as often as it is met; a slice's spare places count too). A statement '..UptoSaid' is the law's where the arguments, and the package variables that the reading takes, are together of bulk at most 1048576: NARROWER than '..Said'. Prove '..Said' where nothing that the law and all that it calls make is longer than what came in: it says more and counts as full. Else prove '..UptoSaid'. A law counts once. -/
mutual
def uptoBulk {H : Type} : DataW H → Nat
  | .lit (.string bytes) => bytes.length + 1
  | .lit _ => 1
  | .nil => 1
  | .ptr d => uptoBulk d + 1
  | .slice elems spare => uptoBulkAll elems + uptoBulkAll spare + 1
  | .agg parts => uptoBulkAll parts + 1
  | .iface _ d => uptoBulk d + 1
  | .map entries => uptoBulkEntries entries + 1
  | .held _ => 1
def uptoBulkAll {H : Type} : List (DataW H) → Nat
  | [] => 0
  | d :: r => uptoBulk d + uptoBulkAll r
def uptoBulkEntries {H : Type} : List (Lit × DataW H) → Nat
  | [] => 0
  | x :: r => uptoBulkEntry x + uptoBulkEntries r
def uptoBulkEntry {H : Type} : Lit × DataW H → Nat
  | (.string bytes, d) => bytes.length + uptoBulk d + 1
  | (_, d) => uptoBulk d + 1
 end
def uptoSmall : (H : Type) → List (DataW H) → Bool := fun _ ds => decide (uptoBulkAll ds ≤ 1048576)
def OpenSpec.upto (s : _root_.Go.ChangeSpec) : _root_.Go.OpenSpec := { _root_.Go.OpenSpec.ofChange s with cond := some uptoSmall }

/-- 'helixlaw09.TurnTells', WHERE WHAT IT READS IS OF BULK AT MOST 1048576: true; the input reads as it did. -/
def turnTellsUptoRow : OpenClaim := { program := "ytniiblamoimcjaadoor", sum := "86fa90d8b1af5a9035f3116df1d45cdea40b99ccb02404d8703a0a5be80e1a42", func := "helix/helixlaw09.TurnTells", spec := "turnTells", unfollowed := true, recurses := true, named := ["helix/nt.letters"], apart := false, laid := [("helix/nt.letters", laid_helix_nt_letters)], narrowed := true }
def TurnTellsUptoSaid : Prop := turnTellsUptoRow.holds Tryd.pinned (OpenSpec.upto turnTellsSpec)

/-- 'helixlaw09.TurnBack', WHERE WHAT IT READS IS OF BULK AT MOST 1048576: true; the input reads as it did. -/
def turnBackUptoRow : OpenClaim := { program := "ytniiblamoimcjaadoor", sum := "86fa90d8b1af5a9035f3116df1d45cdea40b99ccb02404d8703a0a5be80e1a42", func := "helix/helixlaw09.TurnBack", spec := "turnBack", unfollowed := true, recurses := true, named := ["helix/nt.letters"], apart := false, laid := [("helix/nt.letters", laid_helix_nt_letters)], narrowed := true }
def TurnBackUptoSaid : Prop := turnBackUptoRow.holds Tryd.pinned (OpenSpec.upto turnBackSpec)

/-- 'helixlaw09.TurnAll', WHERE WHAT IT READS IS OF BULK AT MOST 1048576: true; the input reads as it did. -/
def turnAllUptoRow : OpenClaim := { program := "ytniiblamoimcjaadoor", sum := "86fa90d8b1af5a9035f3116df1d45cdea40b99ccb02404d8703a0a5be80e1a42", func := "helix/helixlaw09.TurnAll", spec := "turnAll", unfollowed := true, recurses := true, named := ["helix/nt.letters"], apart := false, laid := [("helix/nt.letters", laid_helix_nt_letters)], narrowed := true }
def TurnAllUptoSaid : Prop := turnAllUptoRow.holds Tryd.pinned (OpenSpec.upto turnAllSpec)

/-- 'helixlaw09.TurnParts', WHERE WHAT IT READS IS OF BULK AT MOST 1048576: true; the input reads as it did. -/
def turnPartsUptoRow : OpenClaim := { program := "ytniiblamoimcjaadoor", sum := "86fa90d8b1af5a9035f3116df1d45cdea40b99ccb02404d8703a0a5be80e1a42", func := "helix/helixlaw09.TurnParts", spec := "turnParts", unfollowed := true, recurses := true, named := ["helix/nt.letters"], apart := false, laid := [("helix/nt.letters", laid_helix_nt_letters)], narrowed := true }
def TurnPartsUptoSaid : Prop := turnPartsUptoRow.holds Tryd.pinned (OpenSpec.upto turnPartsSpec)

/-- 'helixlaw09.TurnErrors', WHERE WHAT IT READS IS OF BULK AT MOST 1048576: true; the input reads as it did. -/
def turnErrorsUptoRow : OpenClaim := { program := "ytniiblamoimcjaadoor", sum := "86fa90d8b1af5a9035f3116df1d45cdea40b99ccb02404d8703a0a5be80e1a42", func := "helix/helixlaw09.TurnErrors", spec := "turnErrors", unfollowed := true, recurses := true, named := ["helix/nt.letters"], apart := false, laid := [("helix/nt.letters", laid_helix_nt_letters)], narrowed := true }
def TurnErrorsUptoSaid : Prop := turnErrorsUptoRow.holds Tryd.pinned (OpenSpec.upto turnErrorsSpec)

end Rows
end Go.Proofs.YtniiblamoimcjaaDoor
