/-
  NARROWER THAN 'FOR EVERY INPUT', by the rows' own cells (each row's printed sentence says how): ShapeTells: laid · ShapeAll: laid · ShapeEven: laid · ShapeMore: laid.
  DERIVED. THE GIVEN ROWS OF THIS SEAT. 4 by the template 'for every input the law returns true; each argument reads behind the call as it read before'; 0 by the template 'total and deterministic' (their statements: YtjfhbhidnlgabaaDoorTotals.lean).
  GIVEN WITH THE SEED: the statements are not yours to turn. If you find one false, say at which input.
  Laid BY PROGRAM, IN A SANDBOX (cutbox-rows.mjs): the forced cells as the released guide's own fill.sh prints them over the translation 72717d2ab932125f… (all of the seat's roots in one cut). By AI agents, Wed Nov 11 2026. No macro, syntax, notation, axiom, sorry.
-/
import Derived.Test.YtjfhbhidnlgabaaDoorChecked
import GoSem.Claim
import GoSem.ClaimJoined
import GoSem.ClaimMapViews
import Derived.JoinedTies
import Derived.KernelRfl
namespace Go.Proofs.YtjfhbhidnlgabaaDoor
/- THE CELL 'sum', in the pinned program and in every row, IS THE sha256 OF THE DUMP (.gsa) THAT YtjfhbhidnlgabaaDoorProg.lean LOADS. Nothing in Lean hashes anything: it is a label: what it is worth is what the hold of that sum in a sandbox is worth. -/
noncomputable def Tryd.pinned : Pinned := { name := "ytjfhbhidnlgabaadoor", sum := "72717d2ab932125fe141934d09d71c35d6da7e68434b396a2b9d7ba2437191fa", checked := Tryd.checked }
namespace Rows
def none {H : Type} : Left H := { results := [], args := [] }

/- WHAT THE LISTED PACKAGE-LEVEL VARIABLES READ AS WHEN THE CALL BEGINS. Each datum BY PROGRAM (the guide's laid-datum.mjs) off the statement by which the dump's own 'gosem.cut.vars' lays the variable. In a bare row this is a premise. The card (YtjfhbhidnlgabaaDoorCards.lean) ties it to the program's text. -/
def laid_helix_shape_payloads {H : Type} : DataW H := .agg [.lit (.int .i64 2), .lit (.int .i64 7), .lit (.int .i64 12), .lit (.int .i64 17), .lit (.int .i64 22)]

/-- 'helixlaw18.ShapeTells': WHATEVER THE INPUT: true; the input reads as it did. -/
def shapeTellsSpec : ChangeSpec := { name := "shapeTells", fn := fun _ => fun
  | [d1, d2, d3] => { results := [.lit (.bool true)], args := [d1, d2, d3] }
  | _ => none }
def shapeTellsRow : OpenClaim := { program := "ytjfhbhidnlgabaadoor", sum := "72717d2ab932125fe141934d09d71c35d6da7e68434b396a2b9d7ba2437191fa", func := "helix/helixlaw18.ShapeTells", spec := "shapeTells", unfollowed := true, recurses := true, named := ["helix/shape.payloads"], apart := false, laid := [("helix/shape.payloads", laid_helix_shape_payloads)] }
def ShapeTellsSaid : Prop := shapeTellsRow.holds Tryd.pinned (OpenSpec.ofChange shapeTellsSpec)

/-- ITS FALSE NEIGHBOUR: 'it returns false'. Refute it at one input. -/
def shapeTellsWrong : ChangeSpec := { name := "shapeTells", fn := fun _ => fun
  | [d1, d2, d3] => { results := [.lit (.bool false)], args := [d1, d2, d3] }
  | _ => none }
def ShapeTellsWrongFalsely : Prop := shapeTellsRow.holds Tryd.pinned (OpenSpec.ofChange shapeTellsWrong)

/-- 'helixlaw18.ShapeAll': WHATEVER THE INPUT: true; the input reads as it did. -/
def shapeAllSpec : ChangeSpec := { name := "shapeAll", fn := fun _ => fun
  | [d1, d2] => { results := [.lit (.bool true)], args := [d1, d2] }
  | _ => none }
def shapeAllRow : OpenClaim := { program := "ytjfhbhidnlgabaadoor", sum := "72717d2ab932125fe141934d09d71c35d6da7e68434b396a2b9d7ba2437191fa", func := "helix/helixlaw18.ShapeAll", spec := "shapeAll", unfollowed := true, recurses := true, named := ["helix/shape.payloads"], apart := false, laid := [("helix/shape.payloads", laid_helix_shape_payloads)] }
def ShapeAllSaid : Prop := shapeAllRow.holds Tryd.pinned (OpenSpec.ofChange shapeAllSpec)

/-- ITS FALSE NEIGHBOUR: 'it returns false'. Refute it at one input. -/
def shapeAllWrong : ChangeSpec := { name := "shapeAll", fn := fun _ => fun
  | [d1, d2] => { results := [.lit (.bool false)], args := [d1, d2] }
  | _ => none }
def ShapeAllWrongFalsely : Prop := shapeAllRow.holds Tryd.pinned (OpenSpec.ofChange shapeAllWrong)

/-- 'helixlaw18.ShapeEven': WHATEVER THE INPUT: true; the input reads as it did. -/
def shapeEvenSpec : ChangeSpec := { name := "shapeEven", fn := fun _ => fun
  | [d] => { results := [.lit (.bool true)], args := [d] }
  | _ => none }
def shapeEvenRow : OpenClaim := { program := "ytjfhbhidnlgabaadoor", sum := "72717d2ab932125fe141934d09d71c35d6da7e68434b396a2b9d7ba2437191fa", func := "helix/helixlaw18.ShapeEven", spec := "shapeEven", unfollowed := true, recurses := true, named := ["helix/shape.payloads"], apart := false, laid := [("helix/shape.payloads", laid_helix_shape_payloads)] }
def ShapeEvenSaid : Prop := shapeEvenRow.holds Tryd.pinned (OpenSpec.ofChange shapeEvenSpec)

/-- ITS FALSE NEIGHBOUR: 'it returns false'. Refute it at one input. -/
def shapeEvenWrong : ChangeSpec := { name := "shapeEven", fn := fun _ => fun
  | [d] => { results := [.lit (.bool false)], args := [d] }
  | _ => none }
def ShapeEvenWrongFalsely : Prop := shapeEvenRow.holds Tryd.pinned (OpenSpec.ofChange shapeEvenWrong)

/-- 'helixlaw18.ShapeMore': WHATEVER THE INPUT: true; the input reads as it did. -/
def shapeMoreSpec : ChangeSpec := { name := "shapeMore", fn := fun _ => fun
  | [d1, d2, d3, d4] => { results := [.lit (.bool true)], args := [d1, d2, d3, d4] }
  | _ => none }
def shapeMoreRow : OpenClaim := { program := "ytjfhbhidnlgabaadoor", sum := "72717d2ab932125fe141934d09d71c35d6da7e68434b396a2b9d7ba2437191fa", func := "helix/helixlaw18.ShapeMore", spec := "shapeMore", unfollowed := true, recurses := true, named := ["helix/shape.payloads"], apart := false, laid := [("helix/shape.payloads", laid_helix_shape_payloads)] }
def ShapeMoreSaid : Prop := shapeMoreRow.holds Tryd.pinned (OpenSpec.ofChange shapeMoreSpec)

/-- ITS FALSE NEIGHBOUR: 'it returns false'. Refute it at one input. -/
def shapeMoreWrong : ChangeSpec := { name := "shapeMore", fn := fun _ => fun
  | [d1, d2, d3, d4] => { results := [.lit (.bool false)], args := [d1, d2, d3, d4] }
  | _ => none }
def ShapeMoreWrongFalsely : Prop := shapeMoreRow.holds Tryd.pinned (OpenSpec.ofChange shapeMoreWrong)

/- THE SECOND FORM. 'bulk': how many values and letters a reading holds, each counted each time it is reached (what is shared counts as often as it is met; a slice's spare places count too). A statement '..UptoSaid' is the law's where the arguments, and the package variables that the reading takes, are together of bulk at most 1048576: NARROWER than '..Said'. Prove '..Said' where nothing that the law and all that it calls make is longer than what came in: it says more and counts as full. Else prove '..UptoSaid'. A law counts once. -/
mutual
def uptoBulk {H : Type} : DataW H → Nat
  | .lit (.string bytes) => bytes.length + 1
  | .lit _ => 1
  | .nil => 1
  | .ptr d => uptoBulk d + 1
  | .slice elems spare => uptoBulkAll elems + uptoBulkAll spare + 1
  | .agg parts => uptoBulkAll parts + 1
  | .iface _ d => uptoBulk d + 1
  | .map entries => uptoBulkEntries entries + 1
  | .held _ => 1
def uptoBulkAll {H : Type} : List (DataW H) → Nat
  | [] => 0
  | d :: r => uptoBulk d + uptoBulkAll r
def uptoBulkEntries {H : Type} : List (Lit × DataW H) → Nat
  | [] => 0
  | x :: r => uptoBulkEntry x + uptoBulkEntries r
def uptoBulkEntry {H : Type} : Lit × DataW H → Nat
  | (.string bytes, d) => bytes.length + uptoBulk d + 1
  | (_, d) => uptoBulk d + 1
 end
def uptoSmall : (H : Type) → List (DataW H) → Bool := fun _ ds => decide (uptoBulkAll ds ≤ 1048576)
def OpenSpec.upto (s : _root_.Go.ChangeSpec) : _root_.Go.OpenSpec := { _root_.Go.OpenSpec.ofChange s with cond := some uptoSmall }

/-- 'helixlaw18.ShapeTells', WHERE WHAT IT READS IS OF BULK AT MOST 1048576: true; the input reads as it did. -/
def shapeTellsUptoRow : OpenClaim := { program := "ytjfhbhidnlgabaadoor", sum := "72717d2ab932125fe141934d09d71c35d6da7e68434b396a2b9d7ba2437191fa", func := "helix/helixlaw18.ShapeTells", spec := "shapeTells", unfollowed := true, recurses := true, named := ["helix/shape.payloads"], apart := false, laid := [("helix/shape.payloads", laid_helix_shape_payloads)], narrowed := true }
def ShapeTellsUptoSaid : Prop := shapeTellsUptoRow.holds Tryd.pinned (OpenSpec.upto shapeTellsSpec)

/-- 'helixlaw18.ShapeAll', WHERE WHAT IT READS IS OF BULK AT MOST 1048576: true; the input reads as it did. -/
def shapeAllUptoRow : OpenClaim := { program := "ytjfhbhidnlgabaadoor", sum := "72717d2ab932125fe141934d09d71c35d6da7e68434b396a2b9d7ba2437191fa", func := "helix/helixlaw18.ShapeAll", spec := "shapeAll", unfollowed := true, recurses := true, named := ["helix/shape.payloads"], apart := false, laid := [("helix/shape.payloads", laid_helix_shape_payloads)], narrowed := true }
def ShapeAllUptoSaid : Prop := shapeAllUptoRow.holds Tryd.pinned (OpenSpec.upto shapeAllSpec)

/-- 'helixlaw18.ShapeEven', WHERE WHAT IT READS IS OF BULK AT MOST 1048576: true; the input reads as it did. -/
def shapeEvenUptoRow : OpenClaim := { program := "ytjfhbhidnlgabaadoor", sum := "72717d2ab932125fe141934d09d71c35d6da7e68434b396a2b9d7ba2437191fa", func := "helix/helixlaw18.ShapeEven", spec := "shapeEven", unfollowed := true, recurses := true, named := ["helix/shape.payloads"], apart := false, laid := [("helix/shape.payloads", laid_helix_shape_payloads)], narrowed := true }
def ShapeEvenUptoSaid : Prop := shapeEvenUptoRow.holds Tryd.pinned (OpenSpec.upto shapeEvenSpec)

/-- 'helixlaw18.ShapeMore', WHERE WHAT IT READS IS OF BULK AT MOST 1048576: true; the input reads as it did. -/
def shapeMoreUptoRow : OpenClaim := { program := "ytjfhbhidnlgabaadoor", sum := "72717d2ab932125fe141934d09d71c35d6da7e68434b396a2b9d7ba2437191fa", func := "helix/helixlaw18.ShapeMore", spec := "shapeMore", unfollowed := true, recurses := true, named := ["helix/shape.payloads"], apart := false, laid := [("helix/shape.payloads", laid_helix_shape_payloads)], narrowed := true }
def ShapeMoreUptoSaid : Prop := shapeMoreUptoRow.holds Tryd.pinned (OpenSpec.upto shapeMoreSpec)

end Rows
end Go.Proofs.YtjfhbhidnlgabaaDoor
