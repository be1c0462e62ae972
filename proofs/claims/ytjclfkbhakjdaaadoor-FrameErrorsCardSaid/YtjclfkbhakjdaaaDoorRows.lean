/-
  NARROWER THAN 'FOR EVERY INPUT', by the rows' own cells (each row's printed sentence says how): FrameBack: laid · FrameOnly: laid · FrameErrors: laid.
  DERIVED. THE GIVEN ROWS OF THIS SEAT. 3 by the template 'for every input the law returns true; each argument reads behind the call as it read before'; 0 by the template 'total and deterministic' (their statements: YtjclfkbhakjdaaaDoorTotals.lean).
  GIVEN WITH THE SEED: the statements are not yours to turn. If you find one false, say at which input.
  Laid BY PROGRAM, IN A SANDBOX (cutbox-rows.mjs): the forced cells as the released guide's own fill.sh prints them over the translation 09e9738dc8d37584… (all of the seat's roots in one cut). By AI agents, Wed Nov 11 2026. No macro, syntax, notation, axiom, sorry.
-/
import Derived.Test.YtjclfkbhakjdaaaDoorChecked
import GoSem.Claim
import GoSem.ClaimJoined
import GoSem.ClaimMapViews
import Derived.JoinedTies
import Derived.KernelRfl
namespace Go.Proofs.YtjclfkbhakjdaaaDoor
/- THE CELL 'sum', in the pinned program and in every row, IS THE sha256 OF THE DUMP (.gsa) THAT YtjclfkbhakjdaaaDoorProg.lean LOADS. Nothing in Lean hashes anything: it is a label: what it is worth is what the hold of that sum in a sandbox is worth. -/
noncomputable def Tryd.pinned : Pinned := { name := "ytjclfkbhakjdaaadoor", sum := "09e9738dc8d3758427630a6a21d2d8fcdd2f87fdf378845c0555e0e5fda2566e", checked := Tryd.checked }
namespace Rows
def none {H : Type} : Left H := { results := [], args := [] }

/- WHAT THE LISTED PACKAGE-LEVEL VARIABLES READ AS WHEN THE CALL BEGINS. Each datum BY PROGRAM (the guide's laid-datum.mjs) off the statement by which the dump's own 'gosem.cut.vars' lays the variable. In a bare row this is a premise. The card (YtjclfkbhakjdaaaDoorCards.lean) ties it to the program's text. -/
def laid_helix_bits_classes {H : Type} : DataW H := .agg [.agg [.lit (.int .u8 65), .lit (.int .u8 84)], .agg [.lit (.int .u8 67), .lit (.int .u8 71)]]
def laid_helix_nt_letters {H : Type} : DataW H := .agg [.lit (.int .u8 65), .lit (.int .u8 67), .lit (.int .u8 71), .lit (.int .u8 84)]
def laid_helix_balance_other {H : Type} : DataW H := .agg [.lit (.int .u8 67), .lit (.int .u8 65), .lit (.int .u8 84), .lit (.int .u8 71)]
def laid_helix_shape_payloads {H : Type} : DataW H := .agg [.lit (.int .i64 2), .lit (.int .i64 7), .lit (.int .i64 12), .lit (.int .i64 17), .lit (.int .i64 22)]

/-- 'helixlaw19.FrameBack': WHATEVER THE INPUT: true; the input reads as it did. -/
def frameBackSpec : ChangeSpec := { name := "frameBack", fn := fun _ => fun
  | [d1, d2, d3] => { results := [.lit (.bool true)], args := [d1, d2, d3] }
  | _ => none }
def frameBackRow : OpenClaim := { program := "ytjclfkbhakjdaaadoor", sum := "09e9738dc8d3758427630a6a21d2d8fcdd2f87fdf378845c0555e0e5fda2566e", func := "helix/helixlaw19.FrameBack", spec := "frameBack", unfollowed := true, recurses := true, named := ["helix/shape.payloads", "helix/nt.letters", "helix/balance.other", "helix/bits.classes"], apart := false, laid := [("helix/bits.classes", laid_helix_bits_classes), ("helix/nt.letters", laid_helix_nt_letters), ("helix/balance.other", laid_helix_balance_other), ("helix/shape.payloads", laid_helix_shape_payloads)] }
def FrameBackSaid : Prop := frameBackRow.holds Tryd.pinned (OpenSpec.ofChange frameBackSpec)

/-- ITS FALSE NEIGHBOUR: 'it returns false'. Refute it at one input. -/
def frameBackWrong : ChangeSpec := { name := "frameBack", fn := fun _ => fun
  | [d1, d2, d3] => { results := [.lit (.bool false)], args := [d1, d2, d3] }
  | _ => none }
def FrameBackWrongFalsely : Prop := frameBackRow.holds Tryd.pinned (OpenSpec.ofChange frameBackWrong)

/-- 'helixlaw19.FrameOnly': WHATEVER THE INPUT: true; the input reads as it did. -/
def frameOnlySpec : ChangeSpec := { name := "frameOnly", fn := fun _ => fun
  | [d1, d2, d3] => { results := [.lit (.bool true)], args := [d1, d2, d3] }
  | _ => none }
def frameOnlyRow : OpenClaim := { program := "ytjclfkbhakjdaaadoor", sum := "09e9738dc8d3758427630a6a21d2d8fcdd2f87fdf378845c0555e0e5fda2566e", func := "helix/helixlaw19.FrameOnly", spec := "frameOnly", unfollowed := true, recurses := true, named := ["helix/shape.payloads", "helix/nt.letters", "helix/balance.other", "helix/bits.classes"], apart := false, laid := [("helix/bits.classes", laid_helix_bits_classes), ("helix/nt.letters", laid_helix_nt_letters), ("helix/balance.other", laid_helix_balance_other), ("helix/shape.payloads", laid_helix_shape_payloads)] }
def FrameOnlySaid : Prop := frameOnlyRow.holds Tryd.pinned (OpenSpec.ofChange frameOnlySpec)

/-- ITS FALSE NEIGHBOUR: 'it returns false'. Refute it at one input. -/
def frameOnlyWrong : ChangeSpec := { name := "frameOnly", fn := fun _ => fun
  | [d1, d2, d3] => { results := [.lit (.bool false)], args := [d1, d2, d3] }
  | _ => none }
def FrameOnlyWrongFalsely : Prop := frameOnlyRow.holds Tryd.pinned (OpenSpec.ofChange frameOnlyWrong)

/-- 'helixlaw19.FrameErrors': WHATEVER THE INPUT: true; the input reads as it did. -/
def frameErrorsSpec : ChangeSpec := { name := "frameErrors", fn := fun _ => fun
  | [d1, d2, d3] => { results := [.lit (.bool true)], args := [d1, d2, d3] }
  | _ => none }
def frameErrorsRow : OpenClaim := { program := "ytjclfkbhakjdaaadoor", sum := "09e9738dc8d3758427630a6a21d2d8fcdd2f87fdf378845c0555e0e5fda2566e", func := "helix/helixlaw19.FrameErrors", spec := "frameErrors", unfollowed := true, recurses := true, named := ["helix/shape.payloads", "helix/nt.letters", "helix/balance.other", "helix/bits.classes"], apart := false, laid := [("helix/bits.classes", laid_helix_bits_classes), ("helix/nt.letters", laid_helix_nt_letters), ("helix/balance.other", laid_helix_balance_other), ("helix/shape.payloads", laid_helix_shape_payloads)] }
def FrameErrorsSaid : Prop := frameErrorsRow.holds Tryd.pinned (OpenSpec.ofChange frameErrorsSpec)

/-- ITS FALSE NEIGHBOUR: 'it returns false'. Refute it at one input. -/
def frameErrorsWrong : ChangeSpec := { name := "frameErrors", fn := fun _ => fun
  | [d1, d2, d3] => { results := [.lit (.bool false)], args := [d1, d2, d3] }
  | _ => none }
def FrameErrorsWrongFalsely : Prop := frameErrorsRow.holds Tryd.pinned (OpenSpec.ofChange frameErrorsWrong)

/- THE SECOND FORM. 'bulk': how many values and letters a reading holds, each counted each time it is reached (what is shared counts as often as it is met; a slice's spare places count too). A statement '..UptoSaid' is the law's where the arguments, and the package variables that the reading takes, are together of bulk at most 1048576: NARROWER than '..Said'. Prove '..Said' where nothing that the law and all that it calls make is longer than what came in: it says more and counts as full. Else prove '..UptoSaid'. A law counts once. -/
mutual
def uptoBulk {H : Type} : DataW H → Nat
  | .lit (.string bytes) => bytes.length + 1
  | .lit _ => 1
  | .nil => 1
  | .ptr d => uptoBulk d + 1
  | .slice elems spare => uptoBulkAll elems + uptoBulkAll spare + 1
  | .agg parts => uptoBulkAll parts + 1
  | .iface _ d => uptoBulk d + 1
  | .map entries => uptoBulkEntries entries + 1
  | .held _ => 1
def uptoBulkAll {H : Type} : List (DataW H) → Nat
  | [] => 0
  | d :: r => uptoBulk d + uptoBulkAll r
def uptoBulkEntries {H : Type} : List (Lit × DataW H) → Nat
  | [] => 0
  | x :: r => uptoBulkEntry x + uptoBulkEntries r
def uptoBulkEntry {H : Type} : Lit × DataW H → Nat
  | (.string bytes, d) => bytes.length + uptoBulk d + 1
  | (_, d) => uptoBulk d + 1
 end
def uptoSmall : (H : Type) → List (DataW H) → Bool := fun _ ds => decide (uptoBulkAll ds ≤ 1048576)
def OpenSpec.upto (s : _root_.Go.ChangeSpec) : _root_.Go.OpenSpec := { _root_.Go.OpenSpec.ofChange s with cond := some uptoSmall }

/-- 'helixlaw19.FrameBack', WHERE WHAT IT READS IS OF BULK AT MOST 1048576: true; the input reads as it did. -/
def frameBackUptoRow : OpenClaim := { program := "ytjclfkbhakjdaaadoor", sum := "09e9738dc8d3758427630a6a21d2d8fcdd2f87fdf378845c0555e0e5fda2566e", func := "helix/helixlaw19.FrameBack", spec := "frameBack", unfollowed := true, recurses := true, named := ["helix/shape.payloads", "helix/nt.letters", "helix/balance.other", "helix/bits.classes"], apart := false, laid := [("helix/bits.classes", laid_helix_bits_classes), ("helix/nt.letters", laid_helix_nt_letters), ("helix/balance.other", laid_helix_balance_other), ("helix/shape.payloads", laid_helix_shape_payloads)], narrowed := true }
def FrameBackUptoSaid : Prop := frameBackUptoRow.holds Tryd.pinned (OpenSpec.upto frameBackSpec)

/-- 'helixlaw19.FrameOnly', WHERE WHAT IT READS IS OF BULK AT MOST 1048576: true; the input reads as it did. -/
def frameOnlyUptoRow : OpenClaim := { program := "ytjclfkbhakjdaaadoor", sum := "09e9738dc8d3758427630a6a21d2d8fcdd2f87fdf378845c0555e0e5fda2566e", func := "helix/helixlaw19.FrameOnly", spec := "frameOnly", unfollowed := true, recurses := true, named := ["helix/shape.payloads", "helix/nt.letters", "helix/balance.other", "helix/bits.classes"], apart := false, laid := [("helix/bits.classes", laid_helix_bits_classes), ("helix/nt.letters", laid_helix_nt_letters), ("helix/balance.other", laid_helix_balance_other), ("helix/shape.payloads", laid_helix_shape_payloads)], narrowed := true }
def FrameOnlyUptoSaid : Prop := frameOnlyUptoRow.holds Tryd.pinned (OpenSpec.upto frameOnlySpec)

/-- 'helixlaw19.FrameErrors', WHERE WHAT IT READS IS OF BULK AT MOST 1048576: true; the input reads as it did. -/
def frameErrorsUptoRow : OpenClaim := { program := "ytjclfkbhakjdaaadoor", sum := "09e9738dc8d3758427630a6a21d2d8fcdd2f87fdf378845c0555e0e5fda2566e", func := "helix/helixlaw19.FrameErrors", spec := "frameErrors", unfollowed := true, recurses := true, named := ["helix/shape.payloads", "helix/nt.letters", "helix/balance.other", "helix/bits.classes"], apart := false, laid := [("helix/bits.classes", laid_helix_bits_classes), ("helix/nt.letters", laid_helix_nt_letters), ("helix/balance.other", laid_helix_balance_other), ("helix/shape.payloads", laid_helix_shape_payloads)], narrowed := true }
def FrameErrorsUptoSaid : Prop := frameErrorsUptoRow.holds Tryd.pinned (OpenSpec.upto frameErrorsSpec)

end Rows
end Go.Proofs.YtjclfkbhakjdaaaDoor
