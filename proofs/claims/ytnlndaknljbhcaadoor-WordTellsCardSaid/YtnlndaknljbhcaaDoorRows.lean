/-
  NARROWER THAN 'FOR EVERY INPUT', by the rows' own cells (each row's printed sentence says how): WordTells: laid · WordApart: laid · WordFar: laid · WordNear: laid · WordParts: laid.
  DERIVED. THE GIVEN ROWS OF THIS SEAT. 5 by the template 'for every input the law returns true; each argument reads behind the call as it read before'; 0 by the template 'total and deterministic' (their statements: YtnlndaknljbhcaaDoorTotals.lean).
  GIVEN WITH THE SEED: the statements are not yours to turn. If you find one false, say at which input.
  Laid BY PROGRAM, IN A SANDBOX (cutbox-rows.mjs): the forced cells as the released guide's own fill.sh prints them over the translation 352e319611b32bdf… (all of the seat's roots in one cut). By AI agents, Wed Nov 11 2026. No macro, syntax, notation, axiom, sorry.
-/
import Derived.Test.YtnlndaknljbhcaaDoorChecked
import GoSem.Claim
import GoSem.ClaimJoined
import GoSem.ClaimMapViews
import Derived.JoinedTies
import Derived.KernelRfl
namespace Go.Proofs.YtnlndaknljbhcaaDoor
/- THE CELL 'sum', in the pinned program and in every row, IS THE sha256 OF THE DUMP (.gsa) THAT YtnlndaknljbhcaaDoorProg.lean LOADS. Nothing in Lean hashes anything: it is a label: what it is worth is what the hold of that sum in a sandbox is worth. -/
noncomputable def Tryd.pinned : Pinned := { name := "ytnlndaknljbhcaadoor", sum := "352e319611b32bdf827383190ebfcab5289506d7785c32daa47043f9eab7d316", checked := Tryd.checked }
namespace Rows
def none {H : Type} : Left H := { results := [], args := [] }

/- WHAT THE LISTED PACKAGE-LEVEL VARIABLES READ AS WHEN THE CALL BEGINS. Each datum BY PROGRAM (the guide's laid-datum.mjs) off the statement by which the dump's own 'gosem.cut.vars' lays the variable. In a bare row this is a premise. The card (YtnlndaknljbhcaaDoorCards.lean) ties it to the program's text. -/
def laid_helix_bits_classes {H : Type} : DataW H := .agg [.agg [.lit (.int .u8 65), .lit (.int .u8 84)], .agg [.lit (.int .u8 67), .lit (.int .u8 71)]]
def laid_helix_nt_letters {H : Type} : DataW H := .agg [.lit (.int .u8 65), .lit (.int .u8 67), .lit (.int .u8 71), .lit (.int .u8 84)]

/-- 'helixlaw16.WordTells': WHATEVER THE INPUT: true; the input reads as it did. -/
def wordTellsSpec : ChangeSpec := { name := "wordTells", fn := fun _ => fun
  | [d1, d2, d3, d4] => { results := [.lit (.bool true)], args := [d1, d2, d3, d4] }
  | _ => none }
def wordTellsRow : OpenClaim := { program := "ytnlndaknljbhcaadoor", sum := "352e319611b32bdf827383190ebfcab5289506d7785c32daa47043f9eab7d316", func := "helix/helixlaw16.WordTells", spec := "wordTells", unfollowed := true, recurses := true, named := ["helix/nt.letters", "helix/bits.classes"], apart := false, laid := [("helix/bits.classes", laid_helix_bits_classes), ("helix/nt.letters", laid_helix_nt_letters)] }
def WordTellsSaid : Prop := wordTellsRow.holds Tryd.pinned (OpenSpec.ofChange wordTellsSpec)

/-- ITS FALSE NEIGHBOUR: 'it returns false'. Refute it at one input. -/
def wordTellsWrong : ChangeSpec := { name := "wordTells", fn := fun _ => fun
  | [d1, d2, d3, d4] => { results := [.lit (.bool false)], args := [d1, d2, d3, d4] }
  | _ => none }
def WordTellsWrongFalsely : Prop := wordTellsRow.holds Tryd.pinned (OpenSpec.ofChange wordTellsWrong)

/-- 'helixlaw16.WordApart': WHATEVER THE INPUT: true; the input reads as it did. -/
def wordApartSpec : ChangeSpec := { name := "wordApart", fn := fun _ => fun
  | [d1, d2, d3] => { results := [.lit (.bool true)], args := [d1, d2, d3] }
  | _ => none }
def wordApartRow : OpenClaim := { program := "ytnlndaknljbhcaadoor", sum := "352e319611b32bdf827383190ebfcab5289506d7785c32daa47043f9eab7d316", func := "helix/helixlaw16.WordApart", spec := "wordApart", unfollowed := true, recurses := true, named := ["helix/nt.letters", "helix/bits.classes"], apart := false, laid := [("helix/bits.classes", laid_helix_bits_classes), ("helix/nt.letters", laid_helix_nt_letters)] }
def WordApartSaid : Prop := wordApartRow.holds Tryd.pinned (OpenSpec.ofChange wordApartSpec)

/-- ITS FALSE NEIGHBOUR: 'it returns false'. Refute it at one input. -/
def wordApartWrong : ChangeSpec := { name := "wordApart", fn := fun _ => fun
  | [d1, d2, d3] => { results := [.lit (.bool false)], args := [d1, d2, d3] }
  | _ => none }
def WordApartWrongFalsely : Prop := wordApartRow.holds Tryd.pinned (OpenSpec.ofChange wordApartWrong)

/-- 'helixlaw16.WordFar': WHATEVER THE INPUT: true; the input reads as it did. -/
def wordFarSpec : ChangeSpec := { name := "wordFar", fn := fun _ => fun
  | [d1, d2] => { results := [.lit (.bool true)], args := [d1, d2] }
  | _ => none }
def wordFarRow : OpenClaim := { program := "ytnlndaknljbhcaadoor", sum := "352e319611b32bdf827383190ebfcab5289506d7785c32daa47043f9eab7d316", func := "helix/helixlaw16.WordFar", spec := "wordFar", unfollowed := true, recurses := true, named := ["helix/nt.letters", "helix/bits.classes"], apart := false, laid := [("helix/bits.classes", laid_helix_bits_classes), ("helix/nt.letters", laid_helix_nt_letters)] }
def WordFarSaid : Prop := wordFarRow.holds Tryd.pinned (OpenSpec.ofChange wordFarSpec)

/-- ITS FALSE NEIGHBOUR: 'it returns false'. Refute it at one input. -/
def wordFarWrong : ChangeSpec := { name := "wordFar", fn := fun _ => fun
  | [d1, d2] => { results := [.lit (.bool false)], args := [d1, d2] }
  | _ => none }
def WordFarWrongFalsely : Prop := wordFarRow.holds Tryd.pinned (OpenSpec.ofChange wordFarWrong)

/-- 'helixlaw16.WordNear': WHATEVER THE INPUT: true; the input reads as it did. -/
def wordNearSpec : ChangeSpec := { name := "wordNear", fn := fun _ => fun
  | [d1, d2] => { results := [.lit (.bool true)], args := [d1, d2] }
  | _ => none }
def wordNearRow : OpenClaim := { program := "ytnlndaknljbhcaadoor", sum := "352e319611b32bdf827383190ebfcab5289506d7785c32daa47043f9eab7d316", func := "helix/helixlaw16.WordNear", spec := "wordNear", unfollowed := true, recurses := true, named := ["helix/nt.letters", "helix/bits.classes"], apart := false, laid := [("helix/bits.classes", laid_helix_bits_classes), ("helix/nt.letters", laid_helix_nt_letters)] }
def WordNearSaid : Prop := wordNearRow.holds Tryd.pinned (OpenSpec.ofChange wordNearSpec)

/-- ITS FALSE NEIGHBOUR: 'it returns false'. Refute it at one input. -/
def wordNearWrong : ChangeSpec := { name := "wordNear", fn := fun _ => fun
  | [d1, d2] => { results := [.lit (.bool false)], args := [d1, d2] }
  | _ => none }
def WordNearWrongFalsely : Prop := wordNearRow.holds Tryd.pinned (OpenSpec.ofChange wordNearWrong)

/-- 'helixlaw16.WordParts': WHATEVER THE INPUT: true; the input reads as it did. -/
def wordPartsSpec : ChangeSpec := { name := "wordParts", fn := fun _ => fun
  | [d] => { results := [.lit (.bool true)], args := [d] }
  | _ => none }
def wordPartsRow : OpenClaim := { program := "ytnlndaknljbhcaadoor", sum := "352e319611b32bdf827383190ebfcab5289506d7785c32daa47043f9eab7d316", func := "helix/helixlaw16.WordParts", spec := "wordParts", unfollowed := true, recurses := true, named := ["helix/nt.letters", "helix/bits.classes"], apart := false, laid := [("helix/bits.classes", laid_helix_bits_classes), ("helix/nt.letters", laid_helix_nt_letters)] }
def WordPartsSaid : Prop := wordPartsRow.holds Tryd.pinned (OpenSpec.ofChange wordPartsSpec)

/-- ITS FALSE NEIGHBOUR: 'it returns false'. Refute it at one input. -/
def wordPartsWrong : ChangeSpec := { name := "wordParts", fn := fun _ => fun
  | [d] => { results := [.lit (.bool false)], args := [d] }
  | _ => none }
def WordPartsWrongFalsely : Prop := wordPartsRow.holds Tryd.pinned (OpenSpec.ofChange wordPartsWrong)

/- THE SECOND FORM. 'bulk': how many values and letters a reading holds, each counted each time it is reached (what is shared counts as often as it is met; a slice's spare places count too). A statement '..UptoSaid' is the law's where the arguments, and the package variables that the reading takes, are together of bulk at most 1048576: NARROWER than '..Said'. Prove '..Said' where nothing that the law and all that it calls make is longer than what came in: it says more and counts as full. Else prove '..UptoSaid'. A law counts once. -/
mutual
def uptoBulk {H : Type} : DataW H → Nat
  | .lit (.string bytes) => bytes.length + 1
  | .lit _ => 1
  | .nil => 1
  | .ptr d => uptoBulk d + 1
  | .slice elems spare => uptoBulkAll elems + uptoBulkAll spare + 1
  | .agg parts => uptoBulkAll parts + 1
  | .iface _ d => uptoBulk d + 1
  | .map entries => uptoBulkEntries entries + 1
  | .held _ => 1
def uptoBulkAll {H : Type} : List (DataW H) → Nat
  | [] => 0
  | d :: r => uptoBulk d + uptoBulkAll r
def uptoBulkEntries {H : Type} : List (Lit × DataW H) → Nat
  | [] => 0
  | x :: r => uptoBulkEntry x + uptoBulkEntries r
def uptoBulkEntry {H : Type} : Lit × DataW H → Nat
  | (.string bytes, d) => bytes.length + uptoBulk d + 1
  | (_, d) => uptoBulk d + 1
 end
def uptoSmall : (H : Type) → List (DataW H) → Bool := fun _ ds => decide (uptoBulkAll ds ≤ 1048576)
def OpenSpec.upto (s : _root_.Go.ChangeSpec) : _root_.Go.OpenSpec := { _root_.Go.OpenSpec.ofChange s with cond := some uptoSmall }

/-- 'helixlaw16.WordTells', WHERE WHAT IT READS IS OF BULK AT MOST 1048576: true; the input reads as it did. -/
def wordTellsUptoRow : OpenClaim := { program := "ytnlndaknljbhcaadoor", sum := "352e319611b32bdf827383190ebfcab5289506d7785c32daa47043f9eab7d316", func := "helix/helixlaw16.WordTells", spec := "wordTells", unfollowed := true, recurses := true, named := ["helix/nt.letters", "helix/bits.classes"], apart := false, laid := [("helix/bits.classes", laid_helix_bits_classes), ("helix/nt.letters", laid_helix_nt_letters)], narrowed := true }
def WordTellsUptoSaid : Prop := wordTellsUptoRow.holds Tryd.pinned (OpenSpec.upto wordTellsSpec)

/-- 'helixlaw16.WordApart', WHERE WHAT IT READS IS OF BULK AT MOST 1048576: true; the input reads as it did. -/
def wordApartUptoRow : OpenClaim := { program := "ytnlndaknljbhcaadoor", sum := "352e319611b32bdf827383190ebfcab5289506d7785c32daa47043f9eab7d316", func := "helix/helixlaw16.WordApart", spec := "wordApart", unfollowed := true, recurses := true, named := ["helix/nt.letters", "helix/bits.classes"], apart := false, laid := [("helix/bits.classes", laid_helix_bits_classes), ("helix/nt.letters", laid_helix_nt_letters)], narrowed := true }
def WordApartUptoSaid : Prop := wordApartUptoRow.holds Tryd.pinned (OpenSpec.upto wordApartSpec)

/-- 'helixlaw16.WordFar', WHERE WHAT IT READS IS OF BULK AT MOST 1048576: true; the input reads as it did. -/
def wordFarUptoRow : OpenClaim := { program := "ytnlndaknljbhcaadoor", sum := "352e319611b32bdf827383190ebfcab5289506d7785c32daa47043f9eab7d316", func := "helix/helixlaw16.WordFar", spec := "wordFar", unfollowed := true, recurses := true, named := ["helix/nt.letters", "helix/bits.classes"], apart := false, laid := [("helix/bits.classes", laid_helix_bits_classes), ("helix/nt.letters", laid_helix_nt_letters)], narrowed := true }
def WordFarUptoSaid : Prop := wordFarUptoRow.holds Tryd.pinned (OpenSpec.upto wordFarSpec)

/-- 'helixlaw16.WordNear', WHERE WHAT IT READS IS OF BULK AT MOST 1048576: true; the input reads as it did. -/
def wordNearUptoRow : OpenClaim := { program := "ytnlndaknljbhcaadoor", sum := "352e319611b32bdf827383190ebfcab5289506d7785c32daa47043f9eab7d316", func := "helix/helixlaw16.WordNear", spec := "wordNear", unfollowed := true, recurses := true, named := ["helix/nt.letters", "helix/bits.classes"], apart := false, laid := [("helix/bits.classes", laid_helix_bits_classes), ("helix/nt.letters", laid_helix_nt_letters)], narrowed := true }
def WordNearUptoSaid : Prop := wordNearUptoRow.holds Tryd.pinned (OpenSpec.upto wordNearSpec)

/-- 'helixlaw16.WordParts', WHERE WHAT IT READS IS OF BULK AT MOST 1048576: true; the input reads as it did. -/
def wordPartsUptoRow : OpenClaim := { program := "ytnlndaknljbhcaadoor", sum := "352e319611b32bdf827383190ebfcab5289506d7785c32daa47043f9eab7d316", func := "helix/helixlaw16.WordParts", spec := "wordParts", unfollowed := true, recurses := true, named := ["helix/nt.letters", "helix/bits.classes"], apart := false, laid := [("helix/bits.classes", laid_helix_bits_classes), ("helix/nt.letters", laid_helix_nt_letters)], narrowed := true }
def WordPartsUptoSaid : Prop := wordPartsUptoRow.holds Tryd.pinned (OpenSpec.upto wordPartsSpec)

end Rows
end Go.Proofs.YtnlndaknljbhcaaDoor
