/-
  NARROWER THAN 'FOR EVERY INPUT', by the rows' own cells (each row's printed sentence says how): GapTells: laid · GapBack: laid · GapOnly: laid · GapRuns: laid · GapErrors: laid · SwapTells: laid · SwapBack: laid · SwapOnly: laid · SwapTwo: laid · SwapErrors: laid.
  DERIVED. THE GIVEN ROWS OF THIS SEAT. 10 by the template 'for every input the law returns true; each argument reads behind the call as it read before'; 0 by the template 'total and deterministic' (their statements: YtmdpodgodhkjdaaDoorTotals.lean).
  GIVEN WITH THE SEED: the statements are not yours to turn. If you find one false, say at which input.
  Laid BY PROGRAM, IN A SANDBOX (cutbox-rows.mjs): the forced cells as the released guide's own fill.sh prints them over the translation 11bf4b475eeeadbb… (all of the seat's roots in one cut). By AI agents, Wed Nov 11 2026. No macro, syntax, notation, axiom, sorry.
-/
import Derived.Test.YtmdpodgodhkjdaaDoorChecked
import GoSem.Claim
import GoSem.ClaimJoined
import GoSem.ClaimMapViews
import Derived.JoinedTies
import Derived.KernelRfl
namespace Go.Proofs.YtmdpodgodhkjdaaDoor
/- THE CELL 'sum', in the pinned program and in every row, IS THE sha256 OF THE DUMP (.gsa) THAT YtmdpodgodhkjdaaDoorProg.lean LOADS. Nothing in Lean hashes anything: it is a label: what it is worth is what the hold of that sum in a sandbox is worth. -/
noncomputable def Tryd.pinned : Pinned := { name := "ytmdpodgodhkjdaadoor", sum := "11bf4b475eeeadbbd0a6d27a395110e62c01eeebc9fd8fa05401d85c0b2bafd2", checked := Tryd.checked }
namespace Rows
def none {H : Type} : Left H := { results := [], args := [] }

/- WHAT THE LISTED PACKAGE-LEVEL VARIABLES READ AS WHEN THE CALL BEGINS. Each datum BY PROGRAM (the guide's laid-datum.mjs) off the statement by which the dump's own 'gosem.cut.vars' lays the variable. In a bare row this is a premise. The card (YtmdpodgodhkjdaaDoorCards.lean) ties it to the program's text. -/
def laid_helix_nt_letters {H : Type} : DataW H := .agg [.lit (.int .u8 65), .lit (.int .u8 67), .lit (.int .u8 71), .lit (.int .u8 84)]

/-- 'helixlaw13.GapTells': WHATEVER THE INPUT: true; the input reads as it did. -/
def gapTellsSpec : ChangeSpec := { name := "gapTells", fn := fun _ => fun
  | [d1, d2, d3, d4] => { results := [.lit (.bool true)], args := [d1, d2, d3, d4] }
  | _ => none }
def gapTellsRow : OpenClaim := { program := "ytmdpodgodhkjdaadoor", sum := "11bf4b475eeeadbbd0a6d27a395110e62c01eeebc9fd8fa05401d85c0b2bafd2", func := "helix/helixlaw13.GapTells", spec := "gapTells", inPlace := ["slices.overlaps[byte]"], unfollowed := true, recurses := true, named := ["helix/nt.letters"], apart := false, laid := [("helix/nt.letters", laid_helix_nt_letters)] }
def GapTellsSaid : Prop := gapTellsRow.holds Tryd.pinned (OpenSpec.ofChange gapTellsSpec)

/-- ITS FALSE NEIGHBOUR: 'it returns false'. Refute it at one input. -/
def gapTellsWrong : ChangeSpec := { name := "gapTells", fn := fun _ => fun
  | [d1, d2, d3, d4] => { results := [.lit (.bool false)], args := [d1, d2, d3, d4] }
  | _ => none }
def GapTellsWrongFalsely : Prop := gapTellsRow.holds Tryd.pinned (OpenSpec.ofChange gapTellsWrong)

/-- 'helixlaw13.GapBack': WHATEVER THE INPUT: true; the input reads as it did. -/
def gapBackSpec : ChangeSpec := { name := "gapBack", fn := fun _ => fun
  | [d1, d2] => { results := [.lit (.bool true)], args := [d1, d2] }
  | _ => none }
def gapBackRow : OpenClaim := { program := "ytmdpodgodhkjdaadoor", sum := "11bf4b475eeeadbbd0a6d27a395110e62c01eeebc9fd8fa05401d85c0b2bafd2", func := "helix/helixlaw13.GapBack", spec := "gapBack", inPlace := ["slices.overlaps[byte]"], unfollowed := true, recurses := true, named := ["helix/nt.letters"], apart := false, laid := [("helix/nt.letters", laid_helix_nt_letters)] }
def GapBackSaid : Prop := gapBackRow.holds Tryd.pinned (OpenSpec.ofChange gapBackSpec)

/-- ITS FALSE NEIGHBOUR: 'it returns false'. Refute it at one input. -/
def gapBackWrong : ChangeSpec := { name := "gapBack", fn := fun _ => fun
  | [d1, d2] => { results := [.lit (.bool false)], args := [d1, d2] }
  | _ => none }
def GapBackWrongFalsely : Prop := gapBackRow.holds Tryd.pinned (OpenSpec.ofChange gapBackWrong)

/-- 'helixlaw13.GapOnly': WHATEVER THE INPUT: true; the input reads as it did. -/
def gapOnlySpec : ChangeSpec := { name := "gapOnly", fn := fun _ => fun
  | [d1, d2, d3] => { results := [.lit (.bool true)], args := [d1, d2, d3] }
  | _ => none }
def gapOnlyRow : OpenClaim := { program := "ytmdpodgodhkjdaadoor", sum := "11bf4b475eeeadbbd0a6d27a395110e62c01eeebc9fd8fa05401d85c0b2bafd2", func := "helix/helixlaw13.GapOnly", spec := "gapOnly", inPlace := ["slices.overlaps[byte]"], unfollowed := true, recurses := true, named := ["helix/nt.letters"], apart := false, laid := [("helix/nt.letters", laid_helix_nt_letters)] }
def GapOnlySaid : Prop := gapOnlyRow.holds Tryd.pinned (OpenSpec.ofChange gapOnlySpec)

/-- ITS FALSE NEIGHBOUR: 'it returns false'. Refute it at one input. -/
def gapOnlyWrong : ChangeSpec := { name := "gapOnly", fn := fun _ => fun
  | [d1, d2, d3] => { results := [.lit (.bool false)], args := [d1, d2, d3] }
  | _ => none }
def GapOnlyWrongFalsely : Prop := gapOnlyRow.holds Tryd.pinned (OpenSpec.ofChange gapOnlyWrong)

/-- 'helixlaw13.GapRuns': WHATEVER THE INPUT: true; the input reads as it did. -/
def gapRunsSpec : ChangeSpec := { name := "gapRuns", fn := fun _ => fun
  | [d1, d2, d3, d4] => { results := [.lit (.bool true)], args := [d1, d2, d3, d4] }
  | _ => none }
def gapRunsRow : OpenClaim := { program := "ytmdpodgodhkjdaadoor", sum := "11bf4b475eeeadbbd0a6d27a395110e62c01eeebc9fd8fa05401d85c0b2bafd2", func := "helix/helixlaw13.GapRuns", spec := "gapRuns", inPlace := ["slices.overlaps[byte]"], unfollowed := true, recurses := true, named := ["helix/nt.letters"], apart := false, laid := [("helix/nt.letters", laid_helix_nt_letters)] }
def GapRunsSaid : Prop := gapRunsRow.holds Tryd.pinned (OpenSpec.ofChange gapRunsSpec)

/-- ITS FALSE NEIGHBOUR: 'it returns false'. Refute it at one input. -/
def gapRunsWrong : ChangeSpec := { name := "gapRuns", fn := fun _ => fun
  | [d1, d2, d3, d4] => { results := [.lit (.bool false)], args := [d1, d2, d3, d4] }
  | _ => none }
def GapRunsWrongFalsely : Prop := gapRunsRow.holds Tryd.pinned (OpenSpec.ofChange gapRunsWrong)

/-- 'helixlaw13.GapErrors': WHATEVER THE INPUT: true; the input reads as it did. -/
def gapErrorsSpec : ChangeSpec := { name := "gapErrors", fn := fun _ => fun
  | [d1, d2, d3] => { results := [.lit (.bool true)], args := [d1, d2, d3] }
  | _ => none }
def gapErrorsRow : OpenClaim := { program := "ytmdpodgodhkjdaadoor", sum := "11bf4b475eeeadbbd0a6d27a395110e62c01eeebc9fd8fa05401d85c0b2bafd2", func := "helix/helixlaw13.GapErrors", spec := "gapErrors", inPlace := ["slices.overlaps[byte]"], unfollowed := true, recurses := true, named := ["helix/nt.letters"], apart := false, laid := [("helix/nt.letters", laid_helix_nt_letters)] }
def GapErrorsSaid : Prop := gapErrorsRow.holds Tryd.pinned (OpenSpec.ofChange gapErrorsSpec)

/-- ITS FALSE NEIGHBOUR: 'it returns false'. Refute it at one input. -/
def gapErrorsWrong : ChangeSpec := { name := "gapErrors", fn := fun _ => fun
  | [d1, d2, d3] => { results := [.lit (.bool false)], args := [d1, d2, d3] }
  | _ => none }
def GapErrorsWrongFalsely : Prop := gapErrorsRow.holds Tryd.pinned (OpenSpec.ofChange gapErrorsWrong)

/-- 'helixlaw15.SwapTells': WHATEVER THE INPUT: true; the input reads as it did. -/
def swapTellsSpec : ChangeSpec := { name := "swapTells", fn := fun _ => fun
  | [d1, d2, d3, d4, d5] => { results := [.lit (.bool true)], args := [d1, d2, d3, d4, d5] }
  | _ => none }
def swapTellsRow : OpenClaim := { program := "ytmdpodgodhkjdaadoor", sum := "11bf4b475eeeadbbd0a6d27a395110e62c01eeebc9fd8fa05401d85c0b2bafd2", func := "helix/helixlaw15.SwapTells", spec := "swapTells", unfollowed := true, recurses := true, named := ["helix/nt.letters"], apart := false, laid := [("helix/nt.letters", laid_helix_nt_letters)] }
def SwapTellsSaid : Prop := swapTellsRow.holds Tryd.pinned (OpenSpec.ofChange swapTellsSpec)

/-- ITS FALSE NEIGHBOUR: 'it returns false'. Refute it at one input. -/
def swapTellsWrong : ChangeSpec := { name := "swapTells", fn := fun _ => fun
  | [d1, d2, d3, d4, d5] => { results := [.lit (.bool false)], args := [d1, d2, d3, d4, d5] }
  | _ => none }
def SwapTellsWrongFalsely : Prop := swapTellsRow.holds Tryd.pinned (OpenSpec.ofChange swapTellsWrong)

/-- 'helixlaw15.SwapBack': WHATEVER THE INPUT: true; the input reads as it did. -/
def swapBackSpec : ChangeSpec := { name := "swapBack", fn := fun _ => fun
  | [d1, d2, d3] => { results := [.lit (.bool true)], args := [d1, d2, d3] }
  | _ => none }
def swapBackRow : OpenClaim := { program := "ytmdpodgodhkjdaadoor", sum := "11bf4b475eeeadbbd0a6d27a395110e62c01eeebc9fd8fa05401d85c0b2bafd2", func := "helix/helixlaw15.SwapBack", spec := "swapBack", unfollowed := true, recurses := true, named := ["helix/nt.letters"], apart := false, laid := [("helix/nt.letters", laid_helix_nt_letters)] }
def SwapBackSaid : Prop := swapBackRow.holds Tryd.pinned (OpenSpec.ofChange swapBackSpec)

/-- ITS FALSE NEIGHBOUR: 'it returns false'. Refute it at one input. -/
def swapBackWrong : ChangeSpec := { name := "swapBack", fn := fun _ => fun
  | [d1, d2, d3] => { results := [.lit (.bool false)], args := [d1, d2, d3] }
  | _ => none }
def SwapBackWrongFalsely : Prop := swapBackRow.holds Tryd.pinned (OpenSpec.ofChange swapBackWrong)

/-- 'helixlaw15.SwapOnly': WHATEVER THE INPUT: true; the input reads as it did. -/
def swapOnlySpec : ChangeSpec := { name := "swapOnly", fn := fun _ => fun
  | [d1, d2, d3] => { results := [.lit (.bool true)], args := [d1, d2, d3] }
  | _ => none }
def swapOnlyRow : OpenClaim := { program := "ytmdpodgodhkjdaadoor", sum := "11bf4b475eeeadbbd0a6d27a395110e62c01eeebc9fd8fa05401d85c0b2bafd2", func := "helix/helixlaw15.SwapOnly", spec := "swapOnly", unfollowed := true, recurses := true, named := ["helix/nt.letters"], apart := false, laid := [("helix/nt.letters", laid_helix_nt_letters)] }
def SwapOnlySaid : Prop := swapOnlyRow.holds Tryd.pinned (OpenSpec.ofChange swapOnlySpec)

/-- ITS FALSE NEIGHBOUR: 'it returns false'. Refute it at one input. -/
def swapOnlyWrong : ChangeSpec := { name := "swapOnly", fn := fun _ => fun
  | [d1, d2, d3] => { results := [.lit (.bool false)], args := [d1, d2, d3] }
  | _ => none }
def SwapOnlyWrongFalsely : Prop := swapOnlyRow.holds Tryd.pinned (OpenSpec.ofChange swapOnlyWrong)

/-- 'helixlaw15.SwapTwo': WHATEVER THE INPUT: true; the input reads as it did. -/
def swapTwoSpec : ChangeSpec := { name := "swapTwo", fn := fun _ => fun
  | [d1, d2, d3, d4, d5] => { results := [.lit (.bool true)], args := [d1, d2, d3, d4, d5] }
  | _ => none }
def swapTwoRow : OpenClaim := { program := "ytmdpodgodhkjdaadoor", sum := "11bf4b475eeeadbbd0a6d27a395110e62c01eeebc9fd8fa05401d85c0b2bafd2", func := "helix/helixlaw15.SwapTwo", spec := "swapTwo", unfollowed := true, recurses := true, named := ["helix/nt.letters"], apart := false, laid := [("helix/nt.letters", laid_helix_nt_letters)] }
def SwapTwoSaid : Prop := swapTwoRow.holds Tryd.pinned (OpenSpec.ofChange swapTwoSpec)

/-- ITS FALSE NEIGHBOUR: 'it returns false'. Refute it at one input. -/
def swapTwoWrong : ChangeSpec := { name := "swapTwo", fn := fun _ => fun
  | [d1, d2, d3, d4, d5] => { results := [.lit (.bool false)], args := [d1, d2, d3, d4, d5] }
  | _ => none }
def SwapTwoWrongFalsely : Prop := swapTwoRow.holds Tryd.pinned (OpenSpec.ofChange swapTwoWrong)

/-- 'helixlaw15.SwapErrors': WHATEVER THE INPUT: true; the input reads as it did. -/
def swapErrorsSpec : ChangeSpec := { name := "swapErrors", fn := fun _ => fun
  | [d1, d2, d3] => { results := [.lit (.bool true)], args := [d1, d2, d3] }
  | _ => none }
def swapErrorsRow : OpenClaim := { program := "ytmdpodgodhkjdaadoor", sum := "11bf4b475eeeadbbd0a6d27a395110e62c01eeebc9fd8fa05401d85c0b2bafd2", func := "helix/helixlaw15.SwapErrors", spec := "swapErrors", unfollowed := true, recurses := true, named := ["helix/nt.letters"], apart := false, laid := [("helix/nt.letters", laid_helix_nt_letters)] }
def SwapErrorsSaid : Prop := swapErrorsRow.holds Tryd.pinned (OpenSpec.ofChange swapErrorsSpec)

/-- ITS FALSE NEIGHBOUR: 'it returns false'. Refute it at one input. -/
def swapErrorsWrong : ChangeSpec := { name := "swapErrors", fn := fun _ => fun
  | [d1, d2, d3] => { results := [.lit (.bool false)], args := [d1, d2, d3] }
  | _ => none }
def SwapErrorsWrongFalsely : Prop := swapErrorsRow.holds Tryd.pinned (OpenSpec.ofChange swapErrorsWrong)

/- THE SECOND FORM. 'bulk': how many values and letters a reading holds, each counted each time it is reached (what is shared counts as often as it is met; a slice's spare places count too). A statement '..UptoSaid' is the law's where the arguments, and the package variables that the reading takes, are together of bulk at most 1048576: NARROWER than '..Said'. Prove '..Said' where nothing that the law and all that it calls make is longer than what came in: it says more and counts as full. Else prove '..UptoSaid'. A law counts once. -/
mutual
def uptoBulk {H : Type} : DataW H → Nat
  | .lit (.string bytes) => bytes.length + 1
  | .lit _ => 1
  | .nil => 1
  | .ptr d => uptoBulk d + 1
  | .slice elems spare => uptoBulkAll elems + uptoBulkAll spare + 1
  | .agg parts => uptoBulkAll parts + 1
  | .iface _ d => uptoBulk d + 1
  | .map entries => uptoBulkEntries entries + 1
  | .held _ => 1
def uptoBulkAll {H : Type} : List (DataW H) → Nat
  | [] => 0
  | d :: r => uptoBulk d + uptoBulkAll r
def uptoBulkEntries {H : Type} : List (Lit × DataW H) → Nat
  | [] => 0
  | x :: r => uptoBulkEntry x + uptoBulkEntries r
def uptoBulkEntry {H : Type} : Lit × DataW H → Nat
  | (.string bytes, d) => bytes.length + uptoBulk d + 1
  | (_, d) => uptoBulk d + 1
 end
def uptoSmall : (H : Type) → List (DataW H) → Bool := fun _ ds => decide (uptoBulkAll ds ≤ 1048576)
def OpenSpec.upto (s : _root_.Go.ChangeSpec) : _root_.Go.OpenSpec := { _root_.Go.OpenSpec.ofChange s with cond := some uptoSmall }

/-- 'helixlaw13.GapTells', WHERE WHAT IT READS IS OF BULK AT MOST 1048576: true; the input reads as it did. -/
def gapTellsUptoRow : OpenClaim := { program := "ytmdpodgodhkjdaadoor", sum := "11bf4b475eeeadbbd0a6d27a395110e62c01eeebc9fd8fa05401d85c0b2bafd2", func := "helix/helixlaw13.GapTells", spec := "gapTells", inPlace := ["slices.overlaps[byte]"], unfollowed := true, recurses := true, named := ["helix/nt.letters"], apart := false, laid := [("helix/nt.letters", laid_helix_nt_letters)], narrowed := true }
def GapTellsUptoSaid : Prop := gapTellsUptoRow.holds Tryd.pinned (OpenSpec.upto gapTellsSpec)

/-- 'helixlaw13.GapBack', WHERE WHAT IT READS IS OF BULK AT MOST 1048576: true; the input reads as it did. -/
def gapBackUptoRow : OpenClaim := { program := "ytmdpodgodhkjdaadoor", sum := "11bf4b475eeeadbbd0a6d27a395110e62c01eeebc9fd8fa05401d85c0b2bafd2", func := "helix/helixlaw13.GapBack", spec := "gapBack", inPlace := ["slices.overlaps[byte]"], unfollowed := true, recurses := true, named := ["helix/nt.letters"], apart := false, laid := [("helix/nt.letters", laid_helix_nt_letters)], narrowed := true }
def GapBackUptoSaid : Prop := gapBackUptoRow.holds Tryd.pinned (OpenSpec.upto gapBackSpec)

/-- 'helixlaw13.GapOnly', WHERE WHAT IT READS IS OF BULK AT MOST 1048576: true; the input reads as it did. -/
def gapOnlyUptoRow : OpenClaim := { program := "ytmdpodgodhkjdaadoor", sum := "11bf4b475eeeadbbd0a6d27a395110e62c01eeebc9fd8fa05401d85c0b2bafd2", func := "helix/helixlaw13.GapOnly", spec := "gapOnly", inPlace := ["slices.overlaps[byte]"], unfollowed := true, recurses := true, named := ["helix/nt.letters"], apart := false, laid := [("helix/nt.letters", laid_helix_nt_letters)], narrowed := true }
def GapOnlyUptoSaid : Prop := gapOnlyUptoRow.holds Tryd.pinned (OpenSpec.upto gapOnlySpec)

/-- 'helixlaw13.GapRuns', WHERE WHAT IT READS IS OF BULK AT MOST 1048576: true; the input reads as it did. -/
def gapRunsUptoRow : OpenClaim := { program := "ytmdpodgodhkjdaadoor", sum := "11bf4b475eeeadbbd0a6d27a395110e62c01eeebc9fd8fa05401d85c0b2bafd2", func := "helix/helixlaw13.GapRuns", spec := "gapRuns", inPlace := ["slices.overlaps[byte]"], unfollowed := true, recurses := true, named := ["helix/nt.letters"], apart := false, laid := [("helix/nt.letters", laid_helix_nt_letters)], narrowed := true }
def GapRunsUptoSaid : Prop := gapRunsUptoRow.holds Tryd.pinned (OpenSpec.upto gapRunsSpec)

/-- 'helixlaw13.GapErrors', WHERE WHAT IT READS IS OF BULK AT MOST 1048576: true; the input reads as it did. -/
def gapErrorsUptoRow : OpenClaim := { program := "ytmdpodgodhkjdaadoor", sum := "11bf4b475eeeadbbd0a6d27a395110e62c01eeebc9fd8fa05401d85c0b2bafd2", func := "helix/helixlaw13.GapErrors", spec := "gapErrors", inPlace := ["slices.overlaps[byte]"], unfollowed := true, recurses := true, named := ["helix/nt.letters"], apart := false, laid := [("helix/nt.letters", laid_helix_nt_letters)], narrowed := true }
def GapErrorsUptoSaid : Prop := gapErrorsUptoRow.holds Tryd.pinned (OpenSpec.upto gapErrorsSpec)

/-- 'helixlaw15.SwapTells', WHERE WHAT IT READS IS OF BULK AT MOST 1048576: true; the input reads as it did. -/
def swapTellsUptoRow : OpenClaim := { program := "ytmdpodgodhkjdaadoor", sum := "11bf4b475eeeadbbd0a6d27a395110e62c01eeebc9fd8fa05401d85c0b2bafd2", func := "helix/helixlaw15.SwapTells", spec := "swapTells", unfollowed := true, recurses := true, named := ["helix/nt.letters"], apart := false, laid := [("helix/nt.letters", laid_helix_nt_letters)], narrowed := true }
def SwapTellsUptoSaid : Prop := swapTellsUptoRow.holds Tryd.pinned (OpenSpec.upto swapTellsSpec)

/-- 'helixlaw15.SwapBack', WHERE WHAT IT READS IS OF BULK AT MOST 1048576: true; the input reads as it did. -/
def swapBackUptoRow : OpenClaim := { program := "ytmdpodgodhkjdaadoor", sum := "11bf4b475eeeadbbd0a6d27a395110e62c01eeebc9fd8fa05401d85c0b2bafd2", func := "helix/helixlaw15.SwapBack", spec := "swapBack", unfollowed := true, recurses := true, named := ["helix/nt.letters"], apart := false, laid := [("helix/nt.letters", laid_helix_nt_letters)], narrowed := true }
def SwapBackUptoSaid : Prop := swapBackUptoRow.holds Tryd.pinned (OpenSpec.upto swapBackSpec)

/-- 'helixlaw15.SwapOnly', WHERE WHAT IT READS IS OF BULK AT MOST 1048576: true; the input reads as it did. -/
def swapOnlyUptoRow : OpenClaim := { program := "ytmdpodgodhkjdaadoor", sum := "11bf4b475eeeadbbd0a6d27a395110e62c01eeebc9fd8fa05401d85c0b2bafd2", func := "helix/helixlaw15.SwapOnly", spec := "swapOnly", unfollowed := true, recurses := true, named := ["helix/nt.letters"], apart := false, laid := [("helix/nt.letters", laid_helix_nt_letters)], narrowed := true }
def SwapOnlyUptoSaid : Prop := swapOnlyUptoRow.holds Tryd.pinned (OpenSpec.upto swapOnlySpec)

/-- 'helixlaw15.SwapTwo', WHERE WHAT IT READS IS OF BULK AT MOST 1048576: true; the input reads as it did. -/
def swapTwoUptoRow : OpenClaim := { program := "ytmdpodgodhkjdaadoor", sum := "11bf4b475eeeadbbd0a6d27a395110e62c01eeebc9fd8fa05401d85c0b2bafd2", func := "helix/helixlaw15.SwapTwo", spec := "swapTwo", unfollowed := true, recurses := true, named := ["helix/nt.letters"], apart := false, laid := [("helix/nt.letters", laid_helix_nt_letters)], narrowed := true }
def SwapTwoUptoSaid : Prop := swapTwoUptoRow.holds Tryd.pinned (OpenSpec.upto swapTwoSpec)

/-- 'helixlaw15.SwapErrors', WHERE WHAT IT READS IS OF BULK AT MOST 1048576: true; the input reads as it did. -/
def swapErrorsUptoRow : OpenClaim := { program := "ytmdpodgodhkjdaadoor", sum := "11bf4b475eeeadbbd0a6d27a395110e62c01eeebc9fd8fa05401d85c0b2bafd2", func := "helix/helixlaw15.SwapErrors", spec := "swapErrors", unfollowed := true, recurses := true, named := ["helix/nt.letters"], apart := false, laid := [("helix/nt.letters", laid_helix_nt_letters)], narrowed := true }
def SwapErrorsUptoSaid : Prop := swapErrorsUptoRow.holds Tryd.pinned (OpenSpec.upto swapErrorsSpec)

end Rows
end Go.Proofs.YtmdpodgodhkjdaaDoor
