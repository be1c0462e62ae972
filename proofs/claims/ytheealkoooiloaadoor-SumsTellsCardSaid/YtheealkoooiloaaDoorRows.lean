/-
  NARROWER THAN 'FOR EVERY INPUT', by the rows' own cells (each row's printed sentence says how): SumsTells: laid · SumsGap: laid · SumsSwap: laid · SumsAll: laid · SumsBits: laid.
  DERIVED. THE GIVEN ROWS OF THIS SEAT. 5 by the template 'for every input the law returns true; each argument reads behind the call as it read before'; 0 by the template 'total and deterministic' (their statements: YtheealkoooiloaaDoorTotals.lean).
  GIVEN WITH THE SEED: the statements are not yours to turn. If you find one false, say at which input.
  Laid BY PROGRAM, IN A SANDBOX (cutbox-rows.mjs): the forced cells as the released guide's own fill.sh prints them over the translation f888fcfde7520fcf… (all of the seat's roots in one cut). By AI agents, Wed Nov 11 2026. No macro, syntax, notation, axiom, sorry.
-/
import Derived.Test.YtheealkoooiloaaDoorChecked
import GoSem.Claim
import GoSem.ClaimJoined
import GoSem.ClaimMapViews
import Derived.JoinedTies
import Derived.KernelRfl
namespace Go.Proofs.YtheealkoooiloaaDoor
/- THE CELL 'sum', in the pinned program and in every row, IS THE sha256 OF THE DUMP (.gsa) THAT YtheealkoooiloaaDoorProg.lean LOADS. Nothing in Lean hashes anything: it is a label: what it is worth is what the hold of that sum in a sandbox is worth. -/
noncomputable def Tryd.pinned : Pinned := { name := "ytheealkoooiloaadoor", sum := "f888fcfde7520fcf79faf0412a0ad9beb7f2f54d8a85f8cd4badae92454b1b5b", checked := Tryd.checked }
namespace Rows
def none {H : Type} : Left H := { results := [], args := [] }

/- WHAT THE LISTED PACKAGE-LEVEL VARIABLES READ AS WHEN THE CALL BEGINS. Each datum BY PROGRAM (the guide's laid-datum.mjs) off the statement by which the dump's own 'gosem.cut.vars' lays the variable. In a bare row this is a premise. The card (YtheealkoooiloaaDoorCards.lean) ties it to the program's text. -/
def laid_helix_nt_letters {H : Type} : DataW H := .agg [.lit (.int .u8 65), .lit (.int .u8 67), .lit (.int .u8 71), .lit (.int .u8 84)]

/-- 'helixlaw12.SumsTells': WHATEVER THE INPUT: true; the input reads as it did. -/
def sumsTellsSpec : ChangeSpec := { name := "sumsTells", fn := fun _ => fun
  | [d1, d2, d3, d4] => { results := [.lit (.bool true)], args := [d1, d2, d3, d4] }
  | _ => none }
def sumsTellsRow : OpenClaim := { program := "ytheealkoooiloaadoor", sum := "f888fcfde7520fcf79faf0412a0ad9beb7f2f54d8a85f8cd4badae92454b1b5b", func := "helix/helixlaw12.SumsTells", spec := "sumsTells", unfollowed := true, recurses := true, named := ["helix/nt.letters"], apart := false, laid := [("helix/nt.letters", laid_helix_nt_letters)] }
def SumsTellsSaid : Prop := sumsTellsRow.holds Tryd.pinned (OpenSpec.ofChange sumsTellsSpec)

/-- ITS FALSE NEIGHBOUR: 'it returns false'. Refute it at one input. -/
def sumsTellsWrong : ChangeSpec := { name := "sumsTells", fn := fun _ => fun
  | [d1, d2, d3, d4] => { results := [.lit (.bool false)], args := [d1, d2, d3, d4] }
  | _ => none }
def SumsTellsWrongFalsely : Prop := sumsTellsRow.holds Tryd.pinned (OpenSpec.ofChange sumsTellsWrong)

/-- 'helixlaw12.SumsGap': WHATEVER THE INPUT: true; the input reads as it did. -/
def sumsGapSpec : ChangeSpec := { name := "sumsGap", fn := fun _ => fun
  | [d1, d2, d3, d4] => { results := [.lit (.bool true)], args := [d1, d2, d3, d4] }
  | _ => none }
def sumsGapRow : OpenClaim := { program := "ytheealkoooiloaadoor", sum := "f888fcfde7520fcf79faf0412a0ad9beb7f2f54d8a85f8cd4badae92454b1b5b", func := "helix/helixlaw12.SumsGap", spec := "sumsGap", unfollowed := true, recurses := true, named := ["helix/nt.letters"], apart := false, laid := [("helix/nt.letters", laid_helix_nt_letters)] }
def SumsGapSaid : Prop := sumsGapRow.holds Tryd.pinned (OpenSpec.ofChange sumsGapSpec)

/-- ITS FALSE NEIGHBOUR: 'it returns false'. Refute it at one input. -/
def sumsGapWrong : ChangeSpec := { name := "sumsGap", fn := fun _ => fun
  | [d1, d2, d3, d4] => { results := [.lit (.bool false)], args := [d1, d2, d3, d4] }
  | _ => none }
def SumsGapWrongFalsely : Prop := sumsGapRow.holds Tryd.pinned (OpenSpec.ofChange sumsGapWrong)

/-- 'helixlaw12.SumsSwap': WHATEVER THE INPUT: true; the input reads as it did. -/
def sumsSwapSpec : ChangeSpec := { name := "sumsSwap", fn := fun _ => fun
  | [d1, d2, d3, d4, d5] => { results := [.lit (.bool true)], args := [d1, d2, d3, d4, d5] }
  | _ => none }
def sumsSwapRow : OpenClaim := { program := "ytheealkoooiloaadoor", sum := "f888fcfde7520fcf79faf0412a0ad9beb7f2f54d8a85f8cd4badae92454b1b5b", func := "helix/helixlaw12.SumsSwap", spec := "sumsSwap", unfollowed := true, recurses := true, named := ["helix/nt.letters"], apart := false, laid := [("helix/nt.letters", laid_helix_nt_letters)] }
def SumsSwapSaid : Prop := sumsSwapRow.holds Tryd.pinned (OpenSpec.ofChange sumsSwapSpec)

/-- ITS FALSE NEIGHBOUR: 'it returns false'. Refute it at one input. -/
def sumsSwapWrong : ChangeSpec := { name := "sumsSwap", fn := fun _ => fun
  | [d1, d2, d3, d4, d5] => { results := [.lit (.bool false)], args := [d1, d2, d3, d4, d5] }
  | _ => none }
def SumsSwapWrongFalsely : Prop := sumsSwapRow.holds Tryd.pinned (OpenSpec.ofChange sumsSwapWrong)

/-- 'helixlaw12.SumsAll': WHATEVER THE INPUT: true; the input reads as it did. -/
def sumsAllSpec : ChangeSpec := { name := "sumsAll", fn := fun _ => fun
  | [d] => { results := [.lit (.bool true)], args := [d] }
  | _ => none }
def sumsAllRow : OpenClaim := { program := "ytheealkoooiloaadoor", sum := "f888fcfde7520fcf79faf0412a0ad9beb7f2f54d8a85f8cd4badae92454b1b5b", func := "helix/helixlaw12.SumsAll", spec := "sumsAll", unfollowed := true, recurses := true, named := ["helix/nt.letters"], apart := false, laid := [("helix/nt.letters", laid_helix_nt_letters)] }
def SumsAllSaid : Prop := sumsAllRow.holds Tryd.pinned (OpenSpec.ofChange sumsAllSpec)

/-- ITS FALSE NEIGHBOUR: 'it returns false'. Refute it at one input. -/
def sumsAllWrong : ChangeSpec := { name := "sumsAll", fn := fun _ => fun
  | [d] => { results := [.lit (.bool false)], args := [d] }
  | _ => none }
def SumsAllWrongFalsely : Prop := sumsAllRow.holds Tryd.pinned (OpenSpec.ofChange sumsAllWrong)

/-- 'helixlaw12.SumsBits': WHATEVER THE INPUT: true; the input reads as it did. -/
def sumsBitsSpec : ChangeSpec := { name := "sumsBits", fn := fun _ => fun
  | [d1, d2, d3] => { results := [.lit (.bool true)], args := [d1, d2, d3] }
  | _ => none }
def sumsBitsRow : OpenClaim := { program := "ytheealkoooiloaadoor", sum := "f888fcfde7520fcf79faf0412a0ad9beb7f2f54d8a85f8cd4badae92454b1b5b", func := "helix/helixlaw12.SumsBits", spec := "sumsBits", unfollowed := true, recurses := true, named := ["helix/nt.letters"], apart := false, laid := [("helix/nt.letters", laid_helix_nt_letters)] }
def SumsBitsSaid : Prop := sumsBitsRow.holds Tryd.pinned (OpenSpec.ofChange sumsBitsSpec)

/-- ITS FALSE NEIGHBOUR: 'it returns false'. Refute it at one input. -/
def sumsBitsWrong : ChangeSpec := { name := "sumsBits", fn := fun _ => fun
  | [d1, d2, d3] => { results := [.lit (.bool false)], args := [d1, d2, d3] }
  | _ => none }
def SumsBitsWrongFalsely : Prop := sumsBitsRow.holds Tryd.pinned (OpenSpec.ofChange sumsBitsWrong)

/- THE SECOND FORM. 'bulk': how many values and letters a reading holds, each counted each time it is reached (what is shared counts as often as it is met; a slice's spare places count too). A statement '..UptoSaid' is the law's where the arguments, and the package variables that the reading takes, are together of bulk at most 1048576: NARROWER than '..Said'. Prove '..Said' where nothing that the law and all that it calls make is longer than what came in: it says more and counts as full. Else prove '..UptoSaid'. A law counts once. -/
mutual
def uptoBulk {H : Type} : DataW H → Nat
  | .lit (.string bytes) => bytes.length + 1
  | .lit _ => 1
  | .nil => 1
  | .ptr d => uptoBulk d + 1
  | .slice elems spare => uptoBulkAll elems + uptoBulkAll spare + 1
  | .agg parts => uptoBulkAll parts + 1
  | .iface _ d => uptoBulk d + 1
  | .map entries => uptoBulkEntries entries + 1
  | .held _ => 1
def uptoBulkAll {H : Type} : List (DataW H) → Nat
  | [] => 0
  | d :: r => uptoBulk d + uptoBulkAll r
def uptoBulkEntries {H : Type} : List (Lit × DataW H) → Nat
  | [] => 0
  | x :: r => uptoBulkEntry x + uptoBulkEntries r
def uptoBulkEntry {H : Type} : Lit × DataW H → Nat
  | (.string bytes, d) => bytes.length + uptoBulk d + 1
  | (_, d) => uptoBulk d + 1
 end
def uptoSmall : (H : Type) → List (DataW H) → Bool := fun _ ds => decide (uptoBulkAll ds ≤ 1048576)
def OpenSpec.upto (s : _root_.Go.ChangeSpec) : _root_.Go.OpenSpec := { _root_.Go.OpenSpec.ofChange s with cond := some uptoSmall }

/-- 'helixlaw12.SumsTells', WHERE WHAT IT READS IS OF BULK AT MOST 1048576: true; the input reads as it did. -/
def sumsTellsUptoRow : OpenClaim := { program := "ytheealkoooiloaadoor", sum := "f888fcfde7520fcf79faf0412a0ad9beb7f2f54d8a85f8cd4badae92454b1b5b", func := "helix/helixlaw12.SumsTells", spec := "sumsTells", unfollowed := true, recurses := true, named := ["helix/nt.letters"], apart := false, laid := [("helix/nt.letters", laid_helix_nt_letters)], narrowed := true }
def SumsTellsUptoSaid : Prop := sumsTellsUptoRow.holds Tryd.pinned (OpenSpec.upto sumsTellsSpec)

/-- 'helixlaw12.SumsGap', WHERE WHAT IT READS IS OF BULK AT MOST 1048576: true; the input reads as it did. -/
def sumsGapUptoRow : OpenClaim := { program := "ytheealkoooiloaadoor", sum := "f888fcfde7520fcf79faf0412a0ad9beb7f2f54d8a85f8cd4badae92454b1b5b", func := "helix/helixlaw12.SumsGap", spec := "sumsGap", unfollowed := true, recurses := true, named := ["helix/nt.letters"], apart := false, laid := [("helix/nt.letters", laid_helix_nt_letters)], narrowed := true }
def SumsGapUptoSaid : Prop := sumsGapUptoRow.holds Tryd.pinned (OpenSpec.upto sumsGapSpec)

/-- 'helixlaw12.SumsSwap', WHERE WHAT IT READS IS OF BULK AT MOST 1048576: true; the input reads as it did. -/
def sumsSwapUptoRow : OpenClaim := { program := "ytheealkoooiloaadoor", sum := "f888fcfde7520fcf79faf0412a0ad9beb7f2f54d8a85f8cd4badae92454b1b5b", func := "helix/helixlaw12.SumsSwap", spec := "sumsSwap", unfollowed := true, recurses := true, named := ["helix/nt.letters"], apart := false, laid := [("helix/nt.letters", laid_helix_nt_letters)], narrowed := true }
def SumsSwapUptoSaid : Prop := sumsSwapUptoRow.holds Tryd.pinned (OpenSpec.upto sumsSwapSpec)

/-- 'helixlaw12.SumsAll', WHERE WHAT IT READS IS OF BULK AT MOST 1048576: true; the input reads as it did. -/
def sumsAllUptoRow : OpenClaim := { program := "ytheealkoooiloaadoor", sum := "f888fcfde7520fcf79faf0412a0ad9beb7f2f54d8a85f8cd4badae92454b1b5b", func := "helix/helixlaw12.SumsAll", spec := "sumsAll", unfollowed := true, recurses := true, named := ["helix/nt.letters"], apart := false, laid := [("helix/nt.letters", laid_helix_nt_letters)], narrowed := true }
def SumsAllUptoSaid : Prop := sumsAllUptoRow.holds Tryd.pinned (OpenSpec.upto sumsAllSpec)

/-- 'helixlaw12.SumsBits', WHERE WHAT IT READS IS OF BULK AT MOST 1048576: true; the input reads as it did. -/
def sumsBitsUptoRow : OpenClaim := { program := "ytheealkoooiloaadoor", sum := "f888fcfde7520fcf79faf0412a0ad9beb7f2f54d8a85f8cd4badae92454b1b5b", func := "helix/helixlaw12.SumsBits", spec := "sumsBits", unfollowed := true, recurses := true, named := ["helix/nt.letters"], apart := false, laid := [("helix/nt.letters", laid_helix_nt_letters)], narrowed := true }
def SumsBitsUptoSaid : Prop := sumsBitsUptoRow.holds Tryd.pinned (OpenSpec.upto sumsBitsSpec)

end Rows
end Go.Proofs.YtheealkoooiloaaDoor
