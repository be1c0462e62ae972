/-
  NARROWER THAN 'FOR EVERY INPUT', by the rows' own cells (each row's printed sentence says how): PrimersTells: laid · PrimersOnce: laid · PrimersEdits: laid · PrimersMay: laid · PrimersOne: laid.
  DERIVED. THE GIVEN ROWS OF THIS SEAT. 5 by the template 'for every input the law returns true; each argument reads behind the call as it read before'; 0 by the template 'total and deterministic' (their statements: YtcngnjkpnmpcpaaDoorTotals.lean).
  GIVEN WITH THE SEED: the statements are not yours to turn. If you find one false, say at which input.
  Laid BY PROGRAM, IN A SANDBOX (cutbox-rows.mjs): the forced cells as the released guide's own fill.sh prints them over the translation f18fc82bad898a18… (all of the seat's roots in one cut). By AI agents, Wed Nov 11 2026. No macro, syntax, notation, axiom, sorry.
-/
import Derived.Test.YtcngnjkpnmpcpaaDoorChecked
import GoSem.Claim
import GoSem.ClaimJoined
import GoSem.ClaimMapViews
import Derived.JoinedTies
import Derived.KernelRfl
namespace Go.Proofs.YtcngnjkpnmpcpaaDoor
/- THE CELL 'sum', in the pinned program and in every row, IS THE sha256 OF THE DUMP (.gsa) THAT YtcngnjkpnmpcpaaDoorProg.lean LOADS. Nothing in Lean hashes anything: it is a label: what it is worth is what the hold of that sum in a sandbox is worth. -/
noncomputable def Tryd.pinned : Pinned := { name := "ytcngnjkpnmpcpaadoor", sum := "f18fc82bad898a181498e9ee43ae61c8689e7495bde465b15fd351080111977b", checked := Tryd.checked }
namespace Rows
def none {H : Type} : Left H := { results := [], args := [] }

/- WHAT THE LISTED PACKAGE-LEVEL VARIABLES READ AS WHEN THE CALL BEGINS. Each datum BY PROGRAM (the guide's laid-datum.mjs) off the statement by which the dump's own 'gosem.cut.vars' lays the variable. In a bare row this is a premise. The card (YtcngnjkpnmpcpaaDoorCards.lean) ties it to the program's text. -/
def laid_helix_nt_letters {H : Type} : DataW H := .agg [.lit (.int .u8 65), .lit (.int .u8 67), .lit (.int .u8 71), .lit (.int .u8 84)]

/-- 'helixlaw20.PrimersTells': WHATEVER THE INPUT: true; the input reads as it did. -/
def primersTellsSpec : ChangeSpec := { name := "primersTells", fn := fun _ => fun
  | [d1, d2, d3, d4, d5] => { results := [.lit (.bool true)], args := [d1, d2, d3, d4, d5] }
  | _ => none }
def primersTellsRow : OpenClaim := { program := "ytcngnjkpnmpcpaadoor", sum := "f18fc82bad898a181498e9ee43ae61c8689e7495bde465b15fd351080111977b", func := "helix/helixlaw20.PrimersTells", spec := "primersTells", unfollowed := true, recurses := true, named := ["helix/nt.letters"], apart := false, laid := [("helix/nt.letters", laid_helix_nt_letters)] }
def PrimersTellsSaid : Prop := primersTellsRow.holds Tryd.pinned (OpenSpec.ofChange primersTellsSpec)

/-- ITS FALSE NEIGHBOUR: 'it returns false'. Refute it at one input. -/
def primersTellsWrong : ChangeSpec := { name := "primersTells", fn := fun _ => fun
  | [d1, d2, d3, d4, d5] => { results := [.lit (.bool false)], args := [d1, d2, d3, d4, d5] }
  | _ => none }
def PrimersTellsWrongFalsely : Prop := primersTellsRow.holds Tryd.pinned (OpenSpec.ofChange primersTellsWrong)

/-- 'helixlaw20.PrimersOnce': WHATEVER THE INPUT: true; the input reads as it did. -/
def primersOnceSpec : ChangeSpec := { name := "primersOnce", fn := fun _ => fun
  | [d1, d2] => { results := [.lit (.bool true)], args := [d1, d2] }
  | _ => none }
def primersOnceRow : OpenClaim := { program := "ytcngnjkpnmpcpaadoor", sum := "f18fc82bad898a181498e9ee43ae61c8689e7495bde465b15fd351080111977b", func := "helix/helixlaw20.PrimersOnce", spec := "primersOnce", unfollowed := true, recurses := true, named := ["helix/nt.letters"], apart := false, laid := [("helix/nt.letters", laid_helix_nt_letters)] }
def PrimersOnceSaid : Prop := primersOnceRow.holds Tryd.pinned (OpenSpec.ofChange primersOnceSpec)

/-- ITS FALSE NEIGHBOUR: 'it returns false'. Refute it at one input. -/
def primersOnceWrong : ChangeSpec := { name := "primersOnce", fn := fun _ => fun
  | [d1, d2] => { results := [.lit (.bool false)], args := [d1, d2] }
  | _ => none }
def PrimersOnceWrongFalsely : Prop := primersOnceRow.holds Tryd.pinned (OpenSpec.ofChange primersOnceWrong)

/-- 'helixlaw20.PrimersEdits': WHATEVER THE INPUT: true; the input reads as it did. -/
def primersEditsSpec : ChangeSpec := { name := "primersEdits", fn := fun _ => fun
  | [d1, d2, d3, d4, d5] => { results := [.lit (.bool true)], args := [d1, d2, d3, d4, d5] }
  | _ => none }
def primersEditsRow : OpenClaim := { program := "ytcngnjkpnmpcpaadoor", sum := "f18fc82bad898a181498e9ee43ae61c8689e7495bde465b15fd351080111977b", func := "helix/helixlaw20.PrimersEdits", spec := "primersEdits", unfollowed := true, recurses := true, named := ["helix/nt.letters"], apart := false, laid := [("helix/nt.letters", laid_helix_nt_letters)] }
def PrimersEditsSaid : Prop := primersEditsRow.holds Tryd.pinned (OpenSpec.ofChange primersEditsSpec)

/-- ITS FALSE NEIGHBOUR: 'it returns false'. Refute it at one input. -/
def primersEditsWrong : ChangeSpec := { name := "primersEdits", fn := fun _ => fun
  | [d1, d2, d3, d4, d5] => { results := [.lit (.bool false)], args := [d1, d2, d3, d4, d5] }
  | _ => none }
def PrimersEditsWrongFalsely : Prop := primersEditsRow.holds Tryd.pinned (OpenSpec.ofChange primersEditsWrong)

/-- 'helixlaw20.PrimersMay': WHATEVER THE INPUT: true; the input reads as it did. -/
def primersMaySpec : ChangeSpec := { name := "primersMay", fn := fun _ => fun
  | [d1, d2] => { results := [.lit (.bool true)], args := [d1, d2] }
  | _ => none }
def primersMayRow : OpenClaim := { program := "ytcngnjkpnmpcpaadoor", sum := "f18fc82bad898a181498e9ee43ae61c8689e7495bde465b15fd351080111977b", func := "helix/helixlaw20.PrimersMay", spec := "primersMay", unfollowed := true, recurses := true, named := ["helix/nt.letters"], apart := false, laid := [("helix/nt.letters", laid_helix_nt_letters)] }
def PrimersMaySaid : Prop := primersMayRow.holds Tryd.pinned (OpenSpec.ofChange primersMaySpec)

/-- ITS FALSE NEIGHBOUR: 'it returns false'. Refute it at one input. -/
def primersMayWrong : ChangeSpec := { name := "primersMay", fn := fun _ => fun
  | [d1, d2] => { results := [.lit (.bool false)], args := [d1, d2] }
  | _ => none }
def PrimersMayWrongFalsely : Prop := primersMayRow.holds Tryd.pinned (OpenSpec.ofChange primersMayWrong)

/-- 'helixlaw20.PrimersOne': WHATEVER THE INPUT: true; the input reads as it did. -/
def primersOneSpec : ChangeSpec := { name := "primersOne", fn := fun _ => fun
  | [d1, d2] => { results := [.lit (.bool true)], args := [d1, d2] }
  | _ => none }
def primersOneRow : OpenClaim := { program := "ytcngnjkpnmpcpaadoor", sum := "f18fc82bad898a181498e9ee43ae61c8689e7495bde465b15fd351080111977b", func := "helix/helixlaw20.PrimersOne", spec := "primersOne", unfollowed := true, recurses := true, named := ["helix/nt.letters"], apart := false, laid := [("helix/nt.letters", laid_helix_nt_letters)] }
def PrimersOneSaid : Prop := primersOneRow.holds Tryd.pinned (OpenSpec.ofChange primersOneSpec)

/-- ITS FALSE NEIGHBOUR: 'it returns false'. Refute it at one input. -/
def primersOneWrong : ChangeSpec := { name := "primersOne", fn := fun _ => fun
  | [d1, d2] => { results := [.lit (.bool false)], args := [d1, d2] }
  | _ => none }
def PrimersOneWrongFalsely : Prop := primersOneRow.holds Tryd.pinned (OpenSpec.ofChange primersOneWrong)

/- THE SECOND FORM. 'bulk': how many values and letters a reading holds, each counted each time it is reached (what is shared counts as often as it is met; a slice's spare places count too). A statement '..UptoSaid' is the law's where the arguments, and the package variables that the reading takes, are together of bulk at most 1048576: NARROWER than '..Said'. Prove '..Said' where nothing that the law and all that it calls make is longer than what came in: it says more and counts as full. Else prove '..UptoSaid'. A law counts once. -/
mutual
def uptoBulk {H : Type} : DataW H → Nat
  | .lit (.string bytes) => bytes.length + 1
  | .lit _ => 1
  | .nil => 1
  | .ptr d => uptoBulk d + 1
  | .slice elems spare => uptoBulkAll elems + uptoBulkAll spare + 1
  | .agg parts => uptoBulkAll parts + 1
  | .iface _ d => uptoBulk d + 1
  | .map entries => uptoBulkEntries entries + 1
  | .held _ => 1
def uptoBulkAll {H : Type} : List (DataW H) → Nat
  | [] => 0
  | d :: r => uptoBulk d + uptoBulkAll r
def uptoBulkEntries {H : Type} : List (Lit × DataW H) → Nat
  | [] => 0
  | x :: r => uptoBulkEntry x + uptoBulkEntries r
def uptoBulkEntry {H : Type} : Lit × DataW H → Nat
  | (.string bytes, d) => bytes.length + uptoBulk d + 1
  | (_, d) => uptoBulk d + 1
 end
def uptoSmall : (H : Type) → List (DataW H) → Bool := fun _ ds => decide (uptoBulkAll ds ≤ 1048576)
def OpenSpec.upto (s : _root_.Go.ChangeSpec) : _root_.Go.OpenSpec := { _root_.Go.OpenSpec.ofChange s with cond := some uptoSmall }

/-- 'helixlaw20.PrimersTells', WHERE WHAT IT READS IS OF BULK AT MOST 1048576: true; the input reads as it did. -/
def primersTellsUptoRow : OpenClaim := { program := "ytcngnjkpnmpcpaadoor", sum := "f18fc82bad898a181498e9ee43ae61c8689e7495bde465b15fd351080111977b", func := "helix/helixlaw20.PrimersTells", spec := "primersTells", unfollowed := true, recurses := true, named := ["helix/nt.letters"], apart := false, laid := [("helix/nt.letters", laid_helix_nt_letters)], narrowed := true }
def PrimersTellsUptoSaid : Prop := primersTellsUptoRow.holds Tryd.pinned (OpenSpec.upto primersTellsSpec)

/-- 'helixlaw20.PrimersOnce', WHERE WHAT IT READS IS OF BULK AT MOST 1048576: true; the input reads as it did. -/
def primersOnceUptoRow : OpenClaim := { program := "ytcngnjkpnmpcpaadoor", sum := "f18fc82bad898a181498e9ee43ae61c8689e7495bde465b15fd351080111977b", func := "helix/helixlaw20.PrimersOnce", spec := "primersOnce", unfollowed := true, recurses := true, named := ["helix/nt.letters"], apart := false, laid := [("helix/nt.letters", laid_helix_nt_letters)], narrowed := true }
def PrimersOnceUptoSaid : Prop := primersOnceUptoRow.holds Tryd.pinned (OpenSpec.upto primersOnceSpec)

/-- 'helixlaw20.PrimersEdits', WHERE WHAT IT READS IS OF BULK AT MOST 1048576: true; the input reads as it did. -/
def primersEditsUptoRow : OpenClaim := { program := "ytcngnjkpnmpcpaadoor", sum := "f18fc82bad898a181498e9ee43ae61c8689e7495bde465b15fd351080111977b", func := "helix/helixlaw20.PrimersEdits", spec := "primersEdits", unfollowed := true, recurses := true, named := ["helix/nt.letters"], apart := false, laid := [("helix/nt.letters", laid_helix_nt_letters)], narrowed := true }
def PrimersEditsUptoSaid : Prop := primersEditsUptoRow.holds Tryd.pinned (OpenSpec.upto primersEditsSpec)

/-- 'helixlaw20.PrimersMay', WHERE WHAT IT READS IS OF BULK AT MOST 1048576: true; the input reads as it did. -/
def primersMayUptoRow : OpenClaim := { program := "ytcngnjkpnmpcpaadoor", sum := "f18fc82bad898a181498e9ee43ae61c8689e7495bde465b15fd351080111977b", func := "helix/helixlaw20.PrimersMay", spec := "primersMay", unfollowed := true, recurses := true, named := ["helix/nt.letters"], apart := false, laid := [("helix/nt.letters", laid_helix_nt_letters)], narrowed := true }
def PrimersMayUptoSaid : Prop := primersMayUptoRow.holds Tryd.pinned (OpenSpec.upto primersMaySpec)

/-- 'helixlaw20.PrimersOne', WHERE WHAT IT READS IS OF BULK AT MOST 1048576: true; the input reads as it did. -/
def primersOneUptoRow : OpenClaim := { program := "ytcngnjkpnmpcpaadoor", sum := "f18fc82bad898a181498e9ee43ae61c8689e7495bde465b15fd351080111977b", func := "helix/helixlaw20.PrimersOne", spec := "primersOne", unfollowed := true, recurses := true, named := ["helix/nt.letters"], apart := false, laid := [("helix/nt.letters", laid_helix_nt_letters)], narrowed := true }
def PrimersOneUptoSaid : Prop := primersOneUptoRow.holds Tryd.pinned (OpenSpec.upto primersOneSpec)

end Rows
end Go.Proofs.YtcngnjkpnmpcpaaDoor
