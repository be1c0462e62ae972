/-
  NARROWER THAN 'FOR EVERY INPUT', by the rows' own cells (each row's printed sentence says how): InnerTells: laid · InnerMends: laid · InnerAll: laid · InnerNear: laid · InnerApart: laid.
  DERIVED. THE GIVEN ROWS OF THIS SEAT. 5 by the template 'for every input the law returns true; each argument reads behind the call as it read before'; 0 by the template 'total and deterministic' (their statements: YtkibigbcdlilkaaGreatDoorTotals.lean).
  GIVEN WITH THE SEED: the statements are not yours to turn. If you find one false, say at which input.
  Laid BY PROGRAM, IN A SANDBOX (cutbox-rows.mjs): the forced cells as the released guide's own fill.sh prints them over the translation 3e47bbd1caaaffdc… (all of the seat's roots in one cut). By AI agents, Wed Nov 11 2026. No macro, syntax, notation, axiom, sorry.
-/
import Derived.Test.YtkibigbcdlilkaaGreatDoorChecked
import GoSem.Claim
import GoSem.ClaimJoined
import GoSem.ClaimMapViews
import Derived.JoinedTies
import Derived.KernelRfl
namespace Go.Proofs.YtkibigbcdlilkaaGreatDoor
/- THE CELL 'sum', in the pinned program and in every row, IS THE sha256 OF THE DUMP (.gsa) THAT YtkibigbcdlilkaaGreatDoorProg.lean LOADS. Nothing in Lean hashes anything: it is a label: what it is worth is what the hold of that sum in a sandbox is worth. -/
noncomputable def Tryz.pinned : Pinned := { name := "ytkibigbcdlilkaagreatdoor", sum := "3e47bbd1caaaffdcf9d8063c41b82eacb0931a34e909eca4c6ad02b3c52b5bfa", checked := Tryz.checked }
namespace Rows
def none {H : Type} : Left H := { results := [], args := [] }

/- WHAT THE LISTED PACKAGE-LEVEL VARIABLES READ AS WHEN THE CALL BEGINS. Each datum BY PROGRAM (the guide's laid-datum.mjs) off the statement by which the dump's own 'gosem.cut.vars' lays the variable. In a bare row this is a premise. The card (YtkibigbcdlilkaaGreatDoorCards.lean) ties it to the program's text. -/
def laid_helix_bits_classes {H : Type} : DataW H := .agg [.agg [.lit (.int .u8 65), .lit (.int .u8 84)], .agg [.lit (.int .u8 67), .lit (.int .u8 71)]]
def laid_helix_edit_letters {H : Type} : DataW H := .agg [.lit (.int .u8 65), .lit (.int .u8 67), .lit (.int .u8 71), .lit (.int .u8 84)]
def laid_helix_nt_letters {H : Type} : DataW H := .agg [.lit (.int .u8 65), .lit (.int .u8 67), .lit (.int .u8 71), .lit (.int .u8 84)]

/-- 'helixlaw17.InnerTells': WHATEVER THE INPUT: true; the input reads as it did. -/
def innerTellsSpec : ChangeSpec := { name := "innerTells", fn := fun _ => fun
  | [d1, d2] => { results := [.lit (.bool true)], args := [d1, d2] }
  | _ => none }
def innerTellsRow : OpenClaim := { program := "ytkibigbcdlilkaagreatdoor", sum := "3e47bbd1caaaffdcf9d8063c41b82eacb0931a34e909eca4c6ad02b3c52b5bfa", func := "helix/helixlaw17.InnerTells", spec := "innerTells", inPlace := ["slices.overlaps[byte]"], unfollowed := true, recurses := true, named := ["helix/nt.letters", "helix/bits.classes", "helix/edit.letters"], apart := false, laid := [("helix/bits.classes", laid_helix_bits_classes), ("helix/edit.letters", laid_helix_edit_letters), ("helix/nt.letters", laid_helix_nt_letters)] }
def InnerTellsSaid : Prop := innerTellsRow.holds Tryz.pinned (OpenSpec.ofChange innerTellsSpec)

/-- ITS FALSE NEIGHBOUR: 'it returns false'. Refute it at one input. -/
def innerTellsWrong : ChangeSpec := { name := "innerTells", fn := fun _ => fun
  | [d1, d2] => { results := [.lit (.bool false)], args := [d1, d2] }
  | _ => none }
def InnerTellsWrongFalsely : Prop := innerTellsRow.holds Tryz.pinned (OpenSpec.ofChange innerTellsWrong)

/-- 'helixlaw17.InnerMends': WHATEVER THE INPUT: true; the input reads as it did. -/
def innerMendsSpec : ChangeSpec := { name := "innerMends", fn := fun _ => fun
  | [d1, d2, d3, d4] => { results := [.lit (.bool true)], args := [d1, d2, d3, d4] }
  | _ => none }
def innerMendsRow : OpenClaim := { program := "ytkibigbcdlilkaagreatdoor", sum := "3e47bbd1caaaffdcf9d8063c41b82eacb0931a34e909eca4c6ad02b3c52b5bfa", func := "helix/helixlaw17.InnerMends", spec := "innerMends", inPlace := ["slices.overlaps[byte]"], unfollowed := true, recurses := true, named := ["helix/nt.letters", "helix/bits.classes", "helix/edit.letters"], apart := false, laid := [("helix/bits.classes", laid_helix_bits_classes), ("helix/edit.letters", laid_helix_edit_letters), ("helix/nt.letters", laid_helix_nt_letters)] }
def InnerMendsSaid : Prop := innerMendsRow.holds Tryz.pinned (OpenSpec.ofChange innerMendsSpec)

/-- ITS FALSE NEIGHBOUR: 'it returns false'. Refute it at one input. -/
def innerMendsWrong : ChangeSpec := { name := "innerMends", fn := fun _ => fun
  | [d1, d2, d3, d4] => { results := [.lit (.bool false)], args := [d1, d2, d3, d4] }
  | _ => none }
def InnerMendsWrongFalsely : Prop := innerMendsRow.holds Tryz.pinned (OpenSpec.ofChange innerMendsWrong)

/-- 'helixlaw17.InnerAll': WHATEVER THE INPUT: true; the input reads as it did. -/
def innerAllSpec : ChangeSpec := { name := "innerAll", fn := fun _ => fun
  | [d] => { results := [.lit (.bool true)], args := [d] }
  | _ => none }
def innerAllRow : OpenClaim := { program := "ytkibigbcdlilkaagreatdoor", sum := "3e47bbd1caaaffdcf9d8063c41b82eacb0931a34e909eca4c6ad02b3c52b5bfa", func := "helix/helixlaw17.InnerAll", spec := "innerAll", inPlace := ["slices.overlaps[byte]"], unfollowed := true, recurses := true, named := ["helix/nt.letters", "helix/bits.classes", "helix/edit.letters"], apart := false, laid := [("helix/bits.classes", laid_helix_bits_classes), ("helix/edit.letters", laid_helix_edit_letters), ("helix/nt.letters", laid_helix_nt_letters)] }
def InnerAllSaid : Prop := innerAllRow.holds Tryz.pinned (OpenSpec.ofChange innerAllSpec)

/-- ITS FALSE NEIGHBOUR: 'it returns false'. Refute it at one input. -/
def innerAllWrong : ChangeSpec := { name := "innerAll", fn := fun _ => fun
  | [d] => { results := [.lit (.bool false)], args := [d] }
  | _ => none }
def InnerAllWrongFalsely : Prop := innerAllRow.holds Tryz.pinned (OpenSpec.ofChange innerAllWrong)

/-- 'helixlaw17.InnerNear': WHATEVER THE INPUT: true; the input reads as it did. -/
def innerNearSpec : ChangeSpec := { name := "innerNear", fn := fun _ => fun
  | [d1, d2] => { results := [.lit (.bool true)], args := [d1, d2] }
  | _ => none }
def innerNearRow : OpenClaim := { program := "ytkibigbcdlilkaagreatdoor", sum := "3e47bbd1caaaffdcf9d8063c41b82eacb0931a34e909eca4c6ad02b3c52b5bfa", func := "helix/helixlaw17.InnerNear", spec := "innerNear", inPlace := ["slices.overlaps[byte]"], unfollowed := true, recurses := true, named := ["helix/nt.letters", "helix/bits.classes", "helix/edit.letters"], apart := false, laid := [("helix/bits.classes", laid_helix_bits_classes), ("helix/edit.letters", laid_helix_edit_letters), ("helix/nt.letters", laid_helix_nt_letters)] }
def InnerNearSaid : Prop := innerNearRow.holds Tryz.pinned (OpenSpec.ofChange innerNearSpec)

/-- ITS FALSE NEIGHBOUR: 'it returns false'. Refute it at one input. -/
def innerNearWrong : ChangeSpec := { name := "innerNear", fn := fun _ => fun
  | [d1, d2] => { results := [.lit (.bool false)], args := [d1, d2] }
  | _ => none }
def InnerNearWrongFalsely : Prop := innerNearRow.holds Tryz.pinned (OpenSpec.ofChange innerNearWrong)

/-- 'helixlaw17.InnerApart': WHATEVER THE INPUT: true; the input reads as it did. -/
def innerApartSpec : ChangeSpec := { name := "innerApart", fn := fun _ => fun
  | [d1, d2] => { results := [.lit (.bool true)], args := [d1, d2] }
  | _ => none }
def innerApartRow : OpenClaim := { program := "ytkibigbcdlilkaagreatdoor", sum := "3e47bbd1caaaffdcf9d8063c41b82eacb0931a34e909eca4c6ad02b3c52b5bfa", func := "helix/helixlaw17.InnerApart", spec := "innerApart", inPlace := ["slices.overlaps[byte]"], unfollowed := true, recurses := true, named := ["helix/nt.letters", "helix/bits.classes", "helix/edit.letters"], apart := false, laid := [("helix/bits.classes", laid_helix_bits_classes), ("helix/edit.letters", laid_helix_edit_letters), ("helix/nt.letters", laid_helix_nt_letters)] }
def InnerApartSaid : Prop := innerApartRow.holds Tryz.pinned (OpenSpec.ofChange innerApartSpec)

/-- ITS FALSE NEIGHBOUR: 'it returns false'. Refute it at one input. -/
def innerApartWrong : ChangeSpec := { name := "innerApart", fn := fun _ => fun
  | [d1, d2] => { results := [.lit (.bool false)], args := [d1, d2] }
  | _ => none }
def InnerApartWrongFalsely : Prop := innerApartRow.holds Tryz.pinned (OpenSpec.ofChange innerApartWrong)

/- THE SECOND FORM. 'bulk': how many values and letters a reading holds, each counted each time it is reached (what is shared counts as often as it is met; a slice's spare places count too). A statement '..UptoSaid' is the law's where the arguments, and the package variables that the reading takes, are together of bulk at most 1048576: NARROWER than '..Said'. Prove '..Said' where nothing that the law and all that it calls make is longer than what came in: it says more and counts as full. Else prove '..UptoSaid'. A law counts once. -/
mutual
def uptoBulk {H : Type} : DataW H → Nat
  | .lit (.string bytes) => bytes.length + 1
  | .lit _ => 1
  | .nil => 1
  | .ptr d => uptoBulk d + 1
  | .slice elems spare => uptoBulkAll elems + uptoBulkAll spare + 1
  | .agg parts => uptoBulkAll parts + 1
  | .iface _ d => uptoBulk d + 1
  | .map entries => uptoBulkEntries entries + 1
  | .held _ => 1
def uptoBulkAll {H : Type} : List (DataW H) → Nat
  | [] => 0
  | d :: r => uptoBulk d + uptoBulkAll r
def uptoBulkEntries {H : Type} : List (Lit × DataW H) → Nat
  | [] => 0
  | x :: r => uptoBulkEntry x + uptoBulkEntries r
def uptoBulkEntry {H : Type} : Lit × DataW H → Nat
  | (.string bytes, d) => bytes.length + uptoBulk d + 1
  | (_, d) => uptoBulk d + 1
 end
def uptoSmall : (H : Type) → List (DataW H) → Bool := fun _ ds => decide (uptoBulkAll ds ≤ 1048576)
def OpenSpec.upto (s : _root_.Go.ChangeSpec) : _root_.Go.OpenSpec := { _root_.Go.OpenSpec.ofChange s with cond := some uptoSmall }

/-- 'helixlaw17.InnerTells', WHERE WHAT IT READS IS OF BULK AT MOST 1048576: true; the input reads as it did. -/
def innerTellsUptoRow : OpenClaim := { program := "ytkibigbcdlilkaagreatdoor", sum := "3e47bbd1caaaffdcf9d8063c41b82eacb0931a34e909eca4c6ad02b3c52b5bfa", func := "helix/helixlaw17.InnerTells", spec := "innerTells", inPlace := ["slices.overlaps[byte]"], unfollowed := true, recurses := true, named := ["helix/nt.letters", "helix/bits.classes", "helix/edit.letters"], apart := false, laid := [("helix/bits.classes", laid_helix_bits_classes), ("helix/edit.letters", laid_helix_edit_letters), ("helix/nt.letters", laid_helix_nt_letters)], narrowed := true }
def InnerTellsUptoSaid : Prop := innerTellsUptoRow.holds Tryz.pinned (OpenSpec.upto innerTellsSpec)

/-- 'helixlaw17.InnerMends', WHERE WHAT IT READS IS OF BULK AT MOST 1048576: true; the input reads as it did. -/
def innerMendsUptoRow : OpenClaim := { program := "ytkibigbcdlilkaagreatdoor", sum := "3e47bbd1caaaffdcf9d8063c41b82eacb0931a34e909eca4c6ad02b3c52b5bfa", func := "helix/helixlaw17.InnerMends", spec := "innerMends", inPlace := ["slices.overlaps[byte]"], unfollowed := true, recurses := true, named := ["helix/nt.letters", "helix/bits.classes", "helix/edit.letters"], apart := false, laid := [("helix/bits.classes", laid_helix_bits_classes), ("helix/edit.letters", laid_helix_edit_letters), ("helix/nt.letters", laid_helix_nt_letters)], narrowed := true }
def InnerMendsUptoSaid : Prop := innerMendsUptoRow.holds Tryz.pinned (OpenSpec.upto innerMendsSpec)

/-- 'helixlaw17.InnerAll', WHERE WHAT IT READS IS OF BULK AT MOST 1048576: true; the input reads as it did. -/
def innerAllUptoRow : OpenClaim := { program := "ytkibigbcdlilkaagreatdoor", sum := "3e47bbd1caaaffdcf9d8063c41b82eacb0931a34e909eca4c6ad02b3c52b5bfa", func := "helix/helixlaw17.InnerAll", spec := "innerAll", inPlace := ["slices.overlaps[byte]"], unfollowed := true, recurses := true, named := ["helix/nt.letters", "helix/bits.classes", "helix/edit.letters"], apart := false, laid := [("helix/bits.classes", laid_helix_bits_classes), ("helix/edit.letters", laid_helix_edit_letters), ("helix/nt.letters", laid_helix_nt_letters)], narrowed := true }
def InnerAllUptoSaid : Prop := innerAllUptoRow.holds Tryz.pinned (OpenSpec.upto innerAllSpec)

/-- 'helixlaw17.InnerNear', WHERE WHAT IT READS IS OF BULK AT MOST 1048576: true; the input reads as it did. -/
def innerNearUptoRow : OpenClaim := { program := "ytkibigbcdlilkaagreatdoor", sum := "3e47bbd1caaaffdcf9d8063c41b82eacb0931a34e909eca4c6ad02b3c52b5bfa", func := "helix/helixlaw17.InnerNear", spec := "innerNear", inPlace := ["slices.overlaps[byte]"], unfollowed := true, recurses := true, named := ["helix/nt.letters", "helix/bits.classes", "helix/edit.letters"], apart := false, laid := [("helix/bits.classes", laid_helix_bits_classes), ("helix/edit.letters", laid_helix_edit_letters), ("helix/nt.letters", laid_helix_nt_letters)], narrowed := true }
def InnerNearUptoSaid : Prop := innerNearUptoRow.holds Tryz.pinned (OpenSpec.upto innerNearSpec)

/-- 'helixlaw17.InnerApart', WHERE WHAT IT READS IS OF BULK AT MOST 1048576: true; the input reads as it did. -/
def innerApartUptoRow : OpenClaim := { program := "ytkibigbcdlilkaagreatdoor", sum := "3e47bbd1caaaffdcf9d8063c41b82eacb0931a34e909eca4c6ad02b3c52b5bfa", func := "helix/helixlaw17.InnerApart", spec := "innerApart", inPlace := ["slices.overlaps[byte]"], unfollowed := true, recurses := true, named := ["helix/nt.letters", "helix/bits.classes", "helix/edit.letters"], apart := false, laid := [("helix/bits.classes", laid_helix_bits_classes), ("helix/edit.letters", laid_helix_edit_letters), ("helix/nt.letters", laid_helix_nt_letters)], narrowed := true }
def InnerApartUptoSaid : Prop := innerApartUptoRow.holds Tryz.pinned (OpenSpec.upto innerApartSpec)

end Rows
end Go.Proofs.YtkibigbcdlilkaaGreatDoor
