/-
  No cell of these rows narrows 'for every input' (looked for: loops, veiled, ifaces, maps, wideKeys, modest, calm, conditions, laid).
  DERIVED. THE GIVEN ROWS OF THIS SEAT. 5 by the template 'for every input the law returns true; each argument reads behind the call as it read before'; 0 by the template 'total and deterministic' (their statements: YtkldapdebjlfmaaTotals.lean).
  GIVEN WITH THE SEED: the statements are not yours to turn. If you find one false, say at which input.
  Laid BY PROGRAM, IN A SANDBOX (cutbox-rows.mjs): the forced cells as the released guide's own fill.sh prints them over the translation c7bb948e16ccfdf2… (all of the seat's roots in one cut). By AI agents, Wed Nov 11 2026. No macro, syntax, notation, axiom, sorry.
-/
import Derived.Test.YtkldapdebjlfmaaChecked
import GoSem.Claim
import GoSem.ClaimJoined
import GoSem.ClaimMapViews
import Derived.JoinedTies
import Derived.KernelRfl
namespace Go.Proofs.Ytkldapdebjlfmaa
/- THE CELL 'sum', in the pinned program and in every row, IS THE sha256 OF THE DUMP (.gsa) THAT YtkldapdebjlfmaaProg.lean LOADS. Nothing in Lean hashes anything: it is a label: what it is worth is what the hold of that sum in a sandbox is worth. -/
noncomputable def Try.pinned : Pinned := { name := "ytkldapdebjlfmaa", sum := "c7bb948e16ccfdf2134366624711215b3a25b13e4ae20591ca6d3cfd45c96286", checked := Try.checked }
namespace Rows
def none {H : Type} : Left H := { results := [], args := [] }

/-- 'helixlaw05.RsTells': WHATEVER THE INPUT: true; the input reads as it did. -/
def rsTellsSpec : ChangeSpec := { name := "rsTells", fn := fun _ => fun
  | [d1, d2] => { results := [.lit (.bool true)], args := [d1, d2] }
  | _ => none }
def rsTellsRow : OpenClaim := { program := "ytkldapdebjlfmaa", sum := "c7bb948e16ccfdf2134366624711215b3a25b13e4ae20591ca6d3cfd45c96286", func := "helix/helixlaw05.RsTells", spec := "rsTells", unfollowed := true, recurses := true, apart := false }
def RsTellsSaid : Prop := rsTellsRow.holds Try.pinned (OpenSpec.ofChange rsTellsSpec)

/-- ITS FALSE NEIGHBOUR: 'it returns false'. Refute it at one input. -/
def rsTellsWrong : ChangeSpec := { name := "rsTells", fn := fun _ => fun
  | [d1, d2] => { results := [.lit (.bool false)], args := [d1, d2] }
  | _ => none }
def RsTellsWrongFalsely : Prop := rsTellsRow.holds Try.pinned (OpenSpec.ofChange rsTellsWrong)

/-- 'helixlaw05.RsRight': WHATEVER THE INPUT: true; the input reads as it did. -/
def rsRightSpec : ChangeSpec := { name := "rsRight", fn := fun _ => fun
  | [d1, d2, d3] => { results := [.lit (.bool true)], args := [d1, d2, d3] }
  | _ => none }
def rsRightRow : OpenClaim := { program := "ytkldapdebjlfmaa", sum := "c7bb948e16ccfdf2134366624711215b3a25b13e4ae20591ca6d3cfd45c96286", func := "helix/helixlaw05.RsRight", spec := "rsRight", unfollowed := true, recurses := true, apart := false }
def RsRightSaid : Prop := rsRightRow.holds Try.pinned (OpenSpec.ofChange rsRightSpec)

/-- ITS FALSE NEIGHBOUR: 'it returns false'. Refute it at one input. -/
def rsRightWrong : ChangeSpec := { name := "rsRight", fn := fun _ => fun
  | [d1, d2, d3] => { results := [.lit (.bool false)], args := [d1, d2, d3] }
  | _ => none }
def RsRightWrongFalsely : Prop := rsRightRow.holds Try.pinned (OpenSpec.ofChange rsRightWrong)

/-- 'helixlaw05.RsSums': WHATEVER THE INPUT: true; the input reads as it did. -/
def rsSumsSpec : ChangeSpec := { name := "rsSums", fn := fun _ => fun
  | [d1, d2, d3] => { results := [.lit (.bool true)], args := [d1, d2, d3] }
  | _ => none }
def rsSumsRow : OpenClaim := { program := "ytkldapdebjlfmaa", sum := "c7bb948e16ccfdf2134366624711215b3a25b13e4ae20591ca6d3cfd45c96286", func := "helix/helixlaw05.RsSums", spec := "rsSums", unfollowed := true, recurses := true, apart := false }
def RsSumsSaid : Prop := rsSumsRow.holds Try.pinned (OpenSpec.ofChange rsSumsSpec)

/-- ITS FALSE NEIGHBOUR: 'it returns false'. Refute it at one input. -/
def rsSumsWrong : ChangeSpec := { name := "rsSums", fn := fun _ => fun
  | [d1, d2, d3] => { results := [.lit (.bool false)], args := [d1, d2, d3] }
  | _ => none }
def RsSumsWrongFalsely : Prop := rsSumsRow.holds Try.pinned (OpenSpec.ofChange rsSumsWrong)

/-- 'helixlaw05.RsApart': WHATEVER THE INPUT: true; the input reads as it did. -/
def rsApartSpec : ChangeSpec := { name := "rsApart", fn := fun _ => fun
  | [d1, d2, d3] => { results := [.lit (.bool true)], args := [d1, d2, d3] }
  | _ => none }
def rsApartRow : OpenClaim := { program := "ytkldapdebjlfmaa", sum := "c7bb948e16ccfdf2134366624711215b3a25b13e4ae20591ca6d3cfd45c96286", func := "helix/helixlaw05.RsApart", spec := "rsApart", unfollowed := true, recurses := true, apart := false }
def RsApartSaid : Prop := rsApartRow.holds Try.pinned (OpenSpec.ofChange rsApartSpec)

/-- ITS FALSE NEIGHBOUR: 'it returns false'. Refute it at one input. -/
def rsApartWrong : ChangeSpec := { name := "rsApart", fn := fun _ => fun
  | [d1, d2, d3] => { results := [.lit (.bool false)], args := [d1, d2, d3] }
  | _ => none }
def RsApartWrongFalsely : Prop := rsApartRow.holds Try.pinned (OpenSpec.ofChange rsApartWrong)

/-- 'helixlaw05.RsWrong': WHATEVER THE INPUT: true; the input reads as it did. -/
def rsWrongSpec : ChangeSpec := { name := "rsWrong", fn := fun _ => fun
  | [d1, d2, d3] => { results := [.lit (.bool true)], args := [d1, d2, d3] }
  | _ => none }
def rsWrongRow : OpenClaim := { program := "ytkldapdebjlfmaa", sum := "c7bb948e16ccfdf2134366624711215b3a25b13e4ae20591ca6d3cfd45c96286", func := "helix/helixlaw05.RsWrong", spec := "rsWrong", unfollowed := true, recurses := true, apart := false }
def RsWrongSaid : Prop := rsWrongRow.holds Try.pinned (OpenSpec.ofChange rsWrongSpec)

/-- ITS FALSE NEIGHBOUR: 'it returns false'. Refute it at one input. -/
def rsWrongWrong : ChangeSpec := { name := "rsWrong", fn := fun _ => fun
  | [d1, d2, d3] => { results := [.lit (.bool false)], args := [d1, d2, d3] }
  | _ => none }
def RsWrongWrongFalsely : Prop := rsWrongRow.holds Try.pinned (OpenSpec.ofChange rsWrongWrong)

/- THE SECOND FORM. 'bulk': how many values and letters a reading holds, each counted each time it is reached (what is shared counts as often as it is met; a slice's spare places count too). A statement '..UptoSaid' is the law's where the arguments, and the package variables that the reading takes, are together of bulk at most 1048576: NARROWER than '..Said'. Prove '..Said' where nothing that the law and all that it calls make is longer than what came in: it says more and counts as full. Else prove '..UptoSaid'. A law counts once. -/
mutual
def uptoBulk {H : Type} : DataW H → Nat
  | .lit (.string bytes) => bytes.length + 1
  | .lit _ => 1
  | .nil => 1
  | .ptr d => uptoBulk d + 1
  | .slice elems spare => uptoBulkAll elems + uptoBulkAll spare + 1
  | .agg parts => uptoBulkAll parts + 1
  | .iface _ d => uptoBulk d + 1
  | .map entries => uptoBulkEntries entries + 1
  | .held _ => 1
def uptoBulkAll {H : Type} : List (DataW H) → Nat
  | [] => 0
  | d :: r => uptoBulk d + uptoBulkAll r
def uptoBulkEntries {H : Type} : List (Lit × DataW H) → Nat
  | [] => 0
  | x :: r => uptoBulkEntry x + uptoBulkEntries r
def uptoBulkEntry {H : Type} : Lit × DataW H → Nat
  | (.string bytes, d) => bytes.length + uptoBulk d + 1
  | (_, d) => uptoBulk d + 1
 end
def uptoSmall : (H : Type) → List (DataW H) → Bool := fun _ ds => decide (uptoBulkAll ds ≤ 1048576)
def OpenSpec.upto (s : _root_.Go.ChangeSpec) : _root_.Go.OpenSpec := { _root_.Go.OpenSpec.ofChange s with cond := some uptoSmall }

/-- 'helixlaw05.RsTells', WHERE WHAT IT READS IS OF BULK AT MOST 1048576: true; the input reads as it did. -/
def rsTellsUptoRow : OpenClaim := { program := "ytkldapdebjlfmaa", sum := "c7bb948e16ccfdf2134366624711215b3a25b13e4ae20591ca6d3cfd45c96286", func := "helix/helixlaw05.RsTells", spec := "rsTells", unfollowed := true, recurses := true, apart := false, narrowed := true }
def RsTellsUptoSaid : Prop := rsTellsUptoRow.holds Try.pinned (OpenSpec.upto rsTellsSpec)

/-- 'helixlaw05.RsRight', WHERE WHAT IT READS IS OF BULK AT MOST 1048576: true; the input reads as it did. -/
def rsRightUptoRow : OpenClaim := { program := "ytkldapdebjlfmaa", sum := "c7bb948e16ccfdf2134366624711215b3a25b13e4ae20591ca6d3cfd45c96286", func := "helix/helixlaw05.RsRight", spec := "rsRight", unfollowed := true, recurses := true, apart := false, narrowed := true }
def RsRightUptoSaid : Prop := rsRightUptoRow.holds Try.pinned (OpenSpec.upto rsRightSpec)

/-- 'helixlaw05.RsSums', WHERE WHAT IT READS IS OF BULK AT MOST 1048576: true; the input reads as it did. -/
def rsSumsUptoRow : OpenClaim := { program := "ytkldapdebjlfmaa", sum := "c7bb948e16ccfdf2134366624711215b3a25b13e4ae20591ca6d3cfd45c96286", func := "helix/helixlaw05.RsSums", spec := "rsSums", unfollowed := true, recurses := true, apart := false, narrowed := true }
def RsSumsUptoSaid : Prop := rsSumsUptoRow.holds Try.pinned (OpenSpec.upto rsSumsSpec)

/-- 'helixlaw05.RsApart', WHERE WHAT IT READS IS OF BULK AT MOST 1048576: true; the input reads as it did. -/
def rsApartUptoRow : OpenClaim := { program := "ytkldapdebjlfmaa", sum := "c7bb948e16ccfdf2134366624711215b3a25b13e4ae20591ca6d3cfd45c96286", func := "helix/helixlaw05.RsApart", spec := "rsApart", unfollowed := true, recurses := true, apart := false, narrowed := true }
def RsApartUptoSaid : Prop := rsApartUptoRow.holds Try.pinned (OpenSpec.upto rsApartSpec)

/-- 'helixlaw05.RsWrong', WHERE WHAT IT READS IS OF BULK AT MOST 1048576: true; the input reads as it did. -/
def rsWrongUptoRow : OpenClaim := { program := "ytkldapdebjlfmaa", sum := "c7bb948e16ccfdf2134366624711215b3a25b13e4ae20591ca6d3cfd45c96286", func := "helix/helixlaw05.RsWrong", spec := "rsWrong", unfollowed := true, recurses := true, apart := false, narrowed := true }
def RsWrongUptoSaid : Prop := rsWrongUptoRow.holds Try.pinned (OpenSpec.upto rsWrongSpec)

end Rows
end Go.Proofs.Ytkldapdebjlfmaa
