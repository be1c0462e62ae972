/-
  No cell of these rows narrows 'for every input' (looked for: loops, veiled, ifaces, maps, wideKeys, modest, calm, conditions, laid).
  DERIVED. THE GIVEN ROWS OF THIS SEAT. 4 by the template 'for every input the law returns true; each argument reads behind the call as it read before'; 0 by the template 'total and deterministic' (their statements: YtmppkfiocleicaaTotals.lean).
  GIVEN WITH THE SEED: the statements are not yours to turn. If you find one false, say at which input.
  Laid BY PROGRAM, IN A SANDBOX (cutbox-rows.mjs): the forced cells as the released guide's own fill.sh prints them over the translation 531bbe74d54cd016… (all of the seat's roots in one cut). By AI agents, Wed Nov 11 2026. No macro, syntax, notation, axiom, sorry.
-/
import Derived.Test.YtmppkfiocleicaaChecked
import GoSem.Claim
import GoSem.ClaimJoined
import GoSem.ClaimMapViews
import Derived.JoinedTies
import Derived.KernelRfl
namespace Go.Proofs.Ytmppkfiocleicaa
/- THE CELL 'sum', in the pinned program and in every row, IS THE sha256 OF THE DUMP (.gsa) THAT YtmppkfiocleicaaProg.lean LOADS. Nothing in Lean hashes anything: it is a label: what it is worth is what the hold of that sum in a sandbox is worth. -/
noncomputable def Try.pinned : Pinned := { name := "ytmppkfiocleicaa", sum := "531bbe74d54cd016df12d309584b80508b8d152d28e1c6491d4a9cc982f60067", checked := Try.checked }
namespace Rows
def none {H : Type} : Left H := { results := [], args := [] }

/-- 'helixlaw08.TritsTells': WHATEVER THE INPUT: true; the input reads as it did. -/
def tritsTellsSpec : ChangeSpec := { name := "tritsTells", fn := fun _ => fun
  | [d1, d2, d3, d4, d5] => { results := [.lit (.bool true)], args := [d1, d2, d3, d4, d5] }
  | _ => none }
def tritsTellsRow : OpenClaim := { program := "ytmppkfiocleicaa", sum := "531bbe74d54cd016df12d309584b80508b8d152d28e1c6491d4a9cc982f60067", func := "helix/helixlaw08.TritsTells", spec := "tritsTells", unfollowed := true, recurses := true, apart := false }
def TritsTellsSaid : Prop := tritsTellsRow.holds Try.pinned (OpenSpec.ofChange tritsTellsSpec)

/-- ITS FALSE NEIGHBOUR: 'it returns false'. Refute it at one input. -/
def tritsTellsWrong : ChangeSpec := { name := "tritsTells", fn := fun _ => fun
  | [d1, d2, d3, d4, d5] => { results := [.lit (.bool false)], args := [d1, d2, d3, d4, d5] }
  | _ => none }
def TritsTellsWrongFalsely : Prop := tritsTellsRow.holds Try.pinned (OpenSpec.ofChange tritsTellsWrong)

/-- 'helixlaw08.TritsBack': WHATEVER THE INPUT: true; the input reads as it did. -/
def tritsBackSpec : ChangeSpec := { name := "tritsBack", fn := fun _ => fun
  | [d] => { results := [.lit (.bool true)], args := [d] }
  | _ => none }
def tritsBackRow : OpenClaim := { program := "ytmppkfiocleicaa", sum := "531bbe74d54cd016df12d309584b80508b8d152d28e1c6491d4a9cc982f60067", func := "helix/helixlaw08.TritsBack", spec := "tritsBack", unfollowed := true, recurses := true, apart := false }
def TritsBackSaid : Prop := tritsBackRow.holds Try.pinned (OpenSpec.ofChange tritsBackSpec)

/-- ITS FALSE NEIGHBOUR: 'it returns false'. Refute it at one input. -/
def tritsBackWrong : ChangeSpec := { name := "tritsBack", fn := fun _ => fun
  | [d] => { results := [.lit (.bool false)], args := [d] }
  | _ => none }
def TritsBackWrongFalsely : Prop := tritsBackRow.holds Try.pinned (OpenSpec.ofChange tritsBackWrong)

/-- 'helixlaw08.TritsOnce': WHATEVER THE INPUT: true; the input reads as it did. -/
def tritsOnceSpec : ChangeSpec := { name := "tritsOnce", fn := fun _ => fun
  | [d1, d2, d3] => { results := [.lit (.bool true)], args := [d1, d2, d3] }
  | _ => none }
def tritsOnceRow : OpenClaim := { program := "ytmppkfiocleicaa", sum := "531bbe74d54cd016df12d309584b80508b8d152d28e1c6491d4a9cc982f60067", func := "helix/helixlaw08.TritsOnce", spec := "tritsOnce", unfollowed := true, recurses := true, apart := false }
def TritsOnceSaid : Prop := tritsOnceRow.holds Try.pinned (OpenSpec.ofChange tritsOnceSpec)

/-- ITS FALSE NEIGHBOUR: 'it returns false'. Refute it at one input. -/
def tritsOnceWrong : ChangeSpec := { name := "tritsOnce", fn := fun _ => fun
  | [d1, d2, d3] => { results := [.lit (.bool false)], args := [d1, d2, d3] }
  | _ => none }
def TritsOnceWrongFalsely : Prop := tritsOnceRow.holds Try.pinned (OpenSpec.ofChange tritsOnceWrong)

/-- 'helixlaw08.TritsOrder': WHATEVER THE INPUT: true; the input reads as it did. -/
def tritsOrderSpec : ChangeSpec := { name := "tritsOrder", fn := fun _ => fun
  | [d1, d2] => { results := [.lit (.bool true)], args := [d1, d2] }
  | _ => none }
def tritsOrderRow : OpenClaim := { program := "ytmppkfiocleicaa", sum := "531bbe74d54cd016df12d309584b80508b8d152d28e1c6491d4a9cc982f60067", func := "helix/helixlaw08.TritsOrder", spec := "tritsOrder", unfollowed := true, recurses := true, apart := false }
def TritsOrderSaid : Prop := tritsOrderRow.holds Try.pinned (OpenSpec.ofChange tritsOrderSpec)

/-- ITS FALSE NEIGHBOUR: 'it returns false'. Refute it at one input. -/
def tritsOrderWrong : ChangeSpec := { name := "tritsOrder", fn := fun _ => fun
  | [d1, d2] => { results := [.lit (.bool false)], args := [d1, d2] }
  | _ => none }
def TritsOrderWrongFalsely : Prop := tritsOrderRow.holds Try.pinned (OpenSpec.ofChange tritsOrderWrong)

/- THE SECOND FORM. 'bulk': how many values and letters a reading holds, each counted each time it is reached (what is shared counts as often as it is met; a slice's spare places count too). A statement '..UptoSaid' is the law's where the arguments, and the package variables that the reading takes, are together of bulk at most 1048576: NARROWER than '..Said'. Prove '..Said' where nothing that the law and all that it calls make is longer than what came in: it says more and counts as full. Else prove '..UptoSaid'. A law counts once. -/
mutual
def uptoBulk {H : Type} : DataW H → Nat
  | .lit (.string bytes) => bytes.length + 1
  | .lit _ => 1
  | .nil => 1
  | .ptr d => uptoBulk d + 1
  | .slice elems spare => uptoBulkAll elems + uptoBulkAll spare + 1
  | .agg parts => uptoBulkAll parts + 1
  | .iface _ d => uptoBulk d + 1
  | .map entries => uptoBulkEntries entries + 1
  | .held _ => 1
def uptoBulkAll {H : Type} : List (DataW H) → Nat
  | [] => 0
  | d :: r => uptoBulk d + uptoBulkAll r
def uptoBulkEntries {H : Type} : List (Lit × DataW H) → Nat
  | [] => 0
  | x :: r => uptoBulkEntry x + uptoBulkEntries r
def uptoBulkEntry {H : Type} : Lit × DataW H → Nat
  | (.string bytes, d) => bytes.length + uptoBulk d + 1
  | (_, d) => uptoBulk d + 1
 end
def uptoSmall : (H : Type) → List (DataW H) → Bool := fun _ ds => decide (uptoBulkAll ds ≤ 1048576)
def OpenSpec.upto (s : _root_.Go.ChangeSpec) : _root_.Go.OpenSpec := { _root_.Go.OpenSpec.ofChange s with cond := some uptoSmall }

/-- 'helixlaw08.TritsTells', WHERE WHAT IT READS IS OF BULK AT MOST 1048576: true; the input reads as it did. -/
def tritsTellsUptoRow : OpenClaim := { program := "ytmppkfiocleicaa", sum := "531bbe74d54cd016df12d309584b80508b8d152d28e1c6491d4a9cc982f60067", func := "helix/helixlaw08.TritsTells", spec := "tritsTells", unfollowed := true, recurses := true, apart := false, narrowed := true }
def TritsTellsUptoSaid : Prop := tritsTellsUptoRow.holds Try.pinned (OpenSpec.upto tritsTellsSpec)

/-- 'helixlaw08.TritsBack', WHERE WHAT IT READS IS OF BULK AT MOST 1048576: true; the input reads as it did. -/
def tritsBackUptoRow : OpenClaim := { program := "ytmppkfiocleicaa", sum := "531bbe74d54cd016df12d309584b80508b8d152d28e1c6491d4a9cc982f60067", func := "helix/helixlaw08.TritsBack", spec := "tritsBack", unfollowed := true, recurses := true, apart := false, narrowed := true }
def TritsBackUptoSaid : Prop := tritsBackUptoRow.holds Try.pinned (OpenSpec.upto tritsBackSpec)

/-- 'helixlaw08.TritsOnce', WHERE WHAT IT READS IS OF BULK AT MOST 1048576: true; the input reads as it did. -/
def tritsOnceUptoRow : OpenClaim := { program := "ytmppkfiocleicaa", sum := "531bbe74d54cd016df12d309584b80508b8d152d28e1c6491d4a9cc982f60067", func := "helix/helixlaw08.TritsOnce", spec := "tritsOnce", unfollowed := true, recurses := true, apart := false, narrowed := true }
def TritsOnceUptoSaid : Prop := tritsOnceUptoRow.holds Try.pinned (OpenSpec.upto tritsOnceSpec)

/-- 'helixlaw08.TritsOrder', WHERE WHAT IT READS IS OF BULK AT MOST 1048576: true; the input reads as it did. -/
def tritsOrderUptoRow : OpenClaim := { program := "ytmppkfiocleicaa", sum := "531bbe74d54cd016df12d309584b80508b8d152d28e1c6491d4a9cc982f60067", func := "helix/helixlaw08.TritsOrder", spec := "tritsOrder", unfollowed := true, recurses := true, apart := false, narrowed := true }
def TritsOrderUptoSaid : Prop := tritsOrderUptoRow.holds Try.pinned (OpenSpec.upto tritsOrderSpec)

end Rows
end Go.Proofs.Ytmppkfiocleicaa
