/-
  NARROWER THAN 'FOR EVERY INPUT', by the rows' own cells (each row's printed sentence says how): ExtraTells: laid · ExtraFinds: laid · ExtraOne: laid · ExtraRuns: laid.
  DERIVED. THE GIVEN ROWS OF THIS SEAT. 4 by the template 'for every input the law returns true; each argument reads behind the call as it read before'; 0 by the template 'total and deterministic' (their statements: YtpjpfgahjalggaaDoorTotals.lean).
  GIVEN WITH THE SEED: the statements are not yours to turn. If you find one false, say at which input.
  Laid BY PROGRAM, IN A SANDBOX (cutbox-rows.mjs): the forced cells as the released guide's own fill.sh prints them over the translation 161b0847e3b31ab6… (all of the seat's roots in one cut). By AI agents, Wed Nov 11 2026. No macro, syntax, notation, axiom, sorry.
-/
import Derived.Test.YtpjpfgahjalggaaDoorChecked
import GoSem.Claim
import GoSem.ClaimJoined
import GoSem.ClaimMapViews
import Derived.JoinedTies
import Derived.KernelRfl
namespace Go.Proofs.YtpjpfgahjalggaaDoor
/- THE CELL 'sum', in the pinned program and in every row, IS THE sha256 OF THE DUMP (.gsa) THAT YtpjpfgahjalggaaDoorProg.lean LOADS. Nothing in Lean hashes anything: it is a label: what it is worth is what the hold of that sum in a sandbox is worth. -/
noncomputable def Tryd.pinned : Pinned := { name := "ytpjpfgahjalggaadoor", sum := "161b0847e3b31ab6dc74fb6581b96dc42e80574511e9f1b7c2ba79870609825a", checked := Tryd.checked }
namespace Rows
def none {H : Type} : Left H := { results := [], args := [] }

/- WHAT THE LISTED PACKAGE-LEVEL VARIABLES READ AS WHEN THE CALL BEGINS. Each datum BY PROGRAM (the guide's laid-datum.mjs) off the statement by which the dump's own 'gosem.cut.vars' lays the variable. In a bare row this is a premise. The card (YtpjpfgahjalggaaDoorCards.lean) ties it to the program's text. -/
def laid_helix_nt_letters {H : Type} : DataW H := .agg [.lit (.int .u8 65), .lit (.int .u8 67), .lit (.int .u8 71), .lit (.int .u8 84)]

/-- 'helixlaw14.ExtraTells': WHATEVER THE INPUT: true; the input reads as it did. -/
def extraTellsSpec : ChangeSpec := { name := "extraTells", fn := fun _ => fun
  | [d1, d2, d3] => { results := [.lit (.bool true)], args := [d1, d2, d3] }
  | _ => none }
def extraTellsRow : OpenClaim := { program := "ytpjpfgahjalggaadoor", sum := "161b0847e3b31ab6dc74fb6581b96dc42e80574511e9f1b7c2ba79870609825a", func := "helix/helixlaw14.ExtraTells", spec := "extraTells", unfollowed := true, recurses := true, named := ["helix/nt.letters"], apart := false, laid := [("helix/nt.letters", laid_helix_nt_letters)] }
def ExtraTellsSaid : Prop := extraTellsRow.holds Tryd.pinned (OpenSpec.ofChange extraTellsSpec)

/-- ITS FALSE NEIGHBOUR: 'it returns false'. Refute it at one input. -/
def extraTellsWrong : ChangeSpec := { name := "extraTells", fn := fun _ => fun
  | [d1, d2, d3] => { results := [.lit (.bool false)], args := [d1, d2, d3] }
  | _ => none }
def ExtraTellsWrongFalsely : Prop := extraTellsRow.holds Tryd.pinned (OpenSpec.ofChange extraTellsWrong)

/-- 'helixlaw14.ExtraFinds': WHATEVER THE INPUT: true; the input reads as it did. -/
def extraFindsSpec : ChangeSpec := { name := "extraFinds", fn := fun _ => fun
  | [d1, d2, d3] => { results := [.lit (.bool true)], args := [d1, d2, d3] }
  | _ => none }
def extraFindsRow : OpenClaim := { program := "ytpjpfgahjalggaadoor", sum := "161b0847e3b31ab6dc74fb6581b96dc42e80574511e9f1b7c2ba79870609825a", func := "helix/helixlaw14.ExtraFinds", spec := "extraFinds", unfollowed := true, recurses := true, named := ["helix/nt.letters"], apart := false, laid := [("helix/nt.letters", laid_helix_nt_letters)] }
def ExtraFindsSaid : Prop := extraFindsRow.holds Tryd.pinned (OpenSpec.ofChange extraFindsSpec)

/-- ITS FALSE NEIGHBOUR: 'it returns false'. Refute it at one input. -/
def extraFindsWrong : ChangeSpec := { name := "extraFinds", fn := fun _ => fun
  | [d1, d2, d3] => { results := [.lit (.bool false)], args := [d1, d2, d3] }
  | _ => none }
def ExtraFindsWrongFalsely : Prop := extraFindsRow.holds Tryd.pinned (OpenSpec.ofChange extraFindsWrong)

/-- 'helixlaw14.ExtraOne': WHATEVER THE INPUT: true; the input reads as it did. -/
def extraOneSpec : ChangeSpec := { name := "extraOne", fn := fun _ => fun
  | [d1, d2] => { results := [.lit (.bool true)], args := [d1, d2] }
  | _ => none }
def extraOneRow : OpenClaim := { program := "ytpjpfgahjalggaadoor", sum := "161b0847e3b31ab6dc74fb6581b96dc42e80574511e9f1b7c2ba79870609825a", func := "helix/helixlaw14.ExtraOne", spec := "extraOne", unfollowed := true, recurses := true, named := ["helix/nt.letters"], apart := false, laid := [("helix/nt.letters", laid_helix_nt_letters)] }
def ExtraOneSaid : Prop := extraOneRow.holds Tryd.pinned (OpenSpec.ofChange extraOneSpec)

/-- ITS FALSE NEIGHBOUR: 'it returns false'. Refute it at one input. -/
def extraOneWrong : ChangeSpec := { name := "extraOne", fn := fun _ => fun
  | [d1, d2] => { results := [.lit (.bool false)], args := [d1, d2] }
  | _ => none }
def ExtraOneWrongFalsely : Prop := extraOneRow.holds Tryd.pinned (OpenSpec.ofChange extraOneWrong)

/-- 'helixlaw14.ExtraRuns': WHATEVER THE INPUT: true; the input reads as it did. -/
def extraRunsSpec : ChangeSpec := { name := "extraRuns", fn := fun _ => fun
  | [d1, d2, d3] => { results := [.lit (.bool true)], args := [d1, d2, d3] }
  | _ => none }
def extraRunsRow : OpenClaim := { program := "ytpjpfgahjalggaadoor", sum := "161b0847e3b31ab6dc74fb6581b96dc42e80574511e9f1b7c2ba79870609825a", func := "helix/helixlaw14.ExtraRuns", spec := "extraRuns", unfollowed := true, recurses := true, named := ["helix/nt.letters"], apart := false, laid := [("helix/nt.letters", laid_helix_nt_letters)] }
def ExtraRunsSaid : Prop := extraRunsRow.holds Tryd.pinned (OpenSpec.ofChange extraRunsSpec)

/-- ITS FALSE NEIGHBOUR: 'it returns false'. Refute it at one input. -/
def extraRunsWrong : ChangeSpec := { name := "extraRuns", fn := fun _ => fun
  | [d1, d2, d3] => { results := [.lit (.bool false)], args := [d1, d2, d3] }
  | _ => none }
def ExtraRunsWrongFalsely : Prop := extraRunsRow.holds Tryd.pinned (OpenSpec.ofChange extraRunsWrong)

/- THE SECOND FORM. 'bulk': how many values and letters a reading holds, each counted each time it is reached (what is shared counts as often as it is met; a slice's spare places count too). A statement '..UptoSaid' is the law's where the arguments, and the package variables that the reading takes, are together of bulk at most 1048576: NARROWER than '..Said'. Prove '..Said' where nothing that the law and all that it calls make is longer than what came in: it says more and counts as full. Else prove '..UptoSaid'. A law counts once. -/
mutual
def uptoBulk {H : Type} : DataW H → Nat
  | .lit (.string bytes) => bytes.length + 1
  | .lit _ => 1
  | .nil => 1
  | .ptr d => uptoBulk d + 1
  | .slice elems spare => uptoBulkAll elems + uptoBulkAll spare + 1
  | .agg parts => uptoBulkAll parts + 1
  | .iface _ d => uptoBulk d + 1
  | .map entries => uptoBulkEntries entries + 1
  | .held _ => 1
def uptoBulkAll {H : Type} : List (DataW H) → Nat
  | [] => 0
  | d :: r => uptoBulk d + uptoBulkAll r
def uptoBulkEntries {H : Type} : List (Lit × DataW H) → Nat
  | [] => 0
  | x :: r => uptoBulkEntry x + uptoBulkEntries r
def uptoBulkEntry {H : Type} : Lit × DataW H → Nat
  | (.string bytes, d) => bytes.length + uptoBulk d + 1
  | (_, d) => uptoBulk d + 1
 end
def uptoSmall : (H : Type) → List (DataW H) → Bool := fun _ ds => decide (uptoBulkAll ds ≤ 1048576)
def OpenSpec.upto (s : _root_.Go.ChangeSpec) : _root_.Go.OpenSpec := { _root_.Go.OpenSpec.ofChange s with cond := some uptoSmall }

/-- 'helixlaw14.ExtraTells', WHERE WHAT IT READS IS OF BULK AT MOST 1048576: true; the input reads as it did. -/
def extraTellsUptoRow : OpenClaim := { program := "ytpjpfgahjalggaadoor", sum := "161b0847e3b31ab6dc74fb6581b96dc42e80574511e9f1b7c2ba79870609825a", func := "helix/helixlaw14.ExtraTells", spec := "extraTells", unfollowed := true, recurses := true, named := ["helix/nt.letters"], apart := false, laid := [("helix/nt.letters", laid_helix_nt_letters)], narrowed := true }
def ExtraTellsUptoSaid : Prop := extraTellsUptoRow.holds Tryd.pinned (OpenSpec.upto extraTellsSpec)

/-- 'helixlaw14.ExtraFinds', WHERE WHAT IT READS IS OF BULK AT MOST 1048576: true; the input reads as it did. -/
def extraFindsUptoRow : OpenClaim := { program := "ytpjpfgahjalggaadoor", sum := "161b0847e3b31ab6dc74fb6581b96dc42e80574511e9f1b7c2ba79870609825a", func := "helix/helixlaw14.ExtraFinds", spec := "extraFinds", unfollowed := true, recurses := true, named := ["helix/nt.letters"], apart := false, laid := [("helix/nt.letters", laid_helix_nt_letters)], narrowed := true }
def ExtraFindsUptoSaid : Prop := extraFindsUptoRow.holds Tryd.pinned (OpenSpec.upto extraFindsSpec)

/-- 'helixlaw14.ExtraOne', WHERE WHAT IT READS IS OF BULK AT MOST 1048576: true; the input reads as it did. -/
def extraOneUptoRow : OpenClaim := { program := "ytpjpfgahjalggaadoor", sum := "161b0847e3b31ab6dc74fb6581b96dc42e80574511e9f1b7c2ba79870609825a", func := "helix/helixlaw14.ExtraOne", spec := "extraOne", unfollowed := true, recurses := true, named := ["helix/nt.letters"], apart := false, laid := [("helix/nt.letters", laid_helix_nt_letters)], narrowed := true }
def ExtraOneUptoSaid : Prop := extraOneUptoRow.holds Tryd.pinned (OpenSpec.upto extraOneSpec)

/-- 'helixlaw14.ExtraRuns', WHERE WHAT IT READS IS OF BULK AT MOST 1048576: true; the input reads as it did. -/
def extraRunsUptoRow : OpenClaim := { program := "ytpjpfgahjalggaadoor", sum := "161b0847e3b31ab6dc74fb6581b96dc42e80574511e9f1b7c2ba79870609825a", func := "helix/helixlaw14.ExtraRuns", spec := "extraRuns", unfollowed := true, recurses := true, named := ["helix/nt.letters"], apart := false, laid := [("helix/nt.letters", laid_helix_nt_letters)], narrowed := true }
def ExtraRunsUptoSaid : Prop := extraRunsUptoRow.holds Tryd.pinned (OpenSpec.upto extraRunsSpec)

end Rows
end Go.Proofs.YtpjpfgahjalggaaDoor
