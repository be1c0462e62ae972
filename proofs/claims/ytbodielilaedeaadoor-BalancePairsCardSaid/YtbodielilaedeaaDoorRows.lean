/-
  NARROWER THAN 'FOR EVERY INPUT', by the rows' own cells (each row's printed sentence says how): BalanceAlways: laid · BalancePairs: laid · BalanceWidth: laid.
  DERIVED. THE GIVEN ROWS OF THIS SEAT. 3 by the template 'for every input the law returns true; each argument reads behind the call as it read before'; 0 by the template 'total and deterministic' (their statements: YtbodielilaedeaaDoorTotals.lean).
  GIVEN WITH THE SEED: the statements are not yours to turn. If you find one false, say at which input.
  Laid BY PROGRAM, IN A SANDBOX (cutbox-rows.mjs): the forced cells as the released guide's own fill.sh prints them over the translation 780c203d9b0eba1f… (all of the seat's roots in one cut). By AI agents, Wed Nov 11 2026. No macro, syntax, notation, axiom, sorry.
-/
import Derived.Test.YtbodielilaedeaaDoorChecked
import GoSem.Claim
import GoSem.ClaimJoined
import GoSem.ClaimMapViews
import Derived.JoinedTies
import Derived.KernelRfl
namespace Go.Proofs.YtbodielilaedeaaDoor
/- THE CELL 'sum', in the pinned program and in every row, IS THE sha256 OF THE DUMP (.gsa) THAT YtbodielilaedeaaDoorProg.lean LOADS. Nothing in Lean hashes anything: it is a label: what it is worth is what the hold of that sum in a sandbox is worth. -/
noncomputable def Tryd.pinned : Pinned := { name := "ytbodielilaedeaadoor", sum := "780c203d9b0eba1f4d4ab7e05f4f43b8c6cb45439ff818e360e8ee6f4ad4ea61", checked := Tryd.checked }
namespace Rows
def none {H : Type} : Left H := { results := [], args := [] }

/- WHAT THE LISTED PACKAGE-LEVEL VARIABLES READ AS WHEN THE CALL BEGINS. Each datum BY PROGRAM (the guide's laid-datum.mjs) off the statement by which the dump's own 'gosem.cut.vars' lays the variable. In a bare row this is a premise. The card (YtbodielilaedeaaDoorCards.lean) ties it to the program's text. -/
def laid_helix_nt_letters {H : Type} : DataW H := .agg [.lit (.int .u8 65), .lit (.int .u8 67), .lit (.int .u8 71), .lit (.int .u8 84)]
def laid_helix_balance_other {H : Type} : DataW H := .agg [.lit (.int .u8 67), .lit (.int .u8 65), .lit (.int .u8 84), .lit (.int .u8 71)]

/-- 'helixlaw10.BalanceAlways': WHATEVER THE INPUT: true; the input reads as it did. -/
def balanceAlwaysSpec : ChangeSpec := { name := "balanceAlways", fn := fun _ => fun
  | [d] => { results := [.lit (.bool true)], args := [d] }
  | _ => none }
def balanceAlwaysRow : OpenClaim := { program := "ytbodielilaedeaadoor", sum := "780c203d9b0eba1f4d4ab7e05f4f43b8c6cb45439ff818e360e8ee6f4ad4ea61", func := "helix/helixlaw10.BalanceAlways", spec := "balanceAlways", unfollowed := true, recurses := true, named := ["helix/balance.other", "helix/nt.letters"], apart := false, laid := [("helix/nt.letters", laid_helix_nt_letters), ("helix/balance.other", laid_helix_balance_other)] }
def BalanceAlwaysSaid : Prop := balanceAlwaysRow.holds Tryd.pinned (OpenSpec.ofChange balanceAlwaysSpec)

/-- ITS FALSE NEIGHBOUR: 'it returns false'. Refute it at one input. -/
def balanceAlwaysWrong : ChangeSpec := { name := "balanceAlways", fn := fun _ => fun
  | [d] => { results := [.lit (.bool false)], args := [d] }
  | _ => none }
def BalanceAlwaysWrongFalsely : Prop := balanceAlwaysRow.holds Tryd.pinned (OpenSpec.ofChange balanceAlwaysWrong)

/-- 'helixlaw10.BalancePairs': WHATEVER THE INPUT: true; the input reads as it did. -/
def balancePairsSpec : ChangeSpec := { name := "balancePairs", fn := fun _ => fun
  | [d1, d2] => { results := [.lit (.bool true)], args := [d1, d2] }
  | _ => none }
def balancePairsRow : OpenClaim := { program := "ytbodielilaedeaadoor", sum := "780c203d9b0eba1f4d4ab7e05f4f43b8c6cb45439ff818e360e8ee6f4ad4ea61", func := "helix/helixlaw10.BalancePairs", spec := "balancePairs", unfollowed := true, recurses := true, named := ["helix/balance.other", "helix/nt.letters"], apart := false, laid := [("helix/nt.letters", laid_helix_nt_letters), ("helix/balance.other", laid_helix_balance_other)] }
def BalancePairsSaid : Prop := balancePairsRow.holds Tryd.pinned (OpenSpec.ofChange balancePairsSpec)

/-- ITS FALSE NEIGHBOUR: 'it returns false'. Refute it at one input. -/
def balancePairsWrong : ChangeSpec := { name := "balancePairs", fn := fun _ => fun
  | [d1, d2] => { results := [.lit (.bool false)], args := [d1, d2] }
  | _ => none }
def BalancePairsWrongFalsely : Prop := balancePairsRow.holds Tryd.pinned (OpenSpec.ofChange balancePairsWrong)

/-- 'helixlaw10.BalanceWidth': WHATEVER THE INPUT: true; the input reads as it did. -/
def balanceWidthSpec : ChangeSpec := { name := "balanceWidth", fn := fun _ => fun
  | [d] => { results := [.lit (.bool true)], args := [d] }
  | _ => none }
def balanceWidthRow : OpenClaim := { program := "ytbodielilaedeaadoor", sum := "780c203d9b0eba1f4d4ab7e05f4f43b8c6cb45439ff818e360e8ee6f4ad4ea61", func := "helix/helixlaw10.BalanceWidth", spec := "balanceWidth", unfollowed := true, recurses := true, named := ["helix/balance.other", "helix/nt.letters"], apart := false, laid := [("helix/nt.letters", laid_helix_nt_letters), ("helix/balance.other", laid_helix_balance_other)] }
def BalanceWidthSaid : Prop := balanceWidthRow.holds Tryd.pinned (OpenSpec.ofChange balanceWidthSpec)

/-- ITS FALSE NEIGHBOUR: 'it returns false'. Refute it at one input. -/
def balanceWidthWrong : ChangeSpec := { name := "balanceWidth", fn := fun _ => fun
  | [d] => { results := [.lit (.bool false)], args := [d] }
  | _ => none }
def BalanceWidthWrongFalsely : Prop := balanceWidthRow.holds Tryd.pinned (OpenSpec.ofChange balanceWidthWrong)

/- THE SECOND FORM. 'bulk': how many values and letters a reading holds, each counted each time it is reached (what is shared counts as often as it is met; a slice's spare places count too). A statement '..UptoSaid' is the law's where the arguments, and the package variables that the reading takes, are together of bulk at most 1048576: NARROWER than '..Said'. Prove '..Said' where nothing that the law and all that it calls make is longer than what came in: it says more and counts as full. Else prove '..UptoSaid'. A law counts once. -/
mutual
def uptoBulk {H : Type} : DataW H → Nat
  | .lit (.string bytes) => bytes.length + 1
  | .lit _ => 1
  | .nil => 1
  | .ptr d => uptoBulk d + 1
  | .slice elems spare => uptoBulkAll elems + uptoBulkAll spare + 1
  | .agg parts => uptoBulkAll parts + 1
  | .iface _ d => uptoBulk d + 1
  | .map entries => uptoBulkEntries entries + 1
  | .held _ => 1
def uptoBulkAll {H : Type} : List (DataW H) → Nat
  | [] => 0
  | d :: r => uptoBulk d + uptoBulkAll r
def uptoBulkEntries {H : Type} : List (Lit × DataW H) → Nat
  | [] => 0
  | x :: r => uptoBulkEntry x + uptoBulkEntries r
def uptoBulkEntry {H : Type} : Lit × DataW H → Nat
  | (.string bytes, d) => bytes.length + uptoBulk d + 1
  | (_, d) => uptoBulk d + 1
 end
def uptoSmall : (H : Type) → List (DataW H) → Bool := fun _ ds => decide (uptoBulkAll ds ≤ 1048576)
def OpenSpec.upto (s : _root_.Go.ChangeSpec) : _root_.Go.OpenSpec := { _root_.Go.OpenSpec.ofChange s with cond := some uptoSmall }

/-- 'helixlaw10.BalanceAlways', WHERE WHAT IT READS IS OF BULK AT MOST 1048576: true; the input reads as it did. -/
def balanceAlwaysUptoRow : OpenClaim := { program := "ytbodielilaedeaadoor", sum := "780c203d9b0eba1f4d4ab7e05f4f43b8c6cb45439ff818e360e8ee6f4ad4ea61", func := "helix/helixlaw10.BalanceAlways", spec := "balanceAlways", unfollowed := true, recurses := true, named := ["helix/balance.other", "helix/nt.letters"], apart := false, laid := [("helix/nt.letters", laid_helix_nt_letters), ("helix/balance.other", laid_helix_balance_other)], narrowed := true }
def BalanceAlwaysUptoSaid : Prop := balanceAlwaysUptoRow.holds Tryd.pinned (OpenSpec.upto balanceAlwaysSpec)

/-- 'helixlaw10.BalancePairs', WHERE WHAT IT READS IS OF BULK AT MOST 1048576: true; the input reads as it did. -/
def balancePairsUptoRow : OpenClaim := { program := "ytbodielilaedeaadoor", sum := "780c203d9b0eba1f4d4ab7e05f4f43b8c6cb45439ff818e360e8ee6f4ad4ea61", func := "helix/helixlaw10.BalancePairs", spec := "balancePairs", unfollowed := true, recurses := true, named := ["helix/balance.other", "helix/nt.letters"], apart := false, laid := [("helix/nt.letters", laid_helix_nt_letters), ("helix/balance.other", laid_helix_balance_other)], narrowed := true }
def BalancePairsUptoSaid : Prop := balancePairsUptoRow.holds Tryd.pinned (OpenSpec.upto balancePairsSpec)

/-- 'helixlaw10.BalanceWidth', WHERE WHAT IT READS IS OF BULK AT MOST 1048576: true; the input reads as it did. -/
def balanceWidthUptoRow : OpenClaim := { program := "ytbodielilaedeaadoor", sum := "780c203d9b0eba1f4d4ab7e05f4f43b8c6cb45439ff818e360e8ee6f4ad4ea61", func := "helix/helixlaw10.BalanceWidth", spec := "balanceWidth", unfollowed := true, recurses := true, named := ["helix/balance.other", "helix/nt.letters"], apart := false, laid := [("helix/nt.letters", laid_helix_nt_letters), ("helix/balance.other", laid_helix_balance_other)], narrowed := true }
def BalanceWidthUptoSaid : Prop := balanceWidthUptoRow.holds Tryd.pinned (OpenSpec.upto balanceWidthSpec)

end Rows
end Go.Proofs.YtbodielilaedeaaDoor
