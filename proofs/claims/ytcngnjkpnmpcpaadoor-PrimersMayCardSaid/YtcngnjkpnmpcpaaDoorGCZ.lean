import Derived.Test.YtcngnjkpnmpcpaaDoorGHZ
namespace Go.Proofs.YtcngnjkpnmpcpaaDoor
open Go.RowKit
inductive Rw where
  | b (l : List UInt8)
  | i (l : List Int)
section
variable {P : Program} {md : Region.Mode} {ops : Array Oper} {cs : List (Nat × Rw)} {w0 : World} {A : (Nat → Value) → Act} {i : Nat} {o : Oper}
end
end Go.Proofs.YtcngnjkpnmpcpaaDoor
