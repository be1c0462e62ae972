import Derived.Test.YtcngnjkpnmpcpaaDoorRPZ
namespace Go.Proofs.YtcngnjkpnmpcpaaDoor
open Go.RowKit
def SeqX {α : Type} (F : Fence) (P : Program) (gf : Nat) (lb : Array Value) (encs : α → Array Value) (Kp : World → World → Prop) (xs : List α) (fin : Option (List PanicEntry)) (w0 : World) : Prop :=
 ∀ (l : Nat) (J : List α → World → Prop) (JS : World → Prop) (W : World), Below w0.heap.size w0 W → OwnFrom W.heap.size J →
   (∀ pre x W1, J pre W1 → pre ++ [x] <+: xs → YieldAt F 1 P l (encs x) W1 fun e W' =>
    (e = .returned (.bool true) ∧ J (pre ++ [x]) W' ∧ Kp W1 W' ∧ KeepsFrom W.heap.size W1 W') ∨ (e = .returned (.bool false) ∧ JS W')) →
   J [] W → CallsIn F 1 P gf (#[.func (.yield l) #[] #[]] ++ lb) W fun e W' => (∃ v, e = .returned v ∧ JS W') ∨ (fin = none ∧ (∃ v, e = .returned v) ∧ J xs W') ∨ ∃ ch, fin = some ch ∧ e = .panicked ch ∧ J xs W'
def roundNoX {α : Type} (B : Nat) (Kp : World → World → Prop) (I : List α → World → Prop) (IS : Code → World → Prop) (xs : List α) (W : World) : Exit → Act → World → Prop
  | .normal, _, W' => KeepsFrom B W W' ∧ Kp W W' ∧ I xs W'
  | .ret, _, W' => KeepsFrom B W W' ∧ IS .ret W'
  | .exit id, _, W' => KeepsFrom B W W' ∧ IS (.exit id) W'
  | _, _, _ => False
end Go.Proofs.YtcngnjkpnmpcpaaDoor
