import Derived.Test.YtkibigbcdlilkaaGreatDoorCIY
import Derived.Test.YtkibigbcdlilkaaGreatDoorDTJY
import Derived.Test.YtkibigbcdlilkaaGreatDoorMMY
namespace Go.Proofs.YtkibigbcdlilkaaGreatDoor
open Go.RowKit Go.Shelf
attribute [local go_sem] Oper.semAt_some run_store_func
theorem rw_is (z v : Int) (h : v = z) (h0 : -1000000 ≤ z) (h1 : z ≤ 1000000) : wrap64 z = v ∧ IntKind.i64.wrap z = v :=
 ⟨by rw [IntWalk.wrap64_in _ (by omega), h], by rw [IntWalk.i64_in _ (by omega), h]⟩
theorem u8_neR (c k : UInt8) (h : c ≠ k) : (c.toNat : Int) ≠ (k.toNat : Int) := fun he => h (UInt8.toNat_inj.1 (by omega))
end Go.Proofs.YtkibigbcdlilkaaGreatDoor
