/- Contracts of bits.Need, bits.Even, and of the law's own same. -/
import Derived.Test.YtbkmnpagmpkcjaaDoorBtD
import Derived.Shelf.Strconv.Itoa0
import Derived.Shelf.Lay
import Derived.Shelf.LaySoft
import Derived.IntWalk
namespace Go.Proofs
open Go.Shelf
shelf_lay Lays.n129 Nm 129 at Tryd as YtbkmnpagmpkcjaaDoor.lays129
end Go.Proofs
namespace Go.Proofs.YtbkmnpagmpkcjaaDoor
open Go.RowKit Go.Shelf
attribute [local go_sem] Oper.semAt_some

theorem beq_dec (a b : List UInt8) : (a == b) = decide (a = b) := by by_cases h : a = b <;> simp [h]
set_option maxRecDepth 100000 in
set_option maxHeartbeats 400000 in
theorem same_any (sa sb : Value) (a b : List UInt8) (B : Nat) (w : World) (ha : Sl eB B w sa a) (hb : Sl eB B w sb b) :
    Calls Tryd.prog 11 #[sa, sb] w fun e w' => e = .returned (.bool (decide (a = b))) ∧ w = w' := by
  have ra := run_str (P := Tryd.prog) ha 24 9 5 Tryd.underlying24 Tryd.underlying5 Tryd.underlying9
  have rb := run_str (P := Tryd.prog) hb 24 9 5 Tryd.underlying24 Tryd.underlying5 Tryd.underlying9
  obtain ⟨Aa, ca, rfl⟩ := ha.len
  obtain ⟨Ab, cb, rfl⟩ := hb.len
  clear ha hb
  go_enter Tryd.func11, Tryd.ntmps11
  go_wp2
  go_ret
  exact ⟨by rw [← beq_dec]; rfl, rfl⟩
theorem same_is (sa sb : Value) (a b : List UInt8) (r : Bool) (hr : decide (a = b) = r) (B : Nat) (w : World) (ha : Sl eB B w sa a) (hb : Sl eB B w sb b) :
    Calls Tryd.prog 11 #[sa, sb] w fun e w' => e = .returned (.bool r) ∧ w = w' := by subst hr; exact same_any sa sb a b B w ha hb

/-- The nearest even number. -/
def evenOf (n : Int) : Int := wrap64 (max n 0 + max n 0 % 2)
set_option maxRecDepth 100000 in
set_option maxHeartbeats 400000 in
theorem Even_any (n : Int) (w : World) :
    Calls Tryd.prog 17 #[.int .i64 n] w fun e w' => e = .returned (.int .i64 (evenOf n)) ∧ w = w' := by
  have hm : ∀ k : Int, 0 ≤ k → k.tmod 2 = k % 2 := fun k hk => Int.tmod_eq_emod_of_nonneg hk
  by_cases h : 0 ≤ n
  · have hx : max n 0 = n := by omega
    have hm' := hm n h
    go_enter Tryd.func17, Tryd.ntmps17
    go_wp2
    go_ret
    exact ⟨by rw [evenOf, hx]; rfl, rfl⟩
  · have hx : max n 0 = 0 := by omega
    go_enter Tryd.func17, Tryd.ntmps17
    go_wp2
    go_ret
    exact ⟨by rw [evenOf, hx, show wrap64 (0 + 0 % 2) = 0 by rw [IntWalk.wrap64_in _ (by omega)]; rfl]; rfl, rfl⟩

set_option maxHeartbeats 400000 in
theorem Need_any (x : Int) (h0 : 0 ≤ x) (h1 : x ≤ 18446744073709551615) (w : World) :
    Calls Tryd.prog 14 #[.int .u64 x] w fun e w' => e = .returned (.int .i64 (Lib.bitLen x.toNat)) ∧ w = w' := by
  have hc := fun w => Any.bits_Len64 YtbkmnpagmpkcjaaDoor.lays129 x w h0 h1
  clear h0 h1
  go_enter Tryd.func14, Tryd.ntmps14
  go_wp2_with (go_at_call 21; refine (hc _).mono ?_; rintro e w' ⟨rfl, rfl⟩)
  go_ret
  exact ⟨rfl, rfl⟩
end Go.Proofs.YtbkmnpagmpkcjaaDoor
