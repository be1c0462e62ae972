/- Contract of gf.Inv. -/
import Derived.Test.YtgidhkfmelpjfaaPoA
import Derived.Test.YtgidhkfmelpjfaaGfBl
namespace Go.Proofs.Ytgidhkfmelpjfaa
open Go.RowKit Go.Shelf
attribute [local go_sem] Oper.semAt_some run_store_func

set_option maxRecDepth 100000 in
set_option maxHeartbeats 400000 in
theorem Inv_zero (w : World) : Calls Try.prog 39 #[bV 0] w fun e w' => e = .returned (.tuple #[.int .u8 0, .int .i64 30]) ∧ w = w' := by
  go_enter Try.func39, Try.ntmps39
  go_wp2
  go_ret2
  exact ⟨rfl, rfl⟩
set_option maxRecDepth 100000 in
set_option maxHeartbeats 400000 in
theorem Inv_any (a : Nat) (ha : a < 256) (h0 : a ≠ 0) (w : World) : Calls Try.prog 39 #[bV a] w fun e w' => ∃ k : Nat, k < 255 ∧ pw k = a ∧ e = .returned (.tuple #[bV (pw (restN (-(k : Int)))), .int .i64 0]) ∧ Below w.heap.size w w' := by
  have hd : ((a : Int) == 0) = false := by simp; omega
  have hd' : (a == 0) = false := by simp [h0]
  have hlog := fun w => log_any a ha h0 w
  clear h0
  go_enter Try.func39, Try.ntmps39
  go_wp2_with fail
  go_at_call 44
  refine (hlog _).mono ?_
  rintro e w1 ⟨k, hk, hp, rfl, hB1⟩
  go_wp2_with fail
  go_at_call 43
  refine (power_any (-(k : Int)) _).mono ?_
  rintro e w2 ⟨rfl, hB2⟩
  go_wp2
  go_ret2
  exact ⟨k, hk, hp, rfl, below_trans hB1 hB2⟩

end Go.Proofs.Ytgidhkfmelpjfaa
