/- The law's own wakes. -/
import Derived.Test.YtmbajcjbaabmcaaGfC
namespace Go.Proofs.Ytmbajcjbaabmcaa
open Go.RowKit Go.Shelf
attribute [local go_sem] Oper.semAt_some run_store_func

set_option maxRecDepth 100000 in
set_option maxHeartbeats 2000000 in
theorem wakes_any (w : World) : Calls Try.prog 6 #[] w fun e w' => e = .returned (.bool true) ∧ Below w.heap.size w w' := by
  have l2 := fun w => Log_any 2 (by decide) (by decide) w
  have i0 := Inv_zero
  have m := fun w => Mul_is 2 128 29 (by decide) (by decide) (by decide +kernel) w
  have e8 := fun w => Exp_is 8 29 (by decide +kernel) w
  have e0 := fun w => Exp_is 0 1 (by decide +kernel) w
  have p0 := Pow_nought 0
  go_enter Try.func6, Try.ntmps6
  go_wp2_with fail
  go_at_call 11
  refine (i0 _).mono ?_
  rintro e w' ⟨rfl, rfl⟩
  go_wp2_with fail
  go_at_call 10
  refine (l2 _).mono ?_
  rintro e w1 ⟨k, hk, hp, rfl, hB1⟩
  obtain rfl : k = 1 := pw_inj k 1 hk (by omega) (by rw [hp]; decide)
  clear hk hp
  go_wp2_with fail
  go_at_call 7
  refine (m _).mono ?_
  rintro e w2 ⟨rfl, hB2⟩
  go_wp2_with fail
  go_at_call 8
  refine (e8 _).mono ?_
  rintro e w3 ⟨rfl, hB3⟩
  go_wp2_with fail
  go_at_call 8
  refine (e0 _).mono ?_
  rintro e w4 ⟨rfl, hB4⟩
  go_wp2_with fail
  go_at_call 9
  refine (p0 _).mono ?_
  rintro e w' ⟨rfl, rfl⟩
  go_wp2
  go_ret
  exact ⟨rfl, below_trans hB1 (below_trans hB2 (below_trans hB3 hB4))⟩
end Go.Proofs.Ytmbajcjbaabmcaa
