import Derived.Test.YtcngnjkpnmpcpaaDoorPcJZ
namespace Go.Proofs.YtcngnjkpnmpcpaaDoor
open Go.RowKit Go.Shelf
attribute [local go_sem] Oper.semAt_some run_store_func
set_option maxRecDepth 100000 in
set_option maxHeartbeats 2000000 in
theorem RLibraryP_any (n : Int) (s : Nat) (hs : s < 18446744073709551616) (w : World) :
    Calls Tryd.prog 11 #[.int .i64 n, .int .u64 s] w fun e w' => ∃ v, e = .returned (.tuple #[v, .int .i64 (libE n s)]) ∧ PrsIn w'.heap.size w' v (libP n s) ∧ Below w.heap.size w w' := by
  by_cases h : 0 ≤ n ∧ n ≤ 8
  · have h1 := RLib_main n.toNat s (by omega) hs w
    rwa [show ((n.toNat : Nat) : Int) = n by omega] at h1
  · have e1 : libE n s = 2 := if_neg h
    have e2 : libP n s = [] := by unfold libP; rw [e1, if_neg (by decide)]
    rw [e1, e2]
    clear e1 e2
    by_cases h0 : n < 0
    · have hd : decide (n < 0) = true := decide_eq_true h0
      clear h
      go_enter Tryd.func11, Tryd.ntmps11
      go_wp2_with fail
      go_ret2
      exact ⟨_, rfl, ⟨none, 0, rfl, Nat.le_refl _, fun h => absurd h (by simp)⟩, Below.refl _ _⟩
    · have hd : decide (n < 0) = false := decide_eq_false h0
      have h8 : 8 < n := by omega
      have hd8 : decide (8 < n) = true := decide_eq_true h8
      clear h
      go_enter Tryd.func11, Tryd.ntmps11
      go_wp2_with fail
      go_ret2
      exact ⟨_, rfl, ⟨none, 0, rfl, Nat.le_refl _, fun h => absurd h (by simp)⟩, Below.refl _ _⟩
end Go.Proofs.YtcngnjkpnmpcpaaDoor
