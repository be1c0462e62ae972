/- GapRuns, at any row. -/
import Derived.Test.YtmdpodgodhkjdaaDoorGpN
namespace Go.Proofs.YtmdpodgodhkjdaaDoor
open Go.RowKit Go.Shelf
attribute [local go_sem] Oper.semAt_some run_store_func

set_option maxRecDepth 100000 in
set_option maxHeartbeats 1000000 in
theorem GapRuns_any (v0 : Value) (l : List Int) (zc zp zq : Int) (w : World) (hS : Sl eI w.heap.size w v0 l) (hT : Tab w) :
    Calls Tryd.prog 6 #[v0, .int .i64 zc, .int .i64 zp, .int .i64 zq] w fun e w' => e = .returned (.bool true) ∧ Below w.heap.size w w' := by
  by_cases h : 1 ≤ l.length ∧ l.length ≤ 120
  · exact GapRuns_main v0 l zc zp zq w hS hT h.1 h.2
  · have hw := gwakes_any
    have hd : decide ((l.length : Int) < 1) = true ∨ (decide ((l.length : Int) < 1) = false ∧ decide ((120 : Int) < (l.length : Int)) = true) := by
      by_cases h1 : l.length < 1
      · exact .inl (decide_eq_true (by omega))
      · exact .inr ⟨decide_eq_false (by omega), decide_eq_true (by omega)⟩
    obtain ⟨A0, c0, rfl⟩ := hS.len
    clear h hS
    rcases hd with d1 | ⟨d1, d2⟩
    all_goals
      go_enter Tryd.func6, Tryd.ntmps6
      go_wp2_with fail
      go_at_call 13
      refine (hw _ hT).mono ?_
      rintro e w' ⟨rfl, hB⟩
      go_wp2_with fail
      go_ret
      exact ⟨rfl, hB⟩
end Go.Proofs.YtmdpodgodhkjdaaDoor
