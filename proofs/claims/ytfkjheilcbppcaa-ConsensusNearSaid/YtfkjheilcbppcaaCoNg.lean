/- ConsensusNear where rows are too many or too long, or where there are none. (Seat s27.) -/
import Derived.Test.YtfkjheilcbppcaaCoS
namespace Go.Proofs.Ytfkjheilcbppcaa
open Go.RowKit Go.Shelf
attribute [local go_sem] Oper.semAt_some run_store_func

set_option maxRecDepth 100000 in
set_option maxHeartbeats 1000000 in
theorem Near_great (v0 v1 : Value) (rows : List RowC) (y : List UInt8) (w : World) (h0 : RowsIn w v0 rows) (h1 : Sl eB w.heap.size w v1 y) (hg : grG rows = true ∨ 60 < y.length) :
    Calls Try.prog 6 #[v0, v1] w fun e w' => e = .returned (.bool true) ∧ Below w.heap.size w w' := by
  have g0 := great_any v0 rows w h0
  have hw := wakes_any w
  obtain ⟨A, c, rfl, -⟩ := h0.some
  obtain ⟨A1, c1, rfl⟩ := h1.len
  clear h0 h1
  cases e0 : grG rows with
  | true =>
    rw [e0] at g0
    clear hg e0
    go_enter Try.func6, Try.ntmps6
    go_wp2_with fail
    go_at_call 8
    refine g0.mono ?_
    rintro e w1 ⟨rfl, rfl⟩
    clear g0
    go_wp2_with fail
    go_at_call 9
    refine hw.mono ?_
    rintro e w2 ⟨rfl, hB⟩
    clear hw
    go_wp2_with fail
    go_ret
    exact ⟨rfl, hB⟩
  | false =>
    rw [e0] at g0 hg
    have h6 : 60 < y.length := by simpa using hg
    have d1 := decide_eq_true (show (60 : Int) < (y.length : Int) by omega)
    clear hg e0 h6
    go_enter Try.func6, Try.ntmps6
    go_wp2_with fail
    go_at_call 8
    refine g0.mono ?_
    rintro e w1 ⟨rfl, rfl⟩
    clear g0
    go_wp2_with fail
    go_at_call 9
    refine hw.mono ?_
    rintro e w2 ⟨rfl, hB⟩
    clear hw
    go_wp2_with fail
    go_ret
    exact ⟨rfl, hB⟩
set_option maxRecDepth 100000 in
set_option maxHeartbeats 1000000 in
theorem Near_none (v0 v1 : Value) (y : List UInt8) (w : World) (h0 : RowsIn w v0 []) (h1 : Sl eB w.heap.size w v1 y) (hy : y.length ≤ 60) :
    Calls Try.prog 6 #[v0, v1] w fun e w' => e = .returned (.bool true) ∧ Below w.heap.size w w' := by
  have g0 := great_any v0 [] w h0
  rw [show grG [] = false from rfl] at g0
  have q1 := Of_uni v0 [] (by decide) (fun p hp => by cases hp) w h0
  have hw := wakes_any
  obtain ⟨A, c, rfl, -⟩ := h0.some
  obtain ⟨A1, c1, rfl⟩ := h1.len
  have d1 := decide_eq_false (show ¬ (60 : Int) < (y.length : Int) by omega)
  clear h0 h1
  go_enter Try.func6, Try.ntmps6
  go_wp2_with fail
  go_at_call 8
  refine g0.mono ?_
  rintro e w1 ⟨rfl, rfl⟩
  clear g0
  go_wp2_with fail
  go_at_call 14
  refine q1.mono ?_
  rintro e w2 ⟨hB, vx, rfl, hx⟩
  obtain ⟨A2, c2, rfl⟩ := hx.len
  have hwk := hw w2
  clear q1 hw hx
  go_wp2_with fail
  go_at_call 9
  refine hwk.mono ?_
  rintro e w3 ⟨rfl, hB3⟩
  clear hwk
  go_wp2_with fail
  go_ret
  exact ⟨rfl, below_trans hB hB3⟩
end Go.Proofs.Ytfkjheilcbppcaa
