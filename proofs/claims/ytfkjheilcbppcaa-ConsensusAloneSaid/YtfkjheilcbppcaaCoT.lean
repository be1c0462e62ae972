/- ConsensusAlone, walked. (Seat s27.) -/
import Derived.Test.YtfkjheilcbppcaaCoS
namespace Go.Proofs.Ytfkjheilcbppcaa
open Go.RowKit Go.Shelf
attribute [local go_sem] Oper.semAt_some run_store_func

set_option maxRecDepth 100000 in
set_option maxHeartbeats 2000000 in
theorem Alone_great (v0 v1 : Value) (rows others : List RowC) (w : World) (h0 : RowsIn w v0 rows) (h1 : RowsIn w v1 others) (hg : grG rows = true ∨ grG others = true ∨ 12 < rows.length ∨ 10 < others.length) :
    Calls Try.prog 7 #[v0, v1] w fun e w' => e = .returned (.bool true) ∧ Below w.heap.size w w' := by
  have g0 := great_any v0 rows w h0
  have g1 := great_any v1 others w h1
  have hw := wakes_any w
  obtain ⟨A, c, rfl, -⟩ := h0.some
  obtain ⟨A1, c1, rfl, -⟩ := h1.some
  clear h0 h1
  cases e0 : grG rows with
  | true =>
    rw [e0] at g0
    clear hg g1 e0
    go_enter Try.func7, Try.ntmps7
    go_wp2_with fail
    go_at_call 8
    refine g0.mono ?_
    rintro e w1 ⟨rfl, rfl⟩
    clear g0
    go_wp2_with fail
    go_at_call 9
    refine hw.mono ?_
    rintro e w2 ⟨rfl, hB⟩
    clear hw
    go_wp2_with fail
    go_ret
    exact ⟨rfl, hB⟩
  | false =>
    rw [e0] at g0 hg
    cases e1 : grG others with
    | true =>
      rw [e1] at g1
      clear hg e0 e1
      go_enter Try.func7, Try.ntmps7
      go_wp2_with fail
      go_at_call 8
      refine g0.mono ?_
      rintro e w1 ⟨rfl, rfl⟩
      clear g0
      go_wp2_with fail
      go_at_call 8
      refine g1.mono ?_
      rintro e w1 ⟨rfl, rfl⟩
      clear g1
      go_wp2_with fail
      go_at_call 9
      refine hw.mono ?_
      rintro e w2 ⟨rfl, hB⟩
      clear hw
      go_wp2_with fail
      go_ret
      exact ⟨rfl, hB⟩
    | false =>
      rw [e1] at g1 hg
      by_cases h12 : 12 < rows.length
      · have d1 := decide_eq_true (show (12 : Int) < (rows.length : Int) by omega)
        clear hg e0 e1
        go_enter Try.func7, Try.ntmps7
        go_wp2_with fail
        go_at_call 8
        refine g0.mono ?_
        rintro e w1 ⟨rfl, rfl⟩
        clear g0
        go_wp2_with fail
        go_at_call 8
        refine g1.mono ?_
        rintro e w1 ⟨rfl, rfl⟩
        clear g1
        go_wp2_with fail
        go_at_call 9
        refine hw.mono ?_
        rintro e w2 ⟨rfl, hB⟩
        clear hw
        go_wp2_with fail
        go_ret
        exact ⟨rfl, hB⟩
      · have d1 := decide_eq_false (show ¬ (12 : Int) < (rows.length : Int) by omega)
        have h10 : 10 < others.length := by simpa [h12] using hg
        have d2 := decide_eq_true (show (10 : Int) < (others.length : Int) by omega)
        clear hg e0 e1
        go_enter Try.func7, Try.ntmps7
        go_wp2_with fail
        go_at_call 8
        refine g0.mono ?_
        rintro e w1 ⟨rfl, rfl⟩
        clear g0
        go_wp2_with fail
        go_at_call 8
        refine g1.mono ?_
        rintro e w1 ⟨rfl, rfl⟩
        clear g1
        go_wp2_with fail
        go_at_call 9
        refine hw.mono ?_
        rintro e w2 ⟨rfl, hB⟩
        clear hw
        go_wp2_with fail
        go_ret
        exact ⟨rfl, hB⟩
end Go.Proofs.Ytfkjheilcbppcaa
