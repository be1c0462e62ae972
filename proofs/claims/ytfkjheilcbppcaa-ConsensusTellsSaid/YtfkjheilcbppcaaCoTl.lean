/- ConsensusTells, walked. (Seat s27.) -/
import Derived.Test.YtfkjheilcbppcaaCoZ
import Derived.Test.YtfkjheilcbppcaaCoX
namespace Go.Proofs.Ytfkjheilcbppcaa
open Go.RowKit Go.Shelf
attribute [local go_sem] Oper.semAt_some run_store_func

set_option maxRecDepth 100000 in
set_option maxHeartbeats 1000000 in
theorem Tells_great (v0 v2 : Value) (i : Int) (rows : List RowC) (y : List UInt8) (w : World) (h0 : RowsIn w v0 rows) (h1 : Sl eB w.heap.size w v2 y) (hg : grG rows = true ∨ 60 < y.length) :
    Calls Try.prog 3 #[v0, .int .i64 i, v2] w fun e w' => e = .returned (.bool true) ∧ Below w.heap.size w w' := by
  have g0 := great_any v0 rows w h0
  have hw := wakes_any w
  obtain ⟨A, c, rfl, -⟩ := h0.some
  obtain ⟨A1, c1, rfl⟩ := h1.len
  clear h0 h1
  cases e0 : grG rows with
  | true =>
    rw [e0] at g0
    clear hg e0
    go_enter Try.func3, Try.ntmps3
    go_wp2_with fail
    go_at_call 8
    refine g0.mono ?_
    rintro e w1 ⟨rfl, rfl⟩
    clear g0
    go_wp2_with fail
    go_at_call 9
    refine hw.mono ?_
    rintro e w2 ⟨rfl, hB⟩
    clear hw
    go_wp2_with fail
    go_ret
    exact ⟨rfl, hB⟩
  | false =>
    rw [e0] at g0 hg
    have h6 : 60 < y.length := by simpa using hg
    have d1 := decide_eq_true (show (60 : Int) < (y.length : Int) by omega)
    clear hg e0 h6
    go_enter Try.func3, Try.ntmps3
    go_wp2_with fail
    go_at_call 8
    refine g0.mono ?_
    rintro e w1 ⟨rfl, rfl⟩
    clear g0
    go_wp2_with fail
    go_at_call 9
    refine hw.mono ?_
    rintro e w2 ⟨rfl, hB⟩
    clear hw
    go_wp2_with fail
    go_ret
    exact ⟨rfl, hB⟩
set_option maxRecDepth 100000 in
set_option maxHeartbeats 2000000 in
theorem Tells_main (v0 v2 : Value) (i : Int) (rows : List RowC) (y : List UInt8) (w : World) (h0 : RowsIn w v0 rows) (h1 : Sl eB w.heap.size w v2 y) (e0 : grG rows = false) (hy : ¬ 60 < y.length) :
    Calls Try.prog 3 #[v0, .int .i64 i, v2] w fun e w' => e = .returned (.bool true) ∧ Below w.heap.size w w' := by
  have g0 := great_any v0 rows w h0
  rw [e0] at g0
  obtain ⟨hlen, hl0⟩ := grG_no e0
  have hw := wakes_any
  have d1 := decide_eq_false (show ¬ (60 : Int) < (y.length : Int) by omega)
  have c1 := fun w' h => CoLength_any v0 rows (by omega) (fun p hp => by have := hl0 p hp; omega) w' h
  have c2 := fun w' h => RLen_any v0 rows (by omega) (fun p hp => by have := hl0 p hp; omega) w' h
  have c3 := fun w' h => CoColumn_any v0 rows i (by omega) (fun p hp => by have := hl0 p hp; omega) w' h
  have c4 := fun w' h => RCol_any v0 rows i (by omega) (fun p hp => by have := hl0 p hp; omega) w' h
  have c5 := fun w' h => Of_uni v0 rows (by omega) (fun p hp => by have := hl0 p hp; omega) w' h
  have c6 := fun w' h => ROf_any v0 rows (by omega) (fun p hp => by have := hl0 p hp; omega) w' h
  have c7 := fun w' h h' => CoApart_any v0 v2 rows y (by omega) (by omega) w' h h'
  have c8 := fun w' h h' => RApart_any v0 v2 rows y (by omega) (by omega) w' h h'
  obtain ⟨cc, vv, bb, hcv⟩ : ∃ (cc vv : Nat) (bb : Bool), (if 0 < (lenG (bsL rows)).2 ∧ 0 ≤ i ∧ i < (lenG (bsL rows)).1 then Value.tuple #[.int .u8 (colG (bsL rows) i.toNat).1, .int .i64 (colG (bsL rows) i.toNat).2, .bool true] else .tuple #[.int .u8 0, .int .i64 0, .bool false]) = .tuple #[.int .u8 cc, .int .i64 vv, .bool bb] := by
    split
    · exact ⟨_, _, _, rfl⟩
    · exact ⟨0, 0, false, rfl⟩
  rw [hcv] at c3 c4
  clear hcv hlen hl0 e0 hy
  generalize ofG (bsL rows) = X at *
  generalize apartG (bsL rows) y = D at *
  generalize (lenG (bsL rows)).1 = n at *
  generalize decide (0 < (lenG (bsL rows)).2) = b1 at *
  generalize decide (rows ≠ []) = b2 at *
  obtain ⟨A, c, rfl, -⟩ := h0.some
  obtain ⟨A1, cp, rfl⟩ := h1.len
  go_enter Try.func3, Try.ntmps3
  go_wp2_with fail
  go_at_call 8
  refine g0.mono ?_
  rintro e w1 ⟨rfl, rfl⟩
  clear g0
  go_wp2_with fail
  clear d1
  go_at_call 10
  refine (c1 _ h0).mono ?_
  rintro e w1 ⟨rfl, hB⟩
  have h0 := h0.next hB
  have h1 := h1.next hB
  clear c1
  go_wp2_with fail
  go_at_call 11
  refine (c2 _ h0).mono ?_
  rintro e w2 ⟨rfl, hC⟩
  have h0 := h0.next hC
  have h1 := h1.next hC
  have hB := below_trans hB hC
  clear c2 hC
  go_wp2_with fail
  go_at_call 12
  refine (c3 _ h0).mono ?_
  rintro e w3 ⟨rfl, hC⟩
  have h0 := h0.next hC
  have h1 := h1.next hC
  have hB := below_trans hB hC
  clear c3 hC
  go_wp2_with fail
  go_at_call 13
  refine (c4 _ h0).mono ?_
  rintro e w4 ⟨rfl, hC⟩
  have h0 := h0.next hC
  have h1 := h1.next hC
  have hB := below_trans hB hC
  clear c4 hC
  go_wp2_with fail
  go_at_call 14
  refine (c5 _ h0).mono ?_
  rintro e w5 ⟨hC, vx, rfl, hx⟩
  have h0 := h0.next hC
  have h1 := h1.next hC
  have hB := below_trans hB hC
  clear c5 hC
  go_wp2_with fail
  go_at_call 15
  refine (c6 _ h0).mono ?_
  rintro e w6 ⟨hC, vy, rfl, hy⟩
  have h0 := h0.next hC
  have h1 := h1.next hC
  have hx := hx.next hC
  have hB := below_trans hB hC
  have hs := same_is vx vy X X true (by simp) w6.heap.size w6 hx hy
  have c7 := c7 _ h0 h1
  have c8 := c8 _ h0 h1
  clear c6 hC hx hy h0 h1
  go_wp2_with fail
  go_at_call 16
  refine hs.mono ?_
  rintro e w7 ⟨rfl, rfl⟩
  clear hs
  go_wp2_with fail
  go_at_call 17
  refine c7.mono ?_
  rintro e w7 ⟨rfl, rfl⟩
  clear c7
  go_wp2_with fail
  go_at_call 18
  refine c8.mono ?_
  rintro e w8 ⟨rfl, hC⟩
  have hB := below_trans hB hC
  have hwk := hw w8
  clear c8 hC hw
  go_wp2_with fail
  go_at_call 9
  refine hwk.mono ?_
  rintro e w9 ⟨rfl, hC⟩
  have hB := below_trans hB hC
  clear hwk hC
  go_wp2_with fail
  go_ret
  exact ⟨rfl, hB⟩
theorem ConsensusTells_any (v0 : Value) (i : Int) (v2 : Value) (rows : List RowC) (y : List UInt8) (w : World) (h0 : RowsIn w v0 rows) (h1 : Sl eB w.heap.size w v2 y) :
    Calls Try.prog 3 #[v0, .int .i64 i, v2] w fun e w' => e = .returned (.bool true) ∧ Below w.heap.size w w' := by
  by_cases hg : grG rows = true ∨ 60 < y.length
  · exact Tells_great v0 v2 i rows y w h0 h1 hg
  · refine Tells_main v0 v2 i rows y w h0 h1 ?_ fun h => hg (.inr h)
    cases e : grG rows <;> simp_all
end Go.Proofs.Ytfkjheilcbppcaa
