/- The law's own wakes. -/
import Derived.Test.YtmppkfiocleicaaTrW
namespace Go.Proofs.Ytmppkfiocleicaa
open Go.RowKit Go.Shelf
attribute [local go_sem] Oper.semAt_some run_store_func

theorem eql26 (L M : List UInt8) (hL : L.length = 26) (hM : M.length = 26) (w : World) : (Op.equalIn 10000 23 (aB L) (aB M)).run Try.prog w = .ok (decide (L = M)) w := run_eql_arr _ 26 _ .u8 Try.underlying23 Try.underlying5 size1 L M hL hM w
theorem eql5 (L M : List UInt8) (hL : L.length = 5) (hM : M.length = 5) (w : World) : (Op.equalIn 10000 22 (aB L) (aB M)).run Try.prog w = .ok (decide (L = M)) w := run_eql_arr _ 5 _ .u8 Try.underlying22 Try.underlying5 size1 L M hL hM w
theorem size26 (L : List UInt8) (h : L.length = 26) : (Try.prog.info? 23).map (·.size) = some (L.map eB).toArray.size := by rw [infoz26]; simp [h]
theorem size5 (L : List UInt8) (h : L.length = 5) : (Try.prog.info? 22).map (·.size) = some (L.map eB).toArray.size := by rw [infoz5]; simp [h]
theorem Back_yes (L x : List UInt8) (hl : L.length = 26) (h : backG L = .ok x) (w : World) :
    Calls Try.prog 8 #[aB L] w fun e w' => e = .returned (.tuple #[aB x, .int .i64 0]) ∧ Below w.heap.size w w' :=
  (Back_any L hl w).mono (by
    rintro e w' ⟨hB, ⟨y, hy, rfl⟩ | ⟨m, hm, rfl⟩⟩
    · rw [h] at hy; cases hy; exact ⟨rfl, hB⟩
    · rw [h] at hm; cases hm)
theorem Back_no (L : List UInt8) (m : Int) (hl : L.length = 26) (h : backG L = .error m) (w : World) :
    Calls Try.prog 8 #[aB L] w fun e w' => e = .returned (.tuple #[aB (List.replicate 5 0), .int .i64 m]) ∧ Below w.heap.size w w' :=
  (Back_any L hl w).mono (by
    rintro e w' ⟨hB, ⟨y, hy, rfl⟩ | ⟨m', hm, rfl⟩⟩
    · rw [h] at hy; cases hy
    · rw [h] at hm; cases hm; rw [z5_eq]; exact ⟨rfl, hB⟩)
theorem guard_agg (op : BinOp) (t : TypeId) (xs ys : Array Value) (hm : Try.prog.eqGuardType Try.prog.depth t = false) (x y : Operand) (w : World) : (eqGuard op t x y (.agg xs) (.agg ys)).run Try.prog w = .ok () w := run_eqGuard_agg w op t x y xs ys hm

set_option maxRecDepth 100000 in
set_option maxHeartbeats 4000000 in
theorem wakes_any (w : World) : Calls Try.prog 7 #[] w fun e w' => e = .returned (.bool true) ∧ Below w.heap.size w w' := by
  obtain ⟨hz, hsz⟩ := zero_of_info info5
  obtain ⟨hz', hsz'⟩ := zero_of_info info26
  rw [z5_eq] at hz
  rw [z26_eq] at hz'
  have hc0 := cells_aB (List.replicate 5 0)
  have hc1 := cells_aB (List.replicate 26 0)
  have b1 : ∀ w, (Instr.build 22 #[(0, .int .u8 0), (1, .int .u8 0), (2, .int .u8 0), (3, .int .u8 0), (4, .int .u8 5)]).run Try.prog w = .ok (.agg #[eB 0, eB 0, eB 0, eB 0, eB 5]) w := fun _ => by kernel_rfl
  have b2 : ∀ w, (Instr.build 23 #[(0, .int .u8 3)]).run Try.prog w = .ok (aB (3 :: List.replicate 25 0)) w := fun _ => by kernel_rfl
  have b3 : ∀ w, (Instr.build 23 #[(0, .int .u8 2), (1, .int .u8 2), (2, .int .u8 2), (3, .int .u8 2), (4, .int .u8 2), (5, .int .u8 2), (6, .int .u8 2), (7, .int .u8 2), (8, .int .u8 2), (9, .int .u8 2)]).run Try.prog w = .ok (aB (List.replicate 10 2 ++ List.replicate 16 0)) w := fun _ => by kernel_rfl
  have b4 : ∀ w, (Instr.build 23 #[(24, .int .u8 1), (25, .int .u8 2)]).run Try.prog w = .ok (aB tr05) w := fun _ => by kernel_rfl
  have b5 : ∀ w, (Instr.build 22 #[(4, .int .u8 5)]).run Try.prog w = .ok (aB [0, 0, 0, 0, 5]) w := fun _ => by kernel_rfl
  have q1 := eql26 tr05 tr05 rfl rfl
  have q2 := eql5 [0, 0, 0, 0, 5] [0, 0, 0, 0, 5] rfl rfl
  rw [decide_eq_true (rfl : tr05 = tr05)] at q1
  rw [decide_eq_true (rfl : ([0, 0, 0, 0, 5] : List UInt8) = _)] at q2
  have n0 : tr05.length = 26 := rfl
  have c0 := fun w => Five_any 0 0 0 0 5 w
  rw [tr05_eq] at c0
  have c1 := fun w => Back_yes tr05 _ n0 back05 w
  have c2 := fun w => Back_no (3 :: List.replicate 25 0) _ rfl back3 w
  have c3 := fun w => Back_no (List.replicate 10 2 ++ List.replicate 16 0) _ rfl back2 w
  have s26 := size26 tr05 n0
  have s5 := size5 [0, 0, 0, 0, 5] rfl
  have s5' := size5 (List.replicate 5 0) rfl
  clear n0
  have o1 := one_map tr05
  have o2 := one_map [0, 0, 0, 0, 5]
  have o3 := one_map (List.replicate 5 0)
  have r26 : ((List.replicate 26 (0 : UInt8)).map eB).toArray.size = (tr05.map eB).toArray.size := rfl
  have r5 : ((List.replicate 5 (0 : UInt8)).map eB).toArray.size = ([0, 0, 0, 0, 5].map eB).toArray.size := rfl
  generalize ht : tr05 = t0 at *
  generalize ([0, 0, 0, 0, 5] : List UInt8) = t1 at *
  generalize List.replicate 5 (0 : UInt8) = t2 at *
  generalize List.replicate 26 (0 : UInt8) = t3 at *
  generalize (3 :: List.replicate 25 (0 : UInt8)) = t4 at *
  generalize (List.replicate 10 (2 : UInt8) ++ List.replicate 16 0) = t5 at *
  clear ht
  go_enter Try.func7, Try.ntmps7
  go_wp2_with (refine wpList_build (by kernel_rfl) 22 _ rfl _ _ (b1 _) (by kernel_rfl) ?_)
  go_at_call 14
  refine (c0 _).mono ?_
  rintro e w1 ⟨rfl, hB1⟩
  have hr1 := Rowed.new w1 23 (t3.map eB).toArray
  have hA1 := hB1.alloc hB1.size (.cells (t3.map eB).toArray 23)
  have hq1 := Row8.put hr1 t0
  have hA1 := below_setRow hA1 w1.heap.size (t0.map eB).toArray hB1.size
  go_wp2_with (first
    | (refine wpList_store_row rfl 23 (.tmp 1) (.tmp 11) rfl w1.heap.size (t0.map eB).toArray rfl rfl _ _ hr1 s26 r26 o1 ?_)
    | (refine wpList_load_row rfl 23 (.tmp 1) rfl w1.heap.size rfl _ (t0.map eB).toArray _ _ hq1 Try.underlying23 rfl s26 ?_))
  have hl1 := hq1.lt
  generalize (w1.alloc (.cells (t3.map eB).toArray 23)).setRow w1.heap.size (t0.map eB).toArray = W1 at *
  generalize w1.heap.size = a1 at *
  clear hr1 hB1
  go_at_call 8
  refine (c1 _).mono ?_
  rintro e w2 ⟨rfl, hB2⟩
  have hq1 := hq1.below hB2 hl1
  have hA2 := below_trans hA1 hB2
  clear hA1 hl1 hB2
  have hr2 := Rowed.new w2 22 (t2.map eB).toArray
  have hA3 := hA2.alloc hA2.size (.cells (t2.map eB).toArray 22)
  have hq2 := Row8.put hr2 t1
  have hq1 := (hq1.alloc (.cells (t2.map eB).toArray 22)).put_other (g' := w2.heap.size) (cs' := (t1.map eB).toArray) (by have := hq1.lt; omega)
  have hA3 := below_setRow hA3 w2.heap.size (t1.map eB).toArray hA2.size
  go_wp2_with (first
    | (refine wpList_store_row rfl 22 (.tmp 2) (.tmp 15) rfl w2.heap.size (t1.map eB).toArray rfl rfl _ _ hr2 s5 r5 o2 ?_)
    | (refine wpList_build (by kernel_rfl) 23 _ rfl _ _ (b2 _) (by kernel_rfl) ?_))
  have hl1 := hq1.lt
  have hl2 := hq2.lt
  generalize (w2.alloc (.cells (t2.map eB).toArray 22)).setRow w2.heap.size (t1.map eB).toArray = W2 at *
  generalize w2.heap.size = a2 at *
  clear hr2 hA2
  go_at_call 8
  refine (c2 _).mono ?_
  rintro e w3 ⟨rfl, hB3⟩
  have hq1 := hq1.below hB3 hl1
  have hq2 := hq2.below hB3 hl2
  have hA4 := below_trans hA3 hB3
  clear hA3 hl1 hl2 hB3
  have hr3 := Rowed.new w3 22 (t2.map eB).toArray
  have hA5 := hA4.alloc hA4.size (.cells (t2.map eB).toArray 22)
  have hq1 := (hq1.alloc (.cells (t2.map eB).toArray 22)).put_other (g' := w3.heap.size) (cs' := (t2.map eB).toArray) (by have := hq1.lt; omega)
  have hq2 := (hq2.alloc (.cells (t2.map eB).toArray 22)).put_other (g' := w3.heap.size) (cs' := (t2.map eB).toArray) (by have := hq2.lt; omega)
  have hA5 := below_setRow hA5 w3.heap.size (t2.map eB).toArray hA4.size
  go_wp2_with (first
    | (refine wpList_store_row rfl 22 (.tmp 4) (.tmp 20) rfl w3.heap.size (t2.map eB).toArray rfl rfl _ _ hr3 s5' rfl o3 ?_)
    | (refine wpList_build (by kernel_rfl) 23 _ rfl _ _ (b3 _) (by kernel_rfl) ?_))
  have hl1 := hq1.lt
  have hl2 := hq2.lt
  generalize (w3.alloc (.cells (t2.map eB).toArray 22)).setRow w3.heap.size (t2.map eB).toArray = W3 at *
  generalize w3.heap.size = a3 at *
  clear hr3 hA4
  go_at_call 8
  refine (c3 _).mono ?_
  rintro e w4 ⟨rfl, hB4⟩
  have hq1 := hq1.below hB4 hl1
  have hq2 := hq2.below hB4 hl2
  have hA6 := below_trans hA5 hB4
  clear hA5 hl1 hl2 hB4
  have hr4 := Rowed.new w4 22 (t2.map eB).toArray
  have hA7 := hA6.alloc hA6.size (.cells (t2.map eB).toArray 22)
  have hq1 := (hq1.alloc (.cells (t2.map eB).toArray 22)).put_other (g' := w4.heap.size) (cs' := (t2.map eB).toArray) (by have := hq1.lt; omega)
  have hq2 := (hq2.alloc (.cells (t2.map eB).toArray 22)).put_other (g' := w4.heap.size) (cs' := (t2.map eB).toArray) (by have := hq2.lt; omega)
  have hA7 := below_setRow hA7 w4.heap.size (t2.map eB).toArray hA6.size
  go_wp2_with (refine wpList_store_row rfl 22 (.tmp 6) (.tmp 25) rfl w4.heap.size (t2.map eB).toArray rfl rfl _ _ hr4 s5' rfl o3 ?_)
  have hl1 := hq1.lt
  have hl2 := hq2.lt
  generalize (w4.alloc (.cells (t2.map eB).toArray 22)).setRow w4.heap.size (t2.map eB).toArray = W4 at *
  generalize w4.heap.size = a4 at *
  clear hr4 hA6
  have hA8 := below_trans hA7 (below_alloc W4 (.cells #[.int .u8 1] 5))
  have hq1 := hq1.alloc (.cells #[.int .u8 1] 5)
  have hq2 := hq2.alloc (.cells #[.int .u8 1] 5)
  have hl1 := hq1.lt
  have hl2 := hq2.lt
  generalize W4.alloc (.cells #[.int .u8 1] 5) = W5 at *
  go_at_call 10
  refine (Pack_no _ 1 1 (by omega) (by omega) _).mono ?_
  rintro e w6 ⟨rfl, hB6⟩
  have hq1 := hq1.below hB6 hl1
  have hq2 := hq2.below hB6 hl2
  have hA9 := below_trans hA8 hB6
  clear hA7 hA8 hB6 hl1 hl2
  have g1 := guard_agg .eql 23 (t0.map eB).toArray (t0.map eB).toArray (by kernel_rfl)
  have g2 := guard_agg .eql 22 (t1.map eB).toArray (t1.map eB).toArray (by kernel_rfl)
  have e10 : longF 10 = 52 := by decide
  have e11 : longF 11 = -1 := by decide
  have l1 := fun w => Long_any 10 w
  have l2 := fun w => Long_any 11 w
  rw [e10] at l1
  rw [e11] at l2
  clear e10 e11 c0 c1 c2 c3 b1 b2 b3 hz hz'
  go_wp2_with (first
    | (refine wpList_load_row rfl 23 (.tmp 1) rfl a1 rfl _ (t0.map eB).toArray _ _ hq1 Try.underlying23 rfl s26 ?_)
    | (refine wpList_build rfl 23 _ rfl _ _ (b4 _) (by kernel_rfl) ?_)
    | (refine wpList_load_rowg rfl 22 (.tmp 2) rfl a2 rfl _ (t1.map eB).toArray _ _ hq2 Try.underlying22 rfl s5 ?_)
    | (refine wpList_build rfl 22 _ rfl _ _ (b5 _) (by kernel_rfl) ?_))
  go_at_call 17
  refine (l1 _).mono ?_
  rintro e w' ⟨rfl, rfl⟩
  go_wp2_with fail
  go_at_call 17
  refine (l2 _).mono ?_
  rintro e w' ⟨rfl, rfl⟩
  go_wp2_with fail
  go_ret
  exact ⟨rfl, hA9⟩
end Go.Proofs.Ytmppkfiocleicaa
