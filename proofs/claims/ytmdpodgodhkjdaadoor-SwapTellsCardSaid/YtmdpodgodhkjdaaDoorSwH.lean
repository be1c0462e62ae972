/- The law's own wakes. -/
import Derived.Test.YtmdpodgodhkjdaaDoorSwG
import Derived.Test.YtmdpodgodhkjdaaDoorSwF
import Derived.Lib.SlBytesConst
namespace Go.Proofs.YtmdpodgodhkjdaaDoor
open Go.RowKit Go.Shelf
attribute [local go_sem] Oper.semAt_some run_store_func

theorem wk1 : swapG [65, 67] 1 2 = .ok [65, 67] := by kernel_rfl
theorem wk2 : swapG [65, 65] 1 2 = .ok [65, 67] := by kernel_rfl
theorem wk3 : findG [65, 65] 1 2 = .ok (1, 67) := by kernel_rfl
theorem wk4 : swapG [65] 0 0 = .error 2 := by kernel_rfl
theorem wk5 : swapG [65, 65] 1 9 = .error 130 := by kernel_rfl
theorem Swap_yes (y : List UInt8) (s u : Int) (r : List UInt8) (h : swapG y s u = .ok r) (hreach : y.length ≤ 1000000) (sv : Value) (w : World) (hT : Tab w) (hS : Sl eB w.heap.size w sv y) :
    Calls Tryd.prog 27 #[sv, .int .i64 s, .int .i64 u] w fun e w' => ∃ v, e = .returned (.tuple #[v, .int .i64 0]) ∧ Sl eB w'.heap.size w' v r ∧ Below w.heap.size w w' :=
  (Swap_any y s u sv w hT hS hreach).mono (by
    rintro e w' ⟨hB, ⟨r', v, hy, rfl, hv⟩ | ⟨m, hm, rfl⟩⟩
    · rw [h] at hy; cases hy; exact ⟨v, rfl, hv, hB⟩
    · rw [h] at hm; cases hm)
theorem Swap_no (y : List UInt8) (s u m : Int) (h : swapG y s u = .error m) (hreach : y.length ≤ 1000000) (sv : Value) (w : World) (hT : Tab w) (hS : Sl eB w.heap.size w sv y) :
    Calls Tryd.prog 27 #[sv, .int .i64 s, .int .i64 u] w fun e w' => e = .returned (.tuple #[.slice none 0 0, .int .i64 m]) ∧ Below w.heap.size w w' :=
  (Swap_any y s u sv w hT hS hreach).mono (by
    rintro e w' ⟨hB, ⟨r', v, hy, rfl, hv⟩ | ⟨m, hm, rfl⟩⟩
    · rw [h] at hy; cases hy
    · rw [h] at hm; cases hm; exact ⟨rfl, hB⟩)
theorem Find_yes (y : List UInt8) (s u z : Int) (c : UInt8) (h : findG y s u = .ok (z, c)) (hreach : y.length ≤ 1000000) (sv : Value) (w : World) (hT : Tab w) (hS : Sl eB w.heap.size w sv y) :
    Calls Tryd.prog 25 #[sv, .int .i64 s, .int .i64 u] w fun e w' => e = .returned (.tuple #[.int .i64 z, eB c, .int .i64 0]) ∧ Below w.heap.size w w' :=
  (Find_any y s u sv w hT hS hreach).mono (by
    rintro e w' ⟨hB, ⟨z', c', hy, rfl⟩ | ⟨m, hm, rfl⟩⟩
    · rw [h] at hy; cases hy; exact ⟨rfl, hB⟩
    · rw [h] at hm; cases hm)
theorem By_yes (y : List UInt8) (z : Int) (c : UInt8) (r : List UInt8) (h : byG y z c = .ok r) (hreach : y.length ≤ 1000000) (sv : Value) (w : World) (hT : Tab w) (hS : Sl eB w.heap.size w sv y) :
    Calls Tryd.prog 29 #[sv, .int .i64 z, eB c] w fun e w' => ∃ v, e = .returned (.tuple #[v, .int .i64 0]) ∧ Sl eB w'.heap.size w' v r ∧ Below w.heap.size w w' :=
  (By_any y z c sv w hT hS hreach).mono (by
    rintro e w' ⟨hB, ⟨r', v, hy, rfl, hv⟩ | ⟨m, hm, rfl⟩⟩
    · rw [h] at hy; cases hy; exact ⟨v, rfl, hv, hB⟩
    · rw [h] at hm; cases hm)
theorem By_no (y : List UInt8) (z : Int) (c : UInt8) (m : Int) (h : byG y z c = .error m) (hreach : y.length ≤ 1000000) (sv : Value) (w : World) (hT : Tab w) (hS : Sl eB w.heap.size w sv y) :
    Calls Tryd.prog 29 #[sv, .int .i64 z, eB c] w fun e w' => e = .returned (.tuple #[.slice none 0 0, .int .i64 m]) ∧ Below w.heap.size w w' :=
  (By_any y z c sv w hT hS hreach).mono (by
    rintro e w' ⟨hB, ⟨r', v, hy, rfl, hv⟩ | ⟨m, hm, rfl⟩⟩
    · rw [h] at hy; cases hy
    · rw [h] at hm; cases hm; exact ⟨rfl, hB⟩)
set_option maxRecDepth 100000 in
set_option maxHeartbeats 1000000 in
theorem wakes_any (w : World) (hT : Tab w) : Calls Tryd.prog 24 #[] w fun e w' => e = .returned (.bool true) ∧ Below w.heap.size w w' := by
  have c1 := fun v w => Swap_yes _ _ _ _ wk1 (by simp) v w
  have c2 := fun v w => Swap_yes _ _ _ _ wk2 (by simp) v w
  have c3 := fun v w => Find_yes _ _ _ _ _ wk3 (by simp) v w
  have c4 := fun v w => Swap_no _ _ _ _ wk4 (by simp) v w
  have c5 := fun v w => Swap_no _ _ _ _ wk5 (by simp) v w
  have kc := fun (w : World) (C : Array Value) (n c : Nat) => Lib.run_convert_bytes_const (P := Tryd.prog) w 22 5 C n c Tryd.underlying22 Tryd.underlying5
  go_enter Tryd.func24, Tryd.ntmps24
  have hB0 := Below.refl w.heap.size w
  have hA0 := below_alloc w (.cells #[.int .u8 65, .int .u8 67] 5 (2, 3))
  have hq0 := Sl.new eB w [65, 67] #[eB 65, eB 67] 5 (2, 3) 2 2 rfl (Nat.le_refl _) rfl
  go_wp2_with fail
  go_at_call 27
  refine (c1 _ _ (hT.below hA0) hq0).mono ?_
  rintro e w1 ⟨v1, rfl, hv1, hC⟩
  have hC := below_trans hA0 hC
  have hT := hT.below hC
  have hB0 := below_trans hB0 hC
  clear hC hA0 hq0 c1
  obtain ⟨A1, k1, rfl⟩ := hv1.len
  have hA1 := below_alloc w1 (.cells #[.int .u8 65, .int .u8 65] 5 (2, 3))
  have hq1 := Sl.new eB w1 [65, 65] #[eB 65, eB 65] 5 (2, 3) 2 2 rfl (Nat.le_refl _) rfl
  go_wp2_with fail
  go_at_call 27
  refine (c2 _ _ (hT.below hA1) hq1).mono ?_
  rintro e w2 ⟨v2, rfl, hv2, hC⟩
  have hC := below_trans hA1 hC
  have hv1 := hv1.next hC
  have hT := hT.below hC
  have hB0 := below_trans hB0 hC
  clear hC hA1 hq1 c2
  obtain ⟨A2, k2, rfl⟩ := hv2.len
  have hA2 := below_alloc w2 (.cells #[.int .u8 65, .int .u8 65] 5 (2, 3))
  have hq2 := Sl.new eB w2 [65, 65] #[eB 65, eB 65] 5 (2, 3) 2 2 rfl (Nat.le_refl _) rfl
  go_wp2_with fail
  go_at_call 25
  refine (c3 _ _ (hT.below hA2) hq2).mono ?_
  rintro e w3 ⟨rfl, hC⟩
  have hC := below_trans hA2 hC
  have hv1 := hv1.next hC
  have hv2 := hv2.next hC
  have hT := hT.below hC
  have hB0 := below_trans hB0 hC
  clear hC hA2 hq2 c3
  have hA3 := below_alloc w3 (.cells #[.int .u8 65] 5 (1, 2))
  have hq3 := Sl.new eB w3 [65] #[eB 65] 5 (1, 2) 1 1 rfl (Nat.le_refl _) rfl
  go_wp2_with fail
  go_at_call 27
  refine (c4 _ _ (hT.below hA3) hq3).mono ?_
  rintro e w4 ⟨rfl, hC⟩
  have hC := below_trans hA3 hC
  have hv1 := hv1.next hC
  have hv2 := hv2.next hC
  have hT := hT.below hC
  have hB0 := below_trans hB0 hC
  clear hC hA3 hq3 c4
  have hA4 := below_alloc w4 (.cells #[.int .u8 65, .int .u8 65] 5 (2, 3))
  have hq4 := Sl.new eB w4 [65, 65] #[eB 65, eB 65] 5 (2, 3) 2 2 rfl (Nat.le_refl _) rfl
  go_wp2_with fail
  go_at_call 27
  refine (c5 _ _ (hT.below hA4) hq4).mono ?_
  rintro e w5 ⟨rfl, hC⟩
  have hC := below_trans hA4 hC
  have hv1 := hv1.next hC
  have hv2 := hv2.next hC
  have hT := hT.below hC
  have hB0 := below_trans hB0 hC
  clear hC hA4 hq4 c5
  have hA5 := below_alloc w5 (.cells #[.int .u8 65, .int .u8 67] 5 (2, 3))
  have hq5 := Sl.new eB w5 [65, 67] #[eB 65, eB 67] 5 (2, 3) 2 2 rfl (Nat.le_refl _) rfl
  have hv1 := hv1.next hA5
  have hv2 := hv2.next hA5
  have hB0 := below_trans hB0 hA5
  clear hA5 hT
  go_wp2_with fail
  go_at_call 31
  refine (same_eq _ _ _ _ _ hv1 hq5).mono ?_
  rintro e w' ⟨rfl, rfl⟩
  clear hv1 hq5
  generalize w5.alloc (.cells #[.int .u8 65, .int .u8 67] 5 (2, 3)) = w6 at *
  have hA6 := below_alloc w6 (.cells #[.int .u8 65, .int .u8 67] 5 (2, 3))
  have hq6 := Sl.new eB w6 [65, 67] #[eB 65, eB 67] 5 (2, 3) 2 2 rfl (Nat.le_refl _) rfl
  have hv2 := hv2.next hA6
  have hB0 := below_trans hB0 hA6
  clear hA6
  go_wp2_with fail
  go_at_call 31
  refine (same_eq _ _ _ _ _ hv2 hq6).mono ?_
  rintro e w' ⟨rfl, rfl⟩
  clear hv2 hq6
  generalize w6.alloc (.cells #[.int .u8 65, .int .u8 67] 5 (2, 3)) = w7 at *
  go_wp2
  go_ret
  exact ⟨rfl, hB0⟩
end Go.Proofs.YtmdpodgodhkjdaaDoor
