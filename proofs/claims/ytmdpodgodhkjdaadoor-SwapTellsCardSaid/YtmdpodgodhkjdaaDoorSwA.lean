/- Contracts of swap.must, caught, of, code. -/
import Derived.Test.YtmdpodgodhkjdaaDoorLtA
import Derived.Test.YtmdpodgodhkjdaaDoorOfA
import Derived.Test.YtmdpodgodhkjdaaDoorCl
import Derived.Test.YtmdpodgodhkjdaaDoorRI
import Derived.Test.YtmdpodgodhkjdaaDoorSwC
import Derived.Deep.CutRange
namespace Go.Proofs.YtmdpodgodhkjdaaDoor
open Go.RowKit Go.Shelf
attribute [local go_sem] Oper.semAt_some run_store_func

theorem smust_ok (w : World) : Calls Tryd.prog 72 #[.int .i64 0] w fun e w' => e = .returned (.tuple #[]) ∧ w = w' := by
  go_enter Tryd.func72, Tryd.ntmps72
  go_wp2
  go_end0
  exact ⟨rfl, rfl⟩
theorem smust_no (m : Int) (hm : m ≠ 0) (w : World) : Calls Tryd.prog 72 #[.int .i64 m] w fun e w' => e = .panicked (errno m) ∧ w = w' := by
  have hb : (m != 0) = true := by simpa using hm
  clear hm
  go_enter Tryd.func72, Tryd.ntmps72
  go_wp2
  exact ⟨rfl, rfl, rfl⟩
theorem scode_yes (c : UInt8) (h : codeOf c.toNat ≠ -1) (w : World) (hT : Tab w) :
    Calls Tryd.prog 66 #[eB c] w fun e w' => e = .returned (.int .i64 (codeOf c.toNat)) ∧ w = w' := by
  have hC := fun w hT => Code_any c w hT
  simp only [if_neg h] at hC
  have hm := smust_ok
  clear h
  generalize codeOf c.toNat = k at *
  go_enter Tryd.func66, Tryd.ntmps66
  go_wp2_with fail
  go_at_call 40
  refine (hC _ hT).mono ?_
  rintro e w' ⟨rfl, rfl⟩
  go_wp2_with (go_at_call 72; refine (hm _).mono ?_; rintro e w' ⟨rfl, rfl⟩)
  go_ret
  exact ⟨rfl, rfl⟩
theorem scode_no (c : UInt8) (h : codeOf c.toNat = -1) (w : World) (hT : Tab w) :
    Calls Tryd.prog 66 #[eB c] w fun e w' => e = .panicked (errno 10) ∧ w = w' := by
  have hC := fun w hT => Code_any c w hT
  simp only [if_pos h] at hC
  have hm := smust_no 10 (by omega)
  clear h
  go_enter Tryd.func66, Tryd.ntmps66
  go_wp2_with fail
  go_at_call 40
  refine (hC _ hT).mono ?_
  rintro e w' ⟨rfl, rfl⟩
  go_wp2_with (go_at_call 72; refine (hm _).mono ?_; rintro e w' ⟨rfl, rfl⟩)
  exact ⟨rfl, rfl, rfl⟩
set_option maxRecDepth 100000 in
set_option maxHeartbeats 2000000 in
theorem sof_yes (x : List UInt8) (a b c : Int) (h : sumsG x = .ok (a, b, c)) (hreach : x.length ≤ 1000000) (sv : Value) (w : World) (hT : Tab w) (hS : Sl eB w.heap.size w sv x) :
    Calls Tryd.prog 62 #[sv] w fun e w' => e = .returned (v3 a b c) ∧ Below w.heap.size w w' := by
  have hO := Of_yes x a b c h hreach sv
  have hm := smust_ok
  obtain ⟨A, c0, rfl⟩ := hS.len
  obtain ⟨hz, hsz⟩ := zero_of_info infoS
  have hc0 : (v3 0 0 0).cells = #[.int .i64 0, .int .i64 0, .int .i64 0] := rfl
  have hr0 := Rowed.new w 36 (c3 0 0 0)
  have hA0 := below_alloc w (.cells (c3 0 0 0) 36)
  have hlt0 := hr0.lt
  clear h
  go_enter Tryd.func62, Tryd.ntmps62
  go_upto_region 1 with fail
  generalize w.alloc (.cells (c3 0 0 0) 36) = w1 at *
  go_wp2_with fail
  go_at_call 71
  refine (hO _ (hT.below hA0) (hS.next hA0)).mono ?_
  rintro e w2 ⟨rfl, hB⟩
  have hA2 := below_alloc w2 (.cells (c3 a b c) 36)
  have hr2 := Rowed.new w2 36 (c3 a b c)
  have hBx := below_trans hB hA2
  have hr0 := hr0.below hBx hlt0
  have hBy := below_trans hA0 hBx
  clear hO hB hA2 hlt0 hA0
  go_upto_region 2 with fail
  generalize w2.alloc (.cells (c3 a b c) 36) = w3 at *
  generalize w2.heap.size = g2 at *
  have k0 := hr2.cell 0
  have k1 := hr2.cell 1
  have k2 := hr2.cell 2
  have j0 := hr0.cell 0
  have j1 := hr0.cell 1
  have j2 := hr0.cell 2
  have f0 := hr0.frozen 0
  have f1 := hr0.frozen 1
  have f2 := hr0.frozen 2
  simp at k0 k1 k2 j0 j1 j2
  go_wp2_with (go_at_call 72; refine (hm _).mono ?_; rintro e w' ⟨rfl, rfl⟩)
  refine bodyPost_ret (v := v3 a b c) ?_ rfl ⟨rfl, below3 hBy w.heap.size (Nat.le_refl _) _ _ _⟩
  exact results_cell_row (p := 2) rfl _ _ w.heap.size _ _ _ _ rfl (row3 hr0 a b c) Tryd.underlying36 rfl (size_c3 a b c)
set_option maxRecDepth 100000 in
set_option maxHeartbeats 2000000 in
theorem sof_no (x : List UInt8) (m : Int) (hm0 : m ≠ 0) (h : sumsG x = .error m) (hreach : x.length ≤ 1000000) (sv : Value) (w : World) (hT : Tab w) (hS : Sl eB w.heap.size w sv x) :
    Calls Tryd.prog 62 #[sv] w fun e w' => e = .panicked (errno m) ∧ Below w.heap.size w w' := by
  have hO := Of_no x m h hreach sv
  have hm := smust_no m hm0
  obtain ⟨A, c0, rfl⟩ := hS.len
  obtain ⟨hz, hsz⟩ := zero_of_info infoS
  have hc0 : (v3 0 0 0).cells = #[.int .i64 0, .int .i64 0, .int .i64 0] := rfl
  have hA0 := below_alloc w (.cells (c3 0 0 0) 36)
  clear h
  go_enter Tryd.func62, Tryd.ntmps62
  go_upto_region 1 with fail
  generalize w.alloc (.cells (c3 0 0 0) 36) = w1 at *
  go_wp2_with fail
  go_at_call 71
  refine (hO _ (hT.below hA0) (hS.next hA0)).mono ?_
  rintro e w2 ⟨rfl, hB⟩
  have hA2 := below_alloc w2 (.cells (c3 0 0 0) 36)
  have hBy := below_trans hA0 (below_trans hB hA2)
  clear hO hB hA2 hA0
  go_upto_region 2 with fail
  generalize w2.alloc (.cells (c3 0 0 0) 36) = w3 at *
  go_wp2_with (go_at_call 72; refine (hm _).mono ?_; rintro e w' ⟨rfl, rfl⟩)
  exact ⟨rfl, rfl, hBy⟩
end Go.Proofs.YtmdpodgodhkjdaaDoor
