/- ShapeEven, at every shape. -/
import Derived.Test.YtjfhbhidnlgabaaDoorShX0
import Derived.Test.YtjfhbhidnlgabaaDoorShX1
import Derived.Test.YtjfhbhidnlgabaaDoorShX2
import Derived.Test.YtjfhbhidnlgabaaDoorShX3
import Derived.Test.YtjfhbhidnlgabaaDoorShX4
namespace Go.Proofs.YtjfhbhidnlgabaaDoor
open Go.RowKit Go.Shelf
attribute [local go_sem] Oper.semAt_some run_store_func

set_option maxRecDepth 100000 in
set_option maxHeartbeats 4000000 in
theorem Even_no (P D R : Int) (h : ¬ May P D R) (w : World) (hT : Tab w) :
    Calls Tryd.prog 5 #[shV P D R] w fun e w' => e = .returned (.bool true) ∧ Below w.heap.size w w' := by
  have cC := fun w => RefCheck_no P D R h w
  have cN := fun w hT => Inner_no P D R h w hT
  have cW := fun w hT => Word_no P D R h w hT
  have cS := fun w hT => Strand_no P D R h w hT
  clear h
  have hA := below_alloc w (.cells #[.int .i64 P, .int .i64 D, .int .i64 R] 23)
  have hI := InBox.new w P D R 23
  have hT0 := hT.below hA
  go_enter Tryd.func5, Tryd.ntmps5
  go_wp2_with fail
  go_at_call 8
  refine (cC _).mono ?_
  rintro e w1 ⟨rfl, hB1⟩
  have hA1 := below_trans hA hB1
  have hT1 := hT0.below hB1
  have hI1 := hI.below hB1 hI.lt
  obtain ⟨x0, x1, x2⟩ := hI1
  have hI1 : InBox w1 w.heap.size P D R := ⟨x0, x1, x2⟩
  go_wp2_with fail
  go_at_call 19
  refine (cS _ hT1).mono ?_
  rintro e w2 ⟨rfl, hB2⟩
  have hA2 := below_trans hA1 hB2
  have hT2 := hT1.below hB2
  have hI2 := hI1.below hB2 hI1.lt
  clear x0 x1 x2
  obtain ⟨x0, x1, x2⟩ := hI2
  have hI2 : InBox w2 w.heap.size P D R := ⟨x0, x1, x2⟩
  go_wp2_with fail
  go_at_call 17
  refine (cW _ hT2).mono ?_
  rintro e w3 ⟨rfl, hB3⟩
  have hA3 := below_trans hA2 hB3
  have hT3 := hT2.below hB3
  have hI3 := hI2.below hB3 hI2.lt
  clear x0 x1 x2
  obtain ⟨x0, x1, x2⟩ := hI3
  go_wp2_with fail
  go_at_call 13
  refine (cN _ hT3).mono ?_
  rintro e w4 ⟨rfl, hB4⟩
  have hA4 := below_trans hA3 hB4
  have hT4 := hT3.below hB4
  clear x0 x1 x2 cC cN cW cS hI hI1 hI2
  go_wp2_with (go_at_call 27; refine (wakes_any _ hT4).mono ?_; rintro e w5 ⟨rfl, hB5⟩)
  go_ret
  exact ⟨rfl, below_trans hA4 hB5⟩

theorem ShapeEven_any (P D R : Int) (w : World) (hT : Tab w) :
    Calls Tryd.prog 5 #[shV P D R] w fun e w' => e = .returned (.bool true) ∧ Below w.heap.size w w' := by
  by_cases h : May P D R
  case neg => exact Even_no P D R h w hT
  obtain ⟨hp, hr⟩ := h
  rcases hp with rfl | rfl | rfl | rfl | rfl
  · exact Even_0 D R hr w hT
  · exact Even_1 D R hr w hT
  · exact Even_2 D R hr w hT
  · exact Even_3 D R hr w hT
  · exact Even_4 D R hr w hT
end Go.Proofs.YtjfhbhidnlgabaaDoor
