/- The law's own wakes. -/
import Derived.Test.YtjfhbhidnlgabaaDoorShG
namespace Go.Proofs.YtjfhbhidnlgabaaDoor
open Go.RowKit Go.Shelf
attribute [local go_sem] Oper.semAt_some run_store_func

theorem rest42 : restOk 4 2 := by unfold restOk; omega
theorem may742 : May ((7 : Nat) : Int) ((4 : Nat) : Int) ((2 : Nat) : Int) := ⟨by simp [payOk], by unfold restOk; omega⟩
set_option maxRecDepth 100000 in
set_option maxHeartbeats 4000000 in
theorem wakes_any (w : World) (hT : Tab w) : Calls Tryd.prog 27 #[] w fun e w' => e = .returned (.bool true) ∧ Below w.heap.size w w' := by
  have c1 : ∀ w, Tab w → Calls Tryd.prog 7 #[shV 7 4 2] w fun e w' => e = .returned (.int .i64 0) ∧ Below w.heap.size w w' := fun w hT => Check_yes 7 4 2 may742 w hT
  have c2 : ∀ w, Tab w → Calls Tryd.prog 9 #[shV 7 4 2] w fun e w' => e = .returned (.int .i64 52) ∧ Below w.heap.size w w' := fun w hT => Body_yes 1 (by omega) 4 2 rest42 w hT
  have c3 : ∀ w, Tab w → Calls Tryd.prog 11 #[shV 7 4 2] w fun e w' => e = .returned (.int .i64 6) ∧ Below w.heap.size w w' := fun w hT => Index_yes 1 (by omega) 4 2 rest42 w hT
  have c4 : ∀ w, Tab w → Calls Tryd.prog 15 #[shV 7 4 2] w fun e w' => e = .returned (.int .i64 18) ∧ Below w.heap.size w w' := fun w hT => Field_yes 1 (by omega) 4 2 rest42 w hT
  have c5 : ∀ w, Tab w → Calls Tryd.prog 13 #[shV 7 4 2] w fun e w' => e = .returned (.int .i64 58) ∧ Below w.heap.size w w' := fun w hT => Inner_yes 1 (by omega) 4 2 rest42 w hT
  have c6 : ∀ w, Tab w → Calls Tryd.prog 17 #[shV 7 4 2] w fun e w' => e = .returned (.int .i64 113) ∧ Below w.heap.size w w' := fun w hT => Word_yes 1 (by omega) 4 2 rest42 w hT
  have c7 : ∀ w, Tab w → Calls Tryd.prog 19 #[shV 7 4 2] w fun e w' => e = .returned (.int .i64 145) ∧ Below w.heap.size w w' := fun w hT => Strand_yes 1 (by omega) 4 2 rest42 w hT
  have c8 : ∀ w, Tab w → Calls Tryd.prog 21 #[shV 7 4 2, .int .i64 29] w fun e w' => e = .returned (.int .i64 2) ∧ Below w.heap.size w w' := fun w hT => Groups_yes 7 4 2 29 5 may742 (by omega) (by decide) w hT
  have c9 : ∀ w, Tab w → Calls Tryd.prog 23 #[shV 7 4 2, .int .i64 29, .int .i64 1] w fun e w' => e = .returned (.int .i64 1) ∧ Below w.heap.size w w' := fun w hT => Pieces_yes 7 4 2 29 5 1 may742 (by omega) (by decide) w hT
  have hs : sumW 2 (grp 5 4) = 9 := by decide +kernel
  have c10 : ∀ w, Tab w → Calls Tryd.prog 25 #[shV 7 4 2, .int .i64 29] w fun e w' => e = .returned (.int .i64 9) ∧ Below w.heap.size w w' := fun w hT => by have := Count_yes 7 4 2 29 5 may742 (by omega) (by decide) w hT; rw [hs] at this; exact this
  have c11 : ∀ w, Tab w → Calls Tryd.prog 7 #[shV 3 1 0] w fun e w' => e = .returned (.int .i64 180) ∧ Below w.heap.size w w' := fun w hT => Check_no 3 1 0 (by decide) w hT
  have c12 : ∀ w, Tab w → Calls Tryd.prog 9 #[shV 0 0 0] w fun e w' => e = .returned (.int .i64 (-1)) ∧ Below w.heap.size w w' := fun w hT => Body_no 0 0 0 (by decide) w hT
  have hs0 : sumW 2 (grp 0 4) = 0 := by decide +kernel
  have c13 : ∀ w, Tab w → Calls Tryd.prog 25 #[shV 7 4 2, .int .i64 0] w fun e w' => e = .returned (.int .i64 0) ∧ Below w.heap.size w w' := fun w hT => by have := Count_yes 7 4 2 0 0 may742 (by omega) (by decide) w hT; rw [hs0] at this; exact this
  clear hs hs0
  have b1 : ∀ w, (Instr.build 23 #[(0, .int .i64 7), (1, .int .i64 4), (2, .int .i64 2)]).run Tryd.prog w = .ok (shV 7 4 2) w := fun _ => by kernel_rfl
  have b2 : ∀ w, (Instr.build 23 #[(0, .int .i64 3), (1, .int .i64 1)]).run Tryd.prog w = .ok (shV 3 1 0) w := fun _ => by kernel_rfl
  have b3 : ∀ w, (Instr.build 23 #[]).run Tryd.prog w = .ok (shV 0 0 0) w := fun _ => by kernel_rfl
  have hA := below_alloc w (.cells #[.int .i64 7, .int .i64 4, .int .i64 2] 23)
  have hI0 := InBox.new w 7 4 2 23
  have hT0 := hT.below hA
  go_enter Tryd.func27, Tryd.ntmps27
  go_wp2_with fail
  go_at_call 7
  refine (c1 _ hT0).mono ?_
  rintro e w1 ⟨rfl, hB1⟩
  have hA1 := below_trans hA hB1
  have hT1 := hT0.below hB1
  have hI1 := hI0.below hB1 hI0.lt
  obtain ⟨x0, x1, x2⟩ := hI1
  have hI1 : InBox w1 w.heap.size 7 4 2 := ⟨x0, x1, x2⟩
  clear hB1 hT0 hI0 hA
  go_wp2_with fail
  clear x0 x1 x2
  go_at_call 9
  refine (c2 _ hT1).mono ?_
  rintro e w2 ⟨rfl, hB2⟩
  have hA2 := below_trans hA1 hB2
  have hT2 := hT1.below hB2
  have hI2 := hI1.below hB2 hI1.lt
  obtain ⟨x0, x1, x2⟩ := hI2
  have hI2 : InBox w2 w.heap.size 7 4 2 := ⟨x0, x1, x2⟩
  clear hB2 hT1 hI1 hA1
  go_wp2_with fail
  clear x0 x1 x2
  go_at_call 11
  refine (c3 _ hT2).mono ?_
  rintro e w3 ⟨rfl, hB3⟩
  have hA3 := below_trans hA2 hB3
  have hT3 := hT2.below hB3
  have hI3 := hI2.below hB3 hI2.lt
  obtain ⟨x0, x1, x2⟩ := hI3
  have hI3 : InBox w3 w.heap.size 7 4 2 := ⟨x0, x1, x2⟩
  clear hB3 hT2 hI2 hA2
  go_wp2_with fail
  clear x0 x1 x2
  go_at_call 15
  refine (c4 _ hT3).mono ?_
  rintro e w4 ⟨rfl, hB4⟩
  have hA4 := below_trans hA3 hB4
  have hT4 := hT3.below hB4
  have hI4 := hI3.below hB4 hI3.lt
  obtain ⟨x0, x1, x2⟩ := hI4
  have hI4 : InBox w4 w.heap.size 7 4 2 := ⟨x0, x1, x2⟩
  clear hB4 hT3 hI3 hA3
  go_wp2_with fail
  clear x0 x1 x2
  go_at_call 13
  refine (c5 _ hT4).mono ?_
  rintro e w5 ⟨rfl, hB5⟩
  have hA5 := below_trans hA4 hB5
  have hT5 := hT4.below hB5
  have hI5 := hI4.below hB5 hI4.lt
  obtain ⟨x0, x1, x2⟩ := hI5
  have hI5 : InBox w5 w.heap.size 7 4 2 := ⟨x0, x1, x2⟩
  clear hB5 hT4 hI4 hA4
  go_wp2_with fail
  clear x0 x1 x2
  go_at_call 17
  refine (c6 _ hT5).mono ?_
  rintro e w6 ⟨rfl, hB6⟩
  have hA6 := below_trans hA5 hB6
  have hT6 := hT5.below hB6
  have hI6 := hI5.below hB6 hI5.lt
  obtain ⟨x0, x1, x2⟩ := hI6
  have hI6 : InBox w6 w.heap.size 7 4 2 := ⟨x0, x1, x2⟩
  clear hB6 hT5 hI5 hA5
  go_wp2_with fail
  clear x0 x1 x2
  go_at_call 19
  refine (c7 _ hT6).mono ?_
  rintro e w7 ⟨rfl, hB7⟩
  have hA7 := below_trans hA6 hB7
  have hT7 := hT6.below hB7
  have hI7 := hI6.below hB7 hI6.lt
  obtain ⟨x0, x1, x2⟩ := hI7
  have hI7 : InBox w7 w.heap.size 7 4 2 := ⟨x0, x1, x2⟩
  clear hB7 hT6 hI6 hA6
  go_wp2_with fail
  clear x0 x1 x2
  go_at_call 21
  refine (c8 _ hT7).mono ?_
  rintro e w8 ⟨rfl, hB8⟩
  have hA8 := below_trans hA7 hB8
  have hT8 := hT7.below hB8
  have hI8 := hI7.below hB8 hI7.lt
  obtain ⟨x0, x1, x2⟩ := hI8
  have hI8 : InBox w8 w.heap.size 7 4 2 := ⟨x0, x1, x2⟩
  clear hB8 hT7 hI7 hA7
  go_wp2_with fail
  clear x0 x1 x2
  go_at_call 23
  refine (c9 _ hT8).mono ?_
  rintro e w9 ⟨rfl, hB9⟩
  have hA9 := below_trans hA8 hB9
  have hT9 := hT8.below hB9
  have hI9 := hI8.below hB9 hI8.lt
  obtain ⟨x0, x1, x2⟩ := hI9
  have hI9 : InBox w9 w.heap.size 7 4 2 := ⟨x0, x1, x2⟩
  clear hB9 hT8 hI8 hA8
  go_wp2_with fail
  clear x0 x1 x2
  go_at_call 25
  refine (c10 _ hT9).mono ?_
  rintro e w10 ⟨rfl, hB10⟩
  have hA10 := below_trans hA9 hB10
  have hT10 := hT9.below hB10
  have hI10 := hI9.below hB10 hI9.lt
  obtain ⟨x0, x1, x2⟩ := hI10
  have hI10 : InBox w10 w.heap.size 7 4 2 := ⟨x0, x1, x2⟩
  clear hB10 hT9 hI9 hA9
  go_wp2_with fail
  clear x0 x1 x2
  go_at_call 7
  refine (c11 _ hT10).mono ?_
  rintro e w11 ⟨rfl, hB11⟩
  have hA11 := below_trans hA10 hB11
  have hT11 := hT10.below hB11
  have hI11 := hI10.below hB11 hI10.lt
  obtain ⟨x0, x1, x2⟩ := hI11
  have hI11 : InBox w11 w.heap.size 7 4 2 := ⟨x0, x1, x2⟩
  clear hB11 hT10 hI10 hA10
  go_wp2_with fail
  clear x0 x1 x2
  go_at_call 9
  refine (c12 _ hT11).mono ?_
  rintro e w12 ⟨rfl, hB12⟩
  have hA12 := below_trans hA11 hB12
  have hT12 := hT11.below hB12
  have hI12 := hI11.below hB12 hI11.lt
  obtain ⟨x0, x1, x2⟩ := hI12
  have hI12 : InBox w12 w.heap.size 7 4 2 := ⟨x0, x1, x2⟩
  clear hB12 hT11 hI11 hA11
  go_wp2_with fail
  clear x0 x1 x2
  go_at_call 25
  refine (c13 _ hT12).mono ?_
  rintro e w13 ⟨rfl, hB13⟩
  have hA13 := below_trans hA12 hB13
  have hT13 := hT12.below hB13
  have hI13 := hI12.below hB13 hI12.lt
  obtain ⟨x0, x1, x2⟩ := hI13
  have hI13 : InBox w13 w.heap.size 7 4 2 := ⟨x0, x1, x2⟩
  clear hB13 hT12 hI12 hA12
  go_wp2
  go_ret
  exact ⟨rfl, hA13⟩
end Go.Proofs.YtjfhbhidnlgabaaDoor
