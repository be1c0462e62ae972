/- The law's own wakes, of edit. -/
import Derived.Test.YtapbfjbjbcpiiaaDoorEdK
namespace Go.Proofs.YtapbfjbjbcpiiaaDoor
open Go.RowKit Go.Shelf
attribute [local go_sem] Oper.semAt_some run_store_func

theorem sl_nil (B : Nat) (w : World) : Sl eB B w (.slice none 0 0) [] := ⟨none, 0, rfl, Nat.le_refl _, fun h => absurd h (by simp)⟩
theorem str_of {w : World} {sv : Value} {x : List UInt8} (h : Sl eB w.heap.size w sv x) : (convert 25 9 sv).run Tryd.prog w = .ok (.string ⟨x.toArray⟩) w :=
  run_str (P := Tryd.prog) h 25 9 5 Tryd.underlying25 Tryd.underlying5 Tryd.underlying9
theorem TabE.of_var {w : World} (h : w.var? Tryd.prog "helix/edit.letters" = some #[.int .u8 65, .int .u8 67, .int .u8 71, .int .u8 84]) : TabE w := by
  have hg : Tryd.prog.globalNamed "helix/edit.letters" = some 1 := by kernel_rfl
  unfold World.var? at h
  rw [hg, Option.bind_some] at h
  split at h
  · rename_i cs t fr he
    cases h
    exact ⟨_, _, he⟩
  · cases h
theorem dw0 : wiN [65, 67, 71, 84] [65, 71, 84] 1 = 1 ∧ wiB [65, 67, 71, 84] [65, 71, 84] 1 = true := ⟨by kernel_rfl, by kernel_rfl⟩
theorem dw1 : wiN [65, 67, 71, 84] [65, 71, 84] 0 = 0 ∧ wiB [65, 67, 71, 84] [65, 71, 84] 0 = false := ⟨by kernel_rfl, by kernel_rfl⟩
theorem dw2 : dist (cut [65, 67, 71, 84]) (cut [65, 71, 84]) = 1 := by kernel_rfl
theorem dw3 (n : Nat) (h : IsPre (cut [65, 65]) (cut [65, 65, 65, 67]) n) : n = 0 := by
  have h1 := h.2 2 (by decide)
  have h2 : dist (cut [65, 65]) ((cut [65, 65, 65, 67]).take 2) = 0 := by kernel_rfl
  omega
theorem dw4 : decide (dist (cut [65]) (cut []) ≤ 1) = true := by kernel_rfl
theorem dw5 : decide (dist (cut [65, 67]) (cut [67, 65]) ≤ 1) = false := by kernel_rfl
theorem dw6 : apG [65, 67] 2 2 71 = [65, 67, 71] := by kernel_rfl
theorem dw7 : (edG [65]).length = 13 := by kernel_rfl
set_option maxRecDepth 100000 in
set_option maxHeartbeats 2000000 in
theorem wakes_any (w : World) (hT : TabE w) : Calls Tryd.prog 15 #[] w fun e w' => e = .returned (.bool true) ∧ Below w.heap.size w w' := by
  have f0 := fun va vb w => Within_any va vb [65, 67, 71, 84] [65, 71, 84] 1 w
  rw [dw0.1, dw0.2] at f0
  have f1 := fun va vb w => Within_any va vb [65, 67, 71, 84] [65, 71, 84] 0 w
  rw [dw1.1, dw1.2] at f1
  have f2 := fun va vb w => Distance_any va vb [65, 67, 71, 84] [65, 71, 84] w
  rw [dw2] at f2
  have f3 := fun va vb w => Prefix_any va vb [65, 65] [65, 65, 65, 67] w
  have f4 := fun va vb w => Near_any va vb [65] [] w
  rw [dw4] at f4
  have f5 := fun va vb w => Near_any va vb [65, 67] [67, 65] w
  rw [dw5] at f5
  have f6 := fun v w => Apply_any v [65, 67] 2 2 71 (by decide) w
  rw [dw6] at f6
  have f7 := fun v w => Edits_any v [65] (by decide) w
  rw [dw7] at f7
  have kc := fun (w : World) (C : Array Value) (n c : Nat) => Lib.run_convert_bytes_const (P := Tryd.prog) w 25 5 C n c Tryd.underlying25 Tryd.underlying5
  go_enter Tryd.func15, Tryd.ntmps15
  have hB0 := Below.refl w.heap.size w
  have hA := below_alloc w (.cells #[.int .u8 65, .int .u8 67, .int .u8 71, .int .u8 84] 5 (4, 5))
  have hq := Sl.new eB w [65, 67, 71, 84] #[eB 65, eB 67, eB 71, eB 84] 5 (4, 5) 4 4 rfl (Nat.le_refl _) rfl
  have hA2 := below_alloc (w.alloc (.cells #[.int .u8 65, .int .u8 67, .int .u8 71, .int .u8 84] 5 (4, 5))) (.cells #[.int .u8 65, .int .u8 71, .int .u8 84] 5 (3, 4))
  have hq2 := Sl.new eB (w.alloc (.cells #[.int .u8 65, .int .u8 67, .int .u8 71, .int .u8 84] 5 (4, 5))) [65, 71, 84] #[eB 65, eB 71, eB 84] 5 (3, 4) 3 3 rfl (Nat.le_refl _) rfl
  have hq := hq.next hA2
  have hA := below_trans hA hA2
  clear hA2
  have kc1 := kc (w.alloc (.cells #[.int .u8 65, .int .u8 67, .int .u8 71, .int .u8 84] 5 (4, 5))) #[.int .u8 65, .int .u8 71, .int .u8 84] 3 3
  simp only [World.size_alloc] at kc1
  go_wp2_with fail
  go_at_call 17
  refine (f0 _ _ _ (by simp only [World.size_alloc] at hq ⊢; exact hq) (by simp only [World.size_alloc] at hq2 ⊢; exact hq2)).mono ?_
  rintro e w1 ⟨rfl, hC⟩
  have hC := below_trans hA hC
  have hT := hT.below hC
  have hB0 := below_trans hB0 hC
  clear hC hA hq hq2 kc1 f0
  have hA := below_alloc w1 (.cells #[.int .u8 65, .int .u8 67, .int .u8 71, .int .u8 84] 5 (4, 5))
  have hq := Sl.new eB w1 [65, 67, 71, 84] #[eB 65, eB 67, eB 71, eB 84] 5 (4, 5) 4 4 rfl (Nat.le_refl _) rfl
  have hA2 := below_alloc (w1.alloc (.cells #[.int .u8 65, .int .u8 67, .int .u8 71, .int .u8 84] 5 (4, 5))) (.cells #[.int .u8 65, .int .u8 71, .int .u8 84] 5 (3, 4))
  have hq2 := Sl.new eB (w1.alloc (.cells #[.int .u8 65, .int .u8 67, .int .u8 71, .int .u8 84] 5 (4, 5))) [65, 71, 84] #[eB 65, eB 71, eB 84] 5 (3, 4) 3 3 rfl (Nat.le_refl _) rfl
  have hq := hq.next hA2
  have hA := below_trans hA hA2
  clear hA2
  have kc1 := kc (w1.alloc (.cells #[.int .u8 65, .int .u8 67, .int .u8 71, .int .u8 84] 5 (4, 5))) #[.int .u8 65, .int .u8 71, .int .u8 84] 3 3
  simp only [World.size_alloc] at kc1
  go_wp2_with fail
  go_at_call 17
  refine (f1 _ _ _ (by simp only [World.size_alloc] at hq ⊢; exact hq) (by simp only [World.size_alloc] at hq2 ⊢; exact hq2)).mono ?_
  rintro e w2 ⟨rfl, hC⟩
  have hC := below_trans hA hC
  have hT := hT.below hC
  have hB0 := below_trans hB0 hC
  clear hC hA hq hq2 kc1 f1
  have hA := below_alloc w2 (.cells #[.int .u8 65, .int .u8 67, .int .u8 71, .int .u8 84] 5 (4, 5))
  have hq := Sl.new eB w2 [65, 67, 71, 84] #[eB 65, eB 67, eB 71, eB 84] 5 (4, 5) 4 4 rfl (Nat.le_refl _) rfl
  have hA2 := below_alloc (w2.alloc (.cells #[.int .u8 65, .int .u8 67, .int .u8 71, .int .u8 84] 5 (4, 5))) (.cells #[.int .u8 65, .int .u8 71, .int .u8 84] 5 (3, 4))
  have hq2 := Sl.new eB (w2.alloc (.cells #[.int .u8 65, .int .u8 67, .int .u8 71, .int .u8 84] 5 (4, 5))) [65, 71, 84] #[eB 65, eB 71, eB 84] 5 (3, 4) 3 3 rfl (Nat.le_refl _) rfl
  have hq := hq.next hA2
  have hA := below_trans hA hA2
  clear hA2
  have kc1 := kc (w2.alloc (.cells #[.int .u8 65, .int .u8 67, .int .u8 71, .int .u8 84] 5 (4, 5))) #[.int .u8 65, .int .u8 71, .int .u8 84] 3 3
  simp only [World.size_alloc] at kc1
  go_wp2_with fail
  go_at_call 16
  refine (f2 _ _ _ (by simp only [World.size_alloc] at hq ⊢; exact hq) (by simp only [World.size_alloc] at hq2 ⊢; exact hq2)).mono ?_
  rintro e w3 ⟨rfl, hC⟩
  have hC := below_trans hA hC
  have hT := hT.below hC
  have hB0 := below_trans hB0 hC
  clear hC hA hq hq2 kc1 f2
  have hA := below_alloc w3 (.cells #[.int .u8 65, .int .u8 65] 5 (2, 3))
  have hq := Sl.new eB w3 [65, 65] #[eB 65, eB 65] 5 (2, 3) 2 2 rfl (Nat.le_refl _) rfl
  have hA2 := below_alloc (w3.alloc (.cells #[.int .u8 65, .int .u8 65] 5 (2, 3))) (.cells #[.int .u8 65, .int .u8 65, .int .u8 65, .int .u8 67] 5 (4, 5))
  have hq2 := Sl.new eB (w3.alloc (.cells #[.int .u8 65, .int .u8 65] 5 (2, 3))) [65, 65, 65, 67] #[eB 65, eB 65, eB 65, eB 67] 5 (4, 5) 4 4 rfl (Nat.le_refl _) rfl
  have hq := hq.next hA2
  have hA := below_trans hA hA2
  clear hA2
  have kc1 := kc (w3.alloc (.cells #[.int .u8 65, .int .u8 65] 5 (2, 3))) #[.int .u8 65, .int .u8 65, .int .u8 65, .int .u8 67] 4 4
  simp only [World.size_alloc] at kc1
  go_wp2_with fail
  go_at_call 22
  refine (f3 _ _ _ (by simp only [World.size_alloc] at hq ⊢; exact hq) (by simp only [World.size_alloc] at hq2 ⊢; exact hq2)).mono ?_
  rintro e w4 ⟨n3, rfl, hp, hC⟩
  have hC := below_trans hA hC
  have hT := hT.below hC
  have hB0 := below_trans hB0 hC
  clear hC hA hq hq2 kc1 f3
  obtain rfl := dw3 n3 hp
  clear hp
  have hA := below_alloc w4 (.cells #[.int .u8 65] 5 (1, 2))
  have hq := Sl.new eB w4 [65] #[eB 65] 5 (1, 2) 1 1 rfl (Nat.le_refl _) rfl
  go_wp2_with fail
  go_at_call 18
  refine (f4 _ _ _ (by simp only [World.size_alloc] at hq ⊢; exact hq) (sl_nil _ _)).mono ?_
  rintro e w5 ⟨rfl, hC⟩
  have hC := below_trans hA hC
  have hT := hT.below hC
  have hB0 := below_trans hB0 hC
  clear hC hA hq f4
  have hA := below_alloc w5 (.cells #[.int .u8 65, .int .u8 67] 5 (2, 3))
  have hq := Sl.new eB w5 [65, 67] #[eB 65, eB 67] 5 (2, 3) 2 2 rfl (Nat.le_refl _) rfl
  have hA2 := below_alloc (w5.alloc (.cells #[.int .u8 65, .int .u8 67] 5 (2, 3))) (.cells #[.int .u8 67, .int .u8 65] 5 (2, 3))
  have hq2 := Sl.new eB (w5.alloc (.cells #[.int .u8 65, .int .u8 67] 5 (2, 3))) [67, 65] #[eB 67, eB 65] 5 (2, 3) 2 2 rfl (Nat.le_refl _) rfl
  have hq := hq.next hA2
  have hA := below_trans hA hA2
  clear hA2
  have kc1 := kc (w5.alloc (.cells #[.int .u8 65, .int .u8 67] 5 (2, 3))) #[.int .u8 67, .int .u8 65] 2 2
  simp only [World.size_alloc] at kc1
  go_wp2_with fail
  go_at_call 18
  refine (f5 _ _ _ (by simp only [World.size_alloc] at hq ⊢; exact hq) (by simp only [World.size_alloc] at hq2 ⊢; exact hq2)).mono ?_
  rintro e w6 ⟨rfl, hC⟩
  have hC := below_trans hA hC
  have hT := hT.below hC
  have hB0 := below_trans hB0 hC
  clear hC hA hq hq2 kc1 f5
  have hA := below_alloc w6 (.cells #[.int .u8 65, .int .u8 67] 5 (2, 3))
  have hq := Sl.new eB w6 [65, 67] #[eB 65, eB 67] 5 (2, 3) 2 2 rfl (Nat.le_refl _) rfl
  go_wp2_with fail
  go_at_call 19
  refine (f6 _ _ (by simp only [World.size_alloc] at hq ⊢; exact hq)).mono ?_
  rintro e w7 ⟨u6, rfl, hu6, hC⟩
  have hC := below_trans hA hC
  have hT := hT.below hC
  have hB0 := below_trans hB0 hC
  clear hC hA hq f6
  have g6 := str_of hu6.sl
  clear hu6
  have hA := below_alloc w7 (.cells #[.int .u8 65] 5 (1, 2))
  have hq := Sl.new eB w7 [65] #[eB 65] 5 (1, 2) 1 1 rfl (Nat.le_refl _) rfl
  go_wp2_with fail
  go_at_call 20
  refine (f7 _ _ (by simp only [World.size_alloc] at hq ⊢; exact hq) (hT.below hA)).mono ?_
  rintro e w8 ⟨u7, rfl, hu7, hC⟩
  have hC := below_trans hA hC
  have hT := hT.below hC
  have hB0 := below_trans hB0 hC
  clear hC hA hq f7
  obtain ⟨g7, c7, rfl⟩ := ownsRow_succ hu7
  clear hu7
  go_wp2_with fail
  go_ret
  exact ⟨rfl, hB0⟩
end Go.Proofs.YtapbfjbjbcpiiaaDoor
