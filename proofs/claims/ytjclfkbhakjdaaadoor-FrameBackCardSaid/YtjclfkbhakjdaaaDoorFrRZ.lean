import Derived.Deep.RegionHeld3
import Derived.Test.YtjclfkbhakjdaaaDoorFrQZ
namespace Go.Proofs.YtjclfkbhakjdaaaDoor.Sh
open Go.RowKit Go.Shelf
attribute [local go_sem] Oper.semAt_some run_store_func
set_option maxRecDepth 100000 in
theorem RLong_is (k : Nat) (hk : k < 5) (w : World) :
    Calls Tryd.prog 46 #[.int .i64 (pay k + 3)] w fun e w' => e = .returned (.int .i64 (bodyK k)) ∧ w = w' := by
  rcases (show k = 0 ∨ k = 1 ∨ k = 2 ∨ k = 3 ∨ k = 4 by omega) with rfl | rfl | rfl | rfl | rfl
  all_goals
   simp only [pay, bodyK, Int.cast_ofNat_Int, Int.reduceMul, Int.reduceAdd]
   go_enter Tryd.func46, Tryd.ntmps46
   go_wp2
   go_ret
   exact ⟨rfl, rfl⟩
set_option maxRecDepth 100000 in
theorem RWidth_26 (w : World) : Calls Tryd.prog 47 #[.int .i64 26] w fun e w' => e = .returned (.int .i64 6) ∧ w = w' := by
 go_enter Tryd.func47, Tryd.ntmps47
 go_wp2
 go_loop [3] (fun i => ∃ u : Nat, u ≤ 2 ∧ i = .int .i64 (2 * u + 2)) (fun i => 20 - (intOf i).toNat)
 case atStart => exact ⟨0, by omega, rfl⟩
 case round =>
  obtain ⟨u, hu, rfl⟩ := hrel
  rcases (show u = 0 ∨ u = 1 ∨ u = 2 by omega) with rfl | rfl | rfl
  all_goals simp only [Int.cast_ofNat_Int, Int.reduceMul, Int.reduceAdd]
  · go_wp2
    go_round
    case rel => exact ⟨1, by omega, rfl⟩
    case measure => simp [intOf]
  · go_wp2
    go_round
    case rel => exact ⟨2, by omega, rfl⟩
    case measure => simp [intOf]
  · go_wp2
    go_ret
    exact ⟨rfl, rfl⟩
set_option maxRecDepth 100000 in
theorem RWidth_52 (w : World) : Calls Tryd.prog 47 #[.int .i64 52] w fun e w' => e = .returned (.int .i64 6) ∧ w = w' := by
 go_enter Tryd.func47, Tryd.ntmps47
 go_wp2
 go_loop [3] (fun i => ∃ u : Nat, u ≤ 2 ∧ i = .int .i64 (2 * u + 2)) (fun i => 20 - (intOf i).toNat)
 case atStart => exact ⟨0, by omega, rfl⟩
 case round =>
  obtain ⟨u, hu, rfl⟩ := hrel
  rcases (show u = 0 ∨ u = 1 ∨ u = 2 by omega) with rfl | rfl | rfl
  all_goals simp only [Int.cast_ofNat_Int, Int.reduceMul, Int.reduceAdd]
  · go_wp2
    go_round
    case rel => exact ⟨1, by omega, rfl⟩
    case measure => simp [intOf]
  · go_wp2
    go_round
    case rel => exact ⟨2, by omega, rfl⟩
    case measure => simp [intOf]
  · go_wp2
    go_ret
    exact ⟨rfl, rfl⟩
set_option maxRecDepth 100000 in
theorem RWidth_78 (w : World) : Calls Tryd.prog 47 #[.int .i64 78] w fun e w' => e = .returned (.int .i64 8) ∧ w = w' := by
 go_enter Tryd.func47, Tryd.ntmps47
 go_wp2
 go_loop [3] (fun i => ∃ u : Nat, u ≤ 3 ∧ i = .int .i64 (2 * u + 2)) (fun i => 20 - (intOf i).toNat)
 case atStart => exact ⟨0, by omega, rfl⟩
 case round =>
  obtain ⟨u, hu, rfl⟩ := hrel
  rcases (show u = 0 ∨ u = 1 ∨ u = 2 ∨ u = 3 by omega) with rfl | rfl | rfl | rfl
  all_goals simp only [Int.cast_ofNat_Int, Int.reduceMul, Int.reduceAdd]
  · go_wp2
    go_round
    case rel => exact ⟨1, by omega, rfl⟩
    case measure => simp [intOf]
  · go_wp2
    go_round
    case rel => exact ⟨2, by omega, rfl⟩
    case measure => simp [intOf]
  · go_wp2
    go_round
    case rel => exact ⟨3, by omega, rfl⟩
    case measure => simp [intOf]
  · go_wp2
    go_ret
    exact ⟨rfl, rfl⟩
set_option maxRecDepth 100000 in
theorem RWidth_104 (w : World) : Calls Tryd.prog 47 #[.int .i64 104] w fun e w' => e = .returned (.int .i64 8) ∧ w = w' := by
 go_enter Tryd.func47, Tryd.ntmps47
 go_wp2
 go_loop [3] (fun i => ∃ u : Nat, u ≤ 3 ∧ i = .int .i64 (2 * u + 2)) (fun i => 20 - (intOf i).toNat)
 case atStart => exact ⟨0, by omega, rfl⟩
 case round =>
  obtain ⟨u, hu, rfl⟩ := hrel
  rcases (show u = 0 ∨ u = 1 ∨ u = 2 ∨ u = 3 by omega) with rfl | rfl | rfl | rfl
  all_goals simp only [Int.cast_ofNat_Int, Int.reduceMul, Int.reduceAdd]
  · go_wp2
    go_round
    case rel => exact ⟨1, by omega, rfl⟩
    case measure => simp [intOf]
  · go_wp2
    go_round
    case rel => exact ⟨2, by omega, rfl⟩
    case measure => simp [intOf]
  · go_wp2
    go_round
    case rel => exact ⟨3, by omega, rfl⟩
    case measure => simp [intOf]
  · go_wp2
    go_ret
    exact ⟨rfl, rfl⟩
set_option maxRecDepth 100000 in
theorem RWidth_130 (w : World) : Calls Tryd.prog 47 #[.int .i64 130] w fun e w' => e = .returned (.int .i64 8) ∧ w = w' := by
 go_enter Tryd.func47, Tryd.ntmps47
 go_wp2
 go_loop [3] (fun i => ∃ u : Nat, u ≤ 3 ∧ i = .int .i64 (2 * u + 2)) (fun i => 20 - (intOf i).toNat)
 case atStart => exact ⟨0, by omega, rfl⟩
 case round =>
  obtain ⟨u, hu, rfl⟩ := hrel
  rcases (show u = 0 ∨ u = 1 ∨ u = 2 ∨ u = 3 by omega) with rfl | rfl | rfl | rfl
  all_goals simp only [Int.cast_ofNat_Int, Int.reduceMul, Int.reduceAdd]
  · go_wp2
    go_round
    case rel => exact ⟨1, by omega, rfl⟩
    case measure => simp [intOf]
  · go_wp2
    go_round
    case rel => exact ⟨2, by omega, rfl⟩
    case measure => simp [intOf]
  · go_wp2
    go_round
    case rel => exact ⟨3, by omega, rfl⟩
    case measure => simp [intOf]
  · go_wp2
    go_ret
    exact ⟨rfl, rfl⟩
theorem RWidth_is (k : Nat) (hk : k < 5) (w : World) :
    Calls Tryd.prog 47 #[.int .i64 (bodyK k)] w fun e w' => e = .returned (.int .i64 (indexK k)) ∧ w = w' := by
  rcases (show k = 0 ∨ k = 1 ∨ k = 2 ∨ k = 3 ∨ k = 4 by omega) with rfl | rfl | rfl | rfl | rfl
  · exact RWidth_26 w
  · exact RWidth_52 w
  · exact RWidth_78 w
  · exact RWidth_104 w
  · exact RWidth_130 w
set_option maxRecDepth 100000 in
theorem RBody_yes (k : Nat) (hk : k < 5) (D R : Int) (hr : restOk D R) (w : World) :
    Calls Tryd.prog 28 #[shV (pay k) D R] w fun e w' => e = .returned (.int .i64 (bodyK k)) ∧ Below w.heap.size w w' := by
  have hA := below_alloc w (.cells #[.int .i64 (pay k), .int .i64 D, .int .i64 R] 23)
  have hI := InBox.new w (pay k) D R 23
  have cC := fun w => RefCheck_yes (pay k) D R (may_at hk hr) w
  have hl := fun w => RLong_is k hk w
  have p1 : 0 ≤ pay k := by unfold pay; omega
  have p2 : pay k ≤ 22 := by unfold pay; omega
  generalize pay k = P at *
  generalize bodyK k = x at *
  go_enter Tryd.func28, Tryd.ntmps28
  go_wp2_with fail
  go_at_call 25
  refine (cC _).mono ?_
  rintro e w1 ⟨rfl, hB1⟩
  obtain ⟨x0, x1, x2⟩ := hI.below hB1 hI.lt
  go_wp2_with (go_at_call 46; refine (hl _).mono ?_; rintro e w' ⟨rfl, rfl⟩)
  go_ret
  exact ⟨rfl, below_trans hA hB1⟩
set_option maxRecDepth 100000 in
theorem RIndex_yes (k : Nat) (hk : k < 5) (D R : Int) (hr : restOk D R) (w : World) :
    Calls Tryd.prog 29 #[shV (pay k) D R] w fun e w' => e = .returned (.int .i64 (indexK k)) ∧ Below w.heap.size w w' := by
  have hA := below_alloc w (.cells #[.int .i64 (pay k), .int .i64 D, .int .i64 R] 23)
  have hI := InBox.new w (pay k) D R 23
  have cC := fun w => RefCheck_yes (pay k) D R (may_at hk hr) w
  have h1 := fun w => RBody_yes k hk D R hr w
  have h2 := fun w => RWidth_is k hk w
  generalize pay k = P at *
  generalize bodyK k = x at *
  generalize indexK k = y at *
  go_enter Tryd.func29, Tryd.ntmps29
  go_wp2_with fail
  go_at_call 25
  refine (cC _).mono ?_
  rintro e w1 ⟨rfl, hB1⟩
  obtain ⟨x0, x1, x2⟩ := hI.below hB1 hI.lt
  go_wp2_with fail
  go_at_call 28
  refine (h1 _).mono ?_
  rintro e w2 ⟨rfl, hB2⟩
  go_wp2_with (go_at_call 47; refine (h2 _).mono ?_; rintro e w' ⟨rfl, rfl⟩)
  go_ret
  exact ⟨rfl, below_trans hA (below_trans hB1 hB2)⟩
set_option maxRecDepth 100000 in
set_option maxHeartbeats 1000000 in
theorem RInner_yes (k : Nat) (hk : k < 5) (D R : Int) (hr : restOk D R) (w : World) :
    Calls Tryd.prog 11 #[shV (pay k) D R] w fun e w' => e = .returned (.int .i64 (innerK k)) ∧ Below w.heap.size w w' := by
  have hA := below_alloc w (.cells #[.int .i64 (pay k), .int .i64 D, .int .i64 R] 23)
  have hI := InBox.new w (pay k) D R 23
  have cC := fun w => RefCheck_yes (pay k) D R (may_at hk hr) w
  have h1 := fun w => RBody_yes k hk D R hr w
  have h2 := fun w => RIndex_yes k hk D R hr w
  have r1 : 0 ≤ bodyK k ∧ bodyK k ≤ 200 := by unfold bodyK; omega
  have r2 : 0 ≤ indexK k ∧ indexK k ≤ 8 := by unfold indexK; split <;> omega
  obtain ⟨r1, r1'⟩ := r1
  obtain ⟨r2, r2'⟩ := r2
  rw [show innerK k = bodyK k + indexK k from rfl]
  generalize pay k = P at *
  generalize bodyK k = x at *
  generalize indexK k = y at *
  have e1 : IntKind.i64.wrap (x + y) = x + y := IntWalk.i64_in _ (by omega)
  go_enter Tryd.func11, Tryd.ntmps11
  go_wp2_with fail
  go_at_call 25
  refine (cC _).mono ?_
  rintro e w1 ⟨rfl, hB1⟩
  have hA1 := below_trans hA hB1
  have hI1 := hI.below hB1 hI.lt
  have hlt := hI1.lt
  obtain ⟨x0, x1, x2⟩ := hI1
  clear cC hI hA hB1
  go_wp2_with fail
  go_region_held3 (fun w' => w'.cell? ⟨w.heap.size, 0, none⟩ = some (.int .i64 P) ∧ w'.cell? ⟨w.heap.size, 1, none⟩ = some (.int .i64 D) ∧ w'.cell? ⟨w.heap.size, 2, none⟩ = some (.int .i64 R) ∧ Below w1.heap.size w1 w')
   (first | exact keep3 hlt (by assumption) (by assumption) | exact keep3 hlt (by assumption) (below_drew _) | exact ⟨x0, x1, x2, below_drew _⟩ | exact ⟨x0, x1, x2, Below.refl _ _⟩)
   (first
    | (go_at_call 28; refine (h1 _).mono ?_; rintro e w' ⟨rfl, hB⟩)
    | (go_at_call 29; refine (h2 _).mono ?_; rintro e w' ⟨rfl, hB⟩))
  all_goals
   rename_i hH
   have hBw := below_trans hA1 hH.2.2.2
   clear hH h1 h2
   go_wp2
   go_ret
   exact ⟨rfl, hBw⟩
end Go.Proofs.YtjclfkbhakjdaaaDoor.Sh
