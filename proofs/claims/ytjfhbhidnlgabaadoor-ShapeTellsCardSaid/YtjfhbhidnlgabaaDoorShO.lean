/- Contracts of the document's own answers for shapes: Body to Strand. -/
import Derived.Test.YtjfhbhidnlgabaaDoorShS
namespace Go.Proofs.YtjfhbhidnlgabaaDoor
open Go.RowKit Go.Shelf
attribute [local go_sem] Oper.semAt_some run_store_func

set_option maxRecDepth 100000 in
theorem RBody_yes (k : Nat) (hk : k < 5) (D R : Int) (hr : restOk D R) (w : World) :
    Calls Tryd.prog 10 #[shV (pay k) D R] w fun e w' => e = .returned (.int .i64 (bodyK k)) ∧ Below w.heap.size w w' := by
  have hA := below_alloc w (.cells #[.int .i64 (pay k), .int .i64 D, .int .i64 R] 23)
  have hI := InBox.new w (pay k) D R 23
  have cC := fun w => RefCheck_yes (pay k) D R (may_at hk hr) w
  have hl := fun w => RLong_is k hk w
  have p1 : 0 ≤ pay k := by unfold pay; omega
  have p2 : pay k ≤ 22 := by unfold pay; omega
  generalize pay k = P at *
  generalize bodyK k = x at *
  go_enter Tryd.func10, Tryd.ntmps10
  go_wp2_with fail
  go_at_call 8
  refine (cC _).mono ?_
  rintro e w1 ⟨rfl, hB1⟩
  obtain ⟨x0, x1, x2⟩ := hI.below hB1 hI.lt
  go_wp2_with (go_at_call 31; refine (hl _).mono ?_; rintro e w' ⟨rfl, rfl⟩)
  go_ret
  exact ⟨rfl, below_trans hA hB1⟩

set_option maxRecDepth 100000 in
theorem RBody_no (P D R : Int) (h : ¬ May P D R) (w : World) :
    Calls Tryd.prog 10 #[shV P D R] w fun e w' => e = .returned (.int .i64 (-1)) ∧ Below w.heap.size w w' := by
  have hA := below_alloc w (.cells #[.int .i64 P, .int .i64 D, .int .i64 R] 23)
  have cC := fun w => RefCheck_no P D R h w
  clear h
  go_enter Tryd.func10, Tryd.ntmps10
  go_wp2_with fail
  go_at_call 8
  refine (cC _).mono ?_
  rintro e w1 ⟨rfl, hB1⟩
  go_wp2
  go_ret
  exact ⟨rfl, below_trans hA hB1⟩

set_option maxRecDepth 100000 in
theorem RIndex_yes (k : Nat) (hk : k < 5) (D R : Int) (hr : restOk D R) (w : World) :
    Calls Tryd.prog 12 #[shV (pay k) D R] w fun e w' => e = .returned (.int .i64 (indexK k)) ∧ Below w.heap.size w w' := by
  have hA := below_alloc w (.cells #[.int .i64 (pay k), .int .i64 D, .int .i64 R] 23)
  have hI := InBox.new w (pay k) D R 23
  have cC := fun w => RefCheck_yes (pay k) D R (may_at hk hr) w
  have h1 := fun w => RBody_yes k hk D R hr w
  have h2 := fun w => RWidth_is k hk w
  generalize pay k = P at *
  generalize bodyK k = x at *
  generalize indexK k = y at *
  go_enter Tryd.func12, Tryd.ntmps12
  go_wp2_with fail
  go_at_call 8
  refine (cC _).mono ?_
  rintro e w1 ⟨rfl, hB1⟩
  obtain ⟨x0, x1, x2⟩ := hI.below hB1 hI.lt
  go_wp2_with fail
  go_at_call 10
  refine (h1 _).mono ?_
  rintro e w2 ⟨rfl, hB2⟩
  go_wp2_with (go_at_call 34; refine (h2 _).mono ?_; rintro e w' ⟨rfl, rfl⟩)
  go_ret
  exact ⟨rfl, below_trans hA (below_trans hB1 hB2)⟩

set_option maxRecDepth 100000 in
theorem RIndex_no (P D R : Int) (h : ¬ May P D R) (w : World) :
    Calls Tryd.prog 12 #[shV P D R] w fun e w' => e = .returned (.int .i64 (-1)) ∧ Below w.heap.size w w' := by
  have hA := below_alloc w (.cells #[.int .i64 P, .int .i64 D, .int .i64 R] 23)
  have cC := fun w => RefCheck_no P D R h w
  clear h
  go_enter Tryd.func12, Tryd.ntmps12
  go_wp2_with fail
  go_at_call 8
  refine (cC _).mono ?_
  rintro e w1 ⟨rfl, hB1⟩
  go_wp2
  go_ret
  exact ⟨rfl, below_trans hA hB1⟩

set_option maxRecDepth 100000 in
set_option maxHeartbeats 1000000 in
theorem RInner_yes (k : Nat) (hk : k < 5) (D R : Int) (hr : restOk D R) (w : World) :
    Calls Tryd.prog 14 #[shV (pay k) D R] w fun e w' => e = .returned (.int .i64 (innerK k)) ∧ Below w.heap.size w w' := by
  have hA := below_alloc w (.cells #[.int .i64 (pay k), .int .i64 D, .int .i64 R] 23)
  have hI := InBox.new w (pay k) D R 23
  have cC := fun w => RefCheck_yes (pay k) D R (may_at hk hr) w
  have h1 := fun w => RBody_yes k hk D R hr w
  have h2 := fun w => RIndex_yes k hk D R hr w
  have r1 : 0 ≤ bodyK k ∧ bodyK k ≤ 200 := by unfold bodyK; omega
  have r2 : 0 ≤ indexK k ∧ indexK k ≤ 8 := by unfold indexK; split <;> omega
  obtain ⟨r1, r1'⟩ := r1
  obtain ⟨r2, r2'⟩ := r2
  rw [show innerK k = bodyK k + indexK k from rfl]
  generalize pay k = P at *
  generalize bodyK k = x at *
  generalize indexK k = y at *
  have e1 : IntKind.i64.wrap (x + y) = x + y := IntWalk.i64_in _ (by omega)
  go_enter Tryd.func14, Tryd.ntmps14
  go_wp2_with fail
  go_at_call 8
  refine (cC _).mono ?_
  rintro e w1 ⟨rfl, hB1⟩
  have hA1 := below_trans hA hB1
  have hI1 := hI.below hB1 hI.lt
  have hlt := hI1.lt
  obtain ⟨x0, x1, x2⟩ := hI1
  clear cC hI hA hB1
  go_wp2_with fail
  go_region_held3 (fun w' => w'.cell? ⟨w.heap.size, 0, none⟩ = some (.int .i64 P) ∧ w'.cell? ⟨w.heap.size, 1, none⟩ = some (.int .i64 D) ∧ w'.cell? ⟨w.heap.size, 2, none⟩ = some (.int .i64 R) ∧ Below w1.heap.size w1 w')
    (first | exact keep3 hlt (by assumption) (by assumption) | exact keep3 hlt (by assumption) (below_drew _) | exact ⟨x0, x1, x2, below_drew _⟩ | exact ⟨x0, x1, x2, Below.refl _ _⟩)
    (first
      | (go_at_call 10; refine (h1 _).mono ?_; rintro e w' ⟨rfl, hB⟩)
      | (go_at_call 12; refine (h2 _).mono ?_; rintro e w' ⟨rfl, hB⟩))
  all_goals
    rename_i hH
    have hBw := below_trans hA1 hH.2.2.2
    clear hH h1 h2
    go_wp2
    go_ret
    exact ⟨rfl, hBw⟩

set_option maxRecDepth 100000 in
theorem RInner_no (P D R : Int) (h : ¬ May P D R) (w : World) :
    Calls Tryd.prog 14 #[shV P D R] w fun e w' => e = .returned (.int .i64 (-1)) ∧ Below w.heap.size w w' := by
  have hA := below_alloc w (.cells #[.int .i64 P, .int .i64 D, .int .i64 R] 23)
  have cC := fun w => RefCheck_no P D R h w
  clear h
  go_enter Tryd.func14, Tryd.ntmps14
  go_wp2_with fail
  go_at_call 8
  refine (cC _).mono ?_
  rintro e w1 ⟨rfl, hB1⟩
  go_wp2
  go_ret
  exact ⟨rfl, below_trans hA hB1⟩

set_option maxRecDepth 100000 in
theorem RField_yes (k : Nat) (hk : k < 5) (D R : Int) (hr : restOk D R) (w : World) :
    Calls Tryd.prog 16 #[shV (pay k) D R] w fun e w' => e = .returned (.int .i64 (fieldK k)) ∧ Below w.heap.size w w' := by
  have hA := below_alloc w (.cells #[.int .i64 (pay k), .int .i64 D, .int .i64 R] 23)
  have hI := InBox.new w (pay k) D R 23
  have cC := fun w => RefCheck_yes (pay k) D R (may_at hk hr) w
  have h1 := fun w => RInner_yes k hk D R hr w
  have h2 := fun w => RSLong_is k hk w
  generalize pay k = P at *
  generalize innerK k = x at *
  generalize fieldK k = y at *
  go_enter Tryd.func16, Tryd.ntmps16
  go_wp2_with fail
  go_at_call 8
  refine (cC _).mono ?_
  rintro e w1 ⟨rfl, hB1⟩
  obtain ⟨x0, x1, x2⟩ := hI.below hB1 hI.lt
  go_wp2_with fail
  go_at_call 14
  refine (h1 _).mono ?_
  rintro e w2 ⟨rfl, hB2⟩
  go_wp2_with (go_at_call 38; refine (h2 _).mono ?_; rintro e w' ⟨rfl, rfl⟩)
  go_ret
  exact ⟨rfl, below_trans hA (below_trans hB1 hB2)⟩

set_option maxRecDepth 100000 in
theorem RField_no (P D R : Int) (h : ¬ May P D R) (w : World) :
    Calls Tryd.prog 16 #[shV P D R] w fun e w' => e = .returned (.int .i64 (-1)) ∧ Below w.heap.size w w' := by
  have hA := below_alloc w (.cells #[.int .i64 P, .int .i64 D, .int .i64 R] 23)
  have cC := fun w => RefCheck_no P D R h w
  clear h
  go_enter Tryd.func16, Tryd.ntmps16
  go_wp2_with fail
  go_at_call 8
  refine (cC _).mono ?_
  rintro e w1 ⟨rfl, hB1⟩
  go_wp2
  go_ret
  exact ⟨rfl, below_trans hA hB1⟩

set_option maxRecDepth 100000 in
set_option maxHeartbeats 1000000 in
theorem RWord_yes (k : Nat) (hk : k < 5) (D R : Int) (hr : restOk D R) (w : World) :
    Calls Tryd.prog 18 #[shV (pay k) D R] w fun e w' => e = .returned (.int .i64 (wordK k)) ∧ Below w.heap.size w w' := by
  have hA := below_alloc w (.cells #[.int .i64 (pay k), .int .i64 D, .int .i64 R] 23)
  have hI := InBox.new w (pay k) D R 23
  have cC := fun w => RefCheck_yes (pay k) D R (may_at hk hr) w
  have h1 := fun w => RInner_yes k hk D R hr w
  have h2 := fun w => RField_yes k hk D R hr w
  obtain ⟨r1, r1'⟩ := innerK_range k hk
  obtain ⟨r2, r2'⟩ := fieldK_range k
  rw [show wordK k = innerK k + 1 + 3 * fieldK k from rfl]
  generalize pay k = P at *
  generalize innerK k = x at *
  generalize fieldK k = y at *
  have e1 : IntKind.i64.wrap (x + 1) = x + 1 := IntWalk.i64_in _ (by omega)
  have e2 : IntKind.i64.wrap (3 * y) = 3 * y := IntWalk.i64_in _ (by omega)
  have e3 : IntKind.i64.wrap (x + 1 + 3 * y) = x + 1 + 3 * y := IntWalk.i64_in _ (by omega)
  go_enter Tryd.func18, Tryd.ntmps18
  go_wp2_with fail
  go_at_call 8
  refine (cC _).mono ?_
  rintro e w1 ⟨rfl, hB1⟩
  have hA1 := below_trans hA hB1
  have hI1 := hI.below hB1 hI.lt
  have hlt := hI1.lt
  obtain ⟨x0, x1, x2⟩ := hI1
  clear cC hI hA hB1
  go_wp2_with fail
  go_region_held3 (fun w' => w'.cell? ⟨w.heap.size, 0, none⟩ = some (.int .i64 P) ∧ w'.cell? ⟨w.heap.size, 1, none⟩ = some (.int .i64 D) ∧ w'.cell? ⟨w.heap.size, 2, none⟩ = some (.int .i64 R) ∧ Below w1.heap.size w1 w')
    (first | exact keep3 hlt (by assumption) (by assumption) | exact keep3 hlt (by assumption) (below_drew _) | exact ⟨x0, x1, x2, below_drew _⟩ | exact ⟨x0, x1, x2, Below.refl _ _⟩)
    (first
      | (go_at_call 14; refine (h1 _).mono ?_; rintro e w' ⟨rfl, hB⟩)
      | (go_at_call 16; refine (h2 _).mono ?_; rintro e w' ⟨rfl, hB⟩))
  all_goals
    rename_i hH
    have hBw := below_trans hA1 hH.2.2.2
    clear hH h1 h2
    go_wp2
    go_ret
    exact ⟨rfl, hBw⟩

set_option maxRecDepth 100000 in
theorem RWord_no (P D R : Int) (h : ¬ May P D R) (w : World) :
    Calls Tryd.prog 18 #[shV P D R] w fun e w' => e = .returned (.int .i64 (-1)) ∧ Below w.heap.size w w' := by
  have hA := below_alloc w (.cells #[.int .i64 P, .int .i64 D, .int .i64 R] 23)
  have cC := fun w => RefCheck_no P D R h w
  clear h
  go_enter Tryd.func18, Tryd.ntmps18
  go_wp2_with fail
  go_at_call 8
  refine (cC _).mono ?_
  rintro e w1 ⟨rfl, hB1⟩
  go_wp2
  go_ret
  exact ⟨rfl, below_trans hA hB1⟩

set_option maxRecDepth 100000 in
theorem RStrand_yes (k : Nat) (hk : k < 5) (D R : Int) (hr : restOk D R) (w : World) :
    Calls Tryd.prog 20 #[shV (pay k) D R] w fun e w' => e = .returned (.int .i64 (strandK k)) ∧ Below w.heap.size w w' := by
  have hA := below_alloc w (.cells #[.int .i64 (pay k), .int .i64 D, .int .i64 R] 23)
  have hI := InBox.new w (pay k) D R 23
  have cC := fun w => RefCheck_yes (pay k) D R (may_at hk hr) w
  have h1 := fun w => RWord_yes k hk D R hr w
  have r1 : 0 ≤ wordK k ∧ wordK k ≤ 400 := by have := innerK_range k hk; have := fieldK_range k; unfold wordK; omega
  obtain ⟨r1, r2⟩ := r1
  rw [show strandK k = wordK k + 32 from rfl]
  generalize pay k = P at *
  generalize wordK k = x at *
  go_enter Tryd.func20, Tryd.ntmps20
  go_wp2_with fail
  go_at_call 8
  refine (cC _).mono ?_
  rintro e w1 ⟨rfl, hB1⟩
  obtain ⟨x0, x1, x2⟩ := hI.below hB1 hI.lt
  go_wp2_with fail
  go_at_call 18
  refine (h1 _).mono ?_
  rintro e w2 ⟨rfl, hB2⟩
  go_wp2
  go_ret
  exact ⟨rfl, below_trans hA (below_trans hB1 hB2)⟩

set_option maxRecDepth 100000 in
theorem RStrand_no (P D R : Int) (h : ¬ May P D R) (w : World) :
    Calls Tryd.prog 20 #[shV P D R] w fun e w' => e = .returned (.int .i64 (-1)) ∧ Below w.heap.size w w' := by
  have hA := below_alloc w (.cells #[.int .i64 P, .int .i64 D, .int .i64 R] 23)
  have cC := fun w => RefCheck_no P D R h w
  clear h
  go_enter Tryd.func20, Tryd.ntmps20
  go_wp2_with fail
  go_at_call 8
  refine (cC _).mono ?_
  rintro e w1 ⟨rfl, hB1⟩
  go_wp2
  go_ret
  exact ⟨rfl, below_trans hA hB1⟩
end Go.Proofs.YtjfhbhidnlgabaaDoor
