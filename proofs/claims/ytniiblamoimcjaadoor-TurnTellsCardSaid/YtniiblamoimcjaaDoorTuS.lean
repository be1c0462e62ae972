/- Contracts of helixref09.Trit, Turn, Back. -/
import Derived.Test.YtniiblamoimcjaaDoorTuR
namespace Go.Proofs.YtniiblamoimcjaaDoor
open Go.RowKit Go.Shelf
attribute [local go_sem] Oper.semAt_some

theorem RBehind_is (a t c : UInt8) (h : behG a t = .ok c) (w : World) : Calls Tryd.prog 10 #[eB a, eB t] w fun e w' => e = .returned (.tuple #[eB c, .int .i64 0]) ∧ w = w' := by
  have := RBehind_any a t w
  rw [h] at this
  exact this
theorem RBehind_not (a t : UInt8) (n : Int) (h : behG a t = .error n) (w : World) : Calls Tryd.prog 10 #[eB a, eB t] w fun e w' => e = .returned (.tuple #[eB 0, .int .i64 n]) ∧ w = w' := by
  have := RBehind_any a t w
  rw [h] at this
  exact this

/-- Which of three a byte is. -/
def whichG (x0 x1 x2 c : UInt8) : Except Int UInt8 := if x0 = c then .ok 0 else if x1 = c then .ok 1 else if x2 = c then .ok 2 else .error 90
set_option maxRecDepth 100000 in
set_option maxHeartbeats 8000000 in
theorem RTrit_walk (a c x0 x1 x2 : UInt8) (k1 k2 : Int) (hC : ∀ w, Calls Tryd.prog 23 #[eB a] w fun e w' => e = .returned (.tuple #[.int .i64 k1, .int .i64 0]) ∧ w = w')
    (hD : ∀ w, Calls Tryd.prog 23 #[eB c] w fun e w' => e = .returned (.tuple #[.int .i64 k2, .int .i64 0]) ∧ w = w')
    (b0 : ∀ w, Calls Tryd.prog 10 #[eB a, eB 0] w fun e w' => e = .returned (.tuple #[eB x0, .int .i64 0]) ∧ w = w')
    (b1 : ∀ w, Calls Tryd.prog 10 #[eB a, eB 1] w fun e w' => e = .returned (.tuple #[eB x1, .int .i64 0]) ∧ w = w')
    (b2 : ∀ w, Calls Tryd.prog 10 #[eB a, eB 2] w fun e w' => e = .returned (.tuple #[eB x2, .int .i64 0]) ∧ w = w') (w : World) :
    Calls Tryd.prog 12 #[eB a, eB c] w fun e w' => e = .returned (outG (whichG x0 x1 x2 c)) ∧ w = w' := by
  by_cases e0 : x0 = c
  · have g0 : ((x0.toNat : Int) == (c.toNat : Int)) = true := by rw [e0]; simp
    rw [whichG, if_pos e0]
    clear e0
    go_enter Tryd.func12, Tryd.ntmps12
    go_wp2_with (go_at_call 23; first | (with_reducible refine (hC _).mono ?_; rintro e w' ⟨rfl, rfl⟩) | (with_reducible refine (hD _).mono ?_; rintro e w' ⟨rfl, rfl⟩))
    refine wp_loop_rounds 5 ?_
    rw [rounds_succ]
    go_wp2_with (go_at_call 10; refine (b0 _).mono ?_; rintro e w' ⟨rfl, rfl⟩)
    go_ret2
    exact ⟨rfl, rfl⟩
  have g0 : ((x0.toNat : Int) == (c.toNat : Int)) = false := byte_ne (fun e => e0 e.symm)
  rw [whichG, if_neg e0]
  clear e0
  by_cases e1 : x1 = c
  · have g1 : ((x1.toNat : Int) == (c.toNat : Int)) = true := by rw [e1]; simp
    rw [if_pos e1]
    clear e1
    go_enter Tryd.func12, Tryd.ntmps12
    go_wp2_with (go_at_call 23; first | (with_reducible refine (hC _).mono ?_; rintro e w' ⟨rfl, rfl⟩) | (with_reducible refine (hD _).mono ?_; rintro e w' ⟨rfl, rfl⟩))
    refine wp_loop_rounds 5 ?_
    rw [rounds_succ]
    go_wp2_with (go_at_call 10; refine (b0 _).mono ?_; rintro e w' ⟨rfl, rfl⟩)
    rw [rounds_succ]
    go_wp2_with (go_at_call 10; refine (b1 _).mono ?_; rintro e w' ⟨rfl, rfl⟩)
    go_ret2
    exact ⟨rfl, rfl⟩
  have g1 : ((x1.toNat : Int) == (c.toNat : Int)) = false := byte_ne (fun e => e1 e.symm)
  rw [if_neg e1]
  clear e1
  by_cases e2 : x2 = c
  · have g2 : ((x2.toNat : Int) == (c.toNat : Int)) = true := by rw [e2]; simp
    rw [if_pos e2]
    clear e2
    go_enter Tryd.func12, Tryd.ntmps12
    go_wp2_with (go_at_call 23; first | (with_reducible refine (hC _).mono ?_; rintro e w' ⟨rfl, rfl⟩) | (with_reducible refine (hD _).mono ?_; rintro e w' ⟨rfl, rfl⟩))
    refine wp_loop_rounds 5 ?_
    rw [rounds_succ]
    go_wp2_with (go_at_call 10; refine (b0 _).mono ?_; rintro e w' ⟨rfl, rfl⟩)
    rw [rounds_succ]
    go_wp2_with (go_at_call 10; refine (b1 _).mono ?_; rintro e w' ⟨rfl, rfl⟩)
    rw [rounds_succ]
    go_wp2_with (go_at_call 10; refine (b2 _).mono ?_; rintro e w' ⟨rfl, rfl⟩)
    go_ret2
    exact ⟨rfl, rfl⟩
  have g2 : ((x2.toNat : Int) == (c.toNat : Int)) = false := byte_ne (fun e => e2 e.symm)
  rw [if_neg e2]
  clear e2
  go_enter Tryd.func12, Tryd.ntmps12
  go_wp2_with (go_at_call 23; first | (with_reducible refine (hC _).mono ?_; rintro e w' ⟨rfl, rfl⟩) | (with_reducible refine (hD _).mono ?_; rintro e w' ⟨rfl, rfl⟩))
  refine wp_loop_rounds 5 ?_
  rw [rounds_succ]
  go_wp2_with (go_at_call 10; refine (b0 _).mono ?_; rintro e w' ⟨rfl, rfl⟩)
  rw [rounds_succ]
  go_wp2_with (go_at_call 10; refine (b1 _).mono ?_; rintro e w' ⟨rfl, rfl⟩)
  rw [rounds_succ]
  go_wp2_with (go_at_call 10; refine (b2 _).mono ?_; rintro e w' ⟨rfl, rfl⟩)
  rw [rounds_succ]
  go_wp2
  go_ret2
  exact ⟨rfl, rfl⟩
set_option maxRecDepth 100000 in
set_option maxHeartbeats 8000000 in
theorem RTrit_any (a c : UInt8) (w : World) :
    Calls Tryd.prog 12 #[eB a, eB c] w fun e w' => e = .returned (outG (triG a c)) ∧ w = w' := by
  have hC := fun w => refCode_any a w
  have hD := fun w => refCode_any c w
  by_cases h : codeOf a.toNat = -1
  · have hb : triG a c = .error 10 := by rw [triG, if_pos h]
    rw [hb]
    simp only [if_pos h] at hC
    generalize (if codeOf c.toNat = -1 then (0 : Int) else codeOf c.toNat) = k1 at *
    generalize (if codeOf c.toNat = -1 then (10 : Int) else 0) = k2 at *
    clear h hb
    go_enter Tryd.func12, Tryd.ntmps12
    go_wp2_with (go_at_call 23; first | (with_reducible refine (hC _).mono ?_; rintro e w' ⟨rfl, rfl⟩) | (with_reducible refine (hD _).mono ?_; rintro e w' ⟨rfl, rfl⟩))
    go_ret2
    exact ⟨rfl, rfl⟩
  · simp only [if_neg h] at hC
    by_cases h2 : codeOf c.toNat = -1
    · have hb : triG a c = .error 10 := by rw [triG, if_neg h, if_pos h2]
      rw [hb]
      simp only [if_pos h2] at hD
      generalize codeOf a.toNat = k1 at *
      clear h hb h2
      go_enter Tryd.func12, Tryd.ntmps12
      go_wp2_with (go_at_call 23; first | (with_reducible refine (hC _).mono ?_; rintro e w' ⟨rfl, rfl⟩) | (with_reducible refine (hD _).mono ?_; rintro e w' ⟨rfl, rfl⟩))
      go_ret2
      exact ⟨rfl, rfl⟩
    · simp only [if_neg h2] at hD
      obtain ⟨x0, x1, x2, e0, e1, e2, ht⟩ : ∃ x0 x1 x2, behG a 0 = .ok x0 ∧ behG a 1 = .ok x1 ∧ behG a 2 = .ok x2 ∧ triG a c = whichG x0 x1 x2 c := by
        rcases code_four h with rfl | rfl | rfl | rfl
        · exact ⟨67, 71, 84, by kernel_rfl, by kernel_rfl, by kernel_rfl, by rcases code_four h2 with rfl | rfl | rfl | rfl <;> kernel_rfl⟩
        · exact ⟨65, 71, 84, by kernel_rfl, by kernel_rfl, by kernel_rfl, by rcases code_four h2 with rfl | rfl | rfl | rfl <;> kernel_rfl⟩
        · exact ⟨65, 67, 84, by kernel_rfl, by kernel_rfl, by kernel_rfl, by rcases code_four h2 with rfl | rfl | rfl | rfl <;> kernel_rfl⟩
        · exact ⟨65, 67, 71, by kernel_rfl, by kernel_rfl, by kernel_rfl, by rcases code_four h2 with rfl | rfl | rfl | rfl <;> kernel_rfl⟩
      rw [ht]
      exact RTrit_walk a c x0 x1 x2 _ _ hC hD (RBehind_is a 0 x0 e0) (RBehind_is a 1 x1 e1) (RBehind_is a 2 x2 e2) w
theorem RTrit_is (a t c : UInt8) (h : triG a t = .ok c) (w : World) : Calls Tryd.prog 12 #[eB a, eB t] w fun e w' => e = .returned (.tuple #[eB c, .int .i64 0]) ∧ w = w' := by
  have := RTrit_any a t w
  rw [h] at this
  exact this
theorem RTrit_not (a t : UInt8) (n : Int) (h : triG a t = .error n) (w : World) : Calls Tryd.prog 12 #[eB a, eB t] w fun e w' => e = .returned (.tuple #[eB 0, .int .i64 n]) ∧ w = w' := by
  have := RTrit_any a t w
  rw [h] at this
  exact this
end Go.Proofs.YtniiblamoimcjaaDoor
