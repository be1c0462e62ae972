/- Contracts of helixref01.Code, Letter, helixref09.Behind, Trit. -/
import Derived.Test.YtniiblamoimcjaaDoorTuK
namespace Go.Proofs.YtniiblamoimcjaaDoor
open Go.RowKit Go.Shelf
attribute [local go_sem] Oper.semAt_some

/-- What is told of an answer that may be an error. -/
def outG : Except Int UInt8 → Value
  | .ok c => .tuple #[eB c, .int .i64 0]
  | .error n => .tuple #[eB 0, .int .i64 n]
theorem code_four {a : UInt8} (h : codeOf a.toNat ≠ -1) : a = 65 ∨ a = 67 ∨ a = 71 ∨ a = 84 := by
  unfold codeOf at h
  have e : ∀ k : UInt8, a.toNat = k.toNat → a = k := fun k hk => UInt8.toNat_inj.1 hk
  split at h
  · exact .inl (e 65 (by assumption))
  · split at h
    · exact .inr (.inl (e 67 (by assumption)))
    · split at h
      · exact .inr (.inr (.inl (e 71 (by assumption))))
      · split at h
        · exact .inr (.inr (.inr (e 84 (by assumption))))
        · exact absurd rfl h
theorem code_none {a : UInt8} (h : codeOf a.toNat = -1) : a ≠ 65 ∧ a ≠ 67 ∧ a ≠ 71 ∧ a ≠ 84 :=
  ⟨fun e => by rw [e] at h; exact absurd h (by decide), fun e => by rw [e] at h; exact absurd h (by decide), fun e => by rw [e] at h; exact absurd h (by decide), fun e => by rw [e] at h; exact absurd h (by decide)⟩
theorem byte_ne {a k : UInt8} (h : a ≠ k) : ((k.toNat : Int) == (a.toNat : Int)) = false := by
  rw [beq_eq_false_iff_ne]
  intro e
  exact h (UInt8.toNat_inj.1 (by omega))

set_option maxRecDepth 100000 in
set_option maxHeartbeats 2000000 in
theorem refCode_any (c : UInt8) (w : World) :
    Calls Tryd.prog 23 #[eB c] w fun e w' => e = .returned (.tuple #[.int .i64 (if codeOf c.toNat = -1 then 0 else codeOf c.toNat), .int .i64 (if codeOf c.toNat = -1 then 10 else 0)]) ∧ w = w' := by
  have i0 : ∀ w, (Instr.index 9 (.string ⟨#[65, 67, 71, 84]⟩) (.int .i64 0)).run Tryd.prog w = .ok (.int .u8 65) w := fun _ => by kernel_rfl
  have i1 : ∀ w, (Instr.index 9 (.string ⟨#[65, 67, 71, 84]⟩) (.int .i64 1)).run Tryd.prog w = .ok (.int .u8 67) w := fun _ => by kernel_rfl
  have i2 : ∀ w, (Instr.index 9 (.string ⟨#[65, 67, 71, 84]⟩) (.int .i64 2)).run Tryd.prog w = .ok (.int .u8 71) w := fun _ => by kernel_rfl
  have i3 : ∀ w, (Instr.index 9 (.string ⟨#[65, 67, 71, 84]⟩) (.int .i64 3)).run Tryd.prog w = .ok (.int .u8 84) w := fun _ => by kernel_rfl
  by_cases h : codeOf c.toNat = -1
  · rw [if_pos h, if_pos h]
    obtain ⟨h0, h1, h2, h3⟩ := code_none h
    have g0 : ((65 : Int) == (c.toNat : Int)) = false := byte_ne h0
    have g1 : ((67 : Int) == (c.toNat : Int)) = false := byte_ne h1
    have g2 : ((71 : Int) == (c.toNat : Int)) = false := byte_ne h2
    have g3 : ((84 : Int) == (c.toNat : Int)) = false := byte_ne h3
    clear h h0 h1 h2 h3
    go_enter Tryd.func23, Tryd.ntmps23
    go_wp2
    refine wp_loop_rounds 5 ?_
    rw [rounds_succ]
    go_wp2
    rw [rounds_succ]
    go_wp2
    rw [rounds_succ]
    go_wp2
    rw [rounds_succ]
    go_wp2
    rw [rounds_succ]
    go_wp2
    go_ret2
    exact ⟨rfl, rfl⟩
  · rcases code_four h with rfl | rfl | rfl | rfl
    all_goals
      clear h
      go_enter Tryd.func23, Tryd.ntmps23
      go_wp2
      refine wp_loop_rounds 5 ?_
      rw [rounds_succ]
      go_wp2
    · go_ret2
      exact ⟨rfl, rfl⟩
    · rw [rounds_succ]
      go_wp2
      go_ret2
      exact ⟨rfl, rfl⟩
    · rw [rounds_succ]
      go_wp2
      rw [rounds_succ]
      go_wp2
      go_ret2
      exact ⟨rfl, rfl⟩
    · rw [rounds_succ]
      go_wp2
      rw [rounds_succ]
      go_wp2
      rw [rounds_succ]
      go_wp2
      go_ret2
      exact ⟨rfl, rfl⟩

set_option maxRecDepth 100000 in
set_option maxHeartbeats 2000000 in
theorem refLetter_any (k : Int) (hk : k = 0 ∨ k = 1 ∨ k = 2 ∨ k = 3) (w : World) :
    Calls Tryd.prog 24 #[.int .i64 k] w fun e w' => e = .returned (eB (letterOf k)) ∧ w = w' := by
  have i0 : ∀ w, (Instr.index 9 (.string ⟨#[65, 67, 71, 84]⟩) (.int .i64 0)).run Tryd.prog w = .ok (.int .u8 65) w := fun _ => by kernel_rfl
  have i1 : ∀ w, (Instr.index 9 (.string ⟨#[65, 67, 71, 84]⟩) (.int .i64 1)).run Tryd.prog w = .ok (.int .u8 67) w := fun _ => by kernel_rfl
  have i2 : ∀ w, (Instr.index 9 (.string ⟨#[65, 67, 71, 84]⟩) (.int .i64 2)).run Tryd.prog w = .ok (.int .u8 71) w := fun _ => by kernel_rfl
  have i3 : ∀ w, (Instr.index 9 (.string ⟨#[65, 67, 71, 84]⟩) (.int .i64 3)).run Tryd.prog w = .ok (.int .u8 84) w := fun _ => by kernel_rfl
  rcases hk with rfl | rfl | rfl | rfl
  all_goals
    go_enter Tryd.func24, Tryd.ntmps24
    go_wp2
    go_ret
    exact ⟨rfl, rfl⟩

set_option maxRecDepth 100000 in
set_option maxHeartbeats 8000000 in
theorem RBehind_any (a t : UInt8) (w : World) :
    Calls Tryd.prog 10 #[eB a, eB t] w fun e w' => e = .returned (outG (behG a t)) ∧ w = w' := by
  have hC := fun w => refCode_any a w
  by_cases h : codeOf a.toNat = -1
  · have hb : behG a t = .error 10 := by rw [behG, if_pos h]
    rw [hb]
    simp only [if_pos h] at hC
    clear h hb
    go_enter Tryd.func10, Tryd.ntmps10
    go_wp2_with (go_at_call 23; refine (hC _).mono ?_; rintro e w' ⟨rfl, rfl⟩)
    go_ret2
    exact ⟨rfl, rfl⟩
  · simp only [if_neg h] at hC
    by_cases h3 : 3 ≤ t.toNat
    · have hb : behG a t = .error 2 := by rw [behG, if_neg h, if_pos h3]
      rw [hb]
      have d3 : decide ((2 : Int) < (t.toNat : Int)) = true := decide_eq_true (by omega)
      clear h hb h3
      generalize codeOf a.toNat = k at *
      go_enter Tryd.func10, Tryd.ntmps10
      go_wp2_with (go_at_call 23; refine (hC _).mono ?_; rintro e w' ⟨rfl, rfl⟩)
      go_ret2
      exact ⟨rfl, rfl⟩
    · have ht : t = 0 ∨ t = 1 ∨ t = 2 := by
        have e : ∀ k : UInt8, t.toNat = k.toNat → t = k := fun k hk => UInt8.toNat_inj.1 hk
        rcases (show t.toNat = 0 ∨ t.toNat = 1 ∨ t.toNat = 2 by omega) with h | h | h
        · exact .inl (e 0 h)
        · exact .inr (.inl (e 1 h))
        · exact .inr (.inr (e 2 h))
      have l0 := fun w => refLetter_any 0 (by omega) w
      have l1 := fun w => refLetter_any 1 (by omega) w
      have l2 := fun w => refLetter_any 2 (by omega) w
      have l3 := fun w => refLetter_any 3 (by omega) w
      clear h3
      rcases code_four h with rfl | rfl | rfl | rfl <;> rcases ht with rfl | rfl | rfl
      all_goals
        clear h
        go_enter Tryd.func10, Tryd.ntmps10
        go_wp2_with (go_at_call 23; refine (hC _).mono ?_; rintro e w' ⟨rfl, rfl⟩)
        refine wp_loop_rounds 5 ?_
        repeat
          rw [rounds_succ]
          go_wp2_with (go_at_call 24; first | (refine (l0 _).mono ?_; rintro e w' ⟨rfl, rfl⟩) | (refine (l1 _).mono ?_; rintro e w' ⟨rfl, rfl⟩) | (refine (l2 _).mono ?_; rintro e w' ⟨rfl, rfl⟩) | (refine (l3 _).mono ?_; rintro e w' ⟨rfl, rfl⟩))
        go_ret2
        exact ⟨rfl, rfl⟩
end Go.Proofs.YtniiblamoimcjaaDoor
