/- TurnTells. -/
import Derived.Test.YtniiblamoimcjaaDoorTuU
namespace Go.Proofs.YtniiblamoimcjaaDoor
open Go.RowKit Go.Shelf
attribute [local go_sem] Oper.semAt_some

theorem beh_both (a t : UInt8) : ∃ (c : UInt8) (n : Int), (∀ w, Tab w → Calls Tryd.prog 9 #[eB a, eB t] w fun e w' => e = .returned (.tuple #[eB c, .int .i64 n]) ∧ Below w.heap.size w w') ∧
    ∀ w, Calls Tryd.prog 10 #[eB a, eB t] w fun e w' => e = .returned (.tuple #[eB c, .int .i64 n]) ∧ w = w' := by
  cases h : behG a t with
  | ok c =>
    refine ⟨c, 0, fun w hT => (Behind_any a t w hT).mono ?_, RBehind_is a t c h⟩
    rintro e w' ⟨hB, ⟨y, hy, rfl⟩ | ⟨m, hm, rfl⟩⟩
    · rw [h] at hy; cases hy; exact ⟨rfl, hB⟩
    · rw [h] at hm; cases hm
  | error n =>
    refine ⟨0, n, fun w hT => (Behind_any a t w hT).mono ?_, RBehind_not a t n h⟩
    rintro e w' ⟨hB, ⟨y, hy, rfl⟩ | ⟨m, hm, rfl⟩⟩
    · rw [h] at hy; cases hy
    · rw [h] at hm; cases hm; exact ⟨rfl, hB⟩
theorem tri_both (a t : UInt8) : ∃ (c : UInt8) (n : Int), (∀ w, Tab w → Calls Tryd.prog 11 #[eB a, eB t] w fun e w' => e = .returned (.tuple #[eB c, .int .i64 n]) ∧ Below w.heap.size w w') ∧
    ∀ w, Calls Tryd.prog 12 #[eB a, eB t] w fun e w' => e = .returned (.tuple #[eB c, .int .i64 n]) ∧ w = w' := by
  cases h : triG a t with
  | ok c =>
    refine ⟨c, 0, fun w hT => (Trit_any a t w hT).mono ?_, RTrit_is a t c h⟩
    rintro e w' ⟨hB, ⟨y, hy, rfl⟩ | ⟨m, hm, rfl⟩⟩
    · rw [h] at hy; cases hy; exact ⟨rfl, hB⟩
    · rw [h] at hm; cases hm
  | error n =>
    refine ⟨0, n, fun w hT => (Trit_any a t w hT).mono ?_, RTrit_not a t n h⟩
    rintro e w' ⟨hB, ⟨y, hy, rfl⟩ | ⟨m, hm, rfl⟩⟩
    · rw [h] at hy; cases hy
    · rw [h] at hm; cases hm; exact ⟨rfl, hB⟩
/-- A call that returns these bytes and this number. -/
abbrev Gives (c : FuncId) (args : Array Value) (L : List UInt8) (n : Int) (w : World) : Prop :=
  Calls Tryd.prog c args w fun e w' => ∃ v, e = .returned (.tuple #[v, .int .i64 n]) ∧ Sl eB w'.heap.size w' v L ∧ Below w.heap.size w w'
theorem turn_both (a : UInt8) (ts : List UInt8) (hreach : ts.length ≤ 1000000) : ∃ (L : List UInt8) (n : Int), (∀ v w, Tab w → Sl eB w.heap.size w v ts → Gives 13 #[eB a, v] L n w) ∧
    ∀ v w, Sl eB w.heap.size w v ts → Gives 14 #[eB a, v] L n w := by
  cases h : turnG a ts with
  | ok r =>
    refine ⟨r, 0, fun v w hT hS => (Turn_any a v ts hreach w hT hS).mono ?_, fun v w hS => (RTurn_any a v ts hreach w hS).mono ?_⟩
    all_goals
      rintro e w' ⟨hB, ⟨v, y, hy, rfl, hv⟩ | ⟨m, hm, rfl⟩⟩
      · rw [h] at hy; cases hy; exact ⟨v, rfl, sl_own hv, hB⟩
      · rw [h] at hm; cases hm
  | error n =>
    refine ⟨[], n, fun v w hT hS => (Turn_any a v ts hreach w hT hS).mono ?_, fun v w hS => (RTurn_any a v ts hreach w hS).mono ?_⟩
    all_goals
      rintro e w' ⟨hB, ⟨v, y, hy, rfl, hv⟩ | ⟨m, hm, rfl⟩⟩
      · rw [h] at hy; cases hy
      · rw [h] at hm; cases hm; exact ⟨_, rfl, Sl.nil _ _ _, hB⟩
theorem back_both (a : UInt8) (ts : List UInt8) (hreach : ts.length ≤ 1000000) : ∃ (L : List UInt8) (n : Int), (∀ v w, Tab w → Sl eB w.heap.size w v ts → Gives 15 #[eB a, v] L n w) ∧
    ∀ v w, Sl eB w.heap.size w v ts → Gives 16 #[eB a, v] L n w := by
  cases h : backG a ts with
  | ok r =>
    refine ⟨r, 0, fun v w hT hS => (Back_any a v ts hreach w hT hS).mono ?_, fun v w hS => (RBack_any a v ts hreach w hS).mono ?_⟩
    all_goals
      rintro e w' ⟨hB, ⟨v, y, hy, rfl, hv⟩ | ⟨m, hm, rfl⟩⟩
      · rw [h] at hy; cases hy; exact ⟨v, rfl, sl_own hv, hB⟩
      · rw [h] at hm; cases hm
  | error n =>
    refine ⟨[], n, fun v w hT hS => (Back_any a v ts hreach w hT hS).mono ?_, fun v w hS => (RBack_any a v ts hreach w hS).mono ?_⟩
    all_goals
      rintro e w' ⟨hB, ⟨v, y, hy, rfl, hv⟩ | ⟨m, hm, rfl⟩⟩
      · rw [h] at hy; cases hy
      · rw [h] at hm; cases hm; exact ⟨_, rfl, Sl.nil _ _ _, hB⟩

set_option maxRecDepth 100000 in
set_option maxHeartbeats 8000000 in
theorem TurnTells_any (a c : UInt8) (v0 v1 : Value) (s ts : List UInt8) (w : World) (h0 : Sl eB w.heap.size w v0 s) (h1 : Sl eB w.heap.size w v1 ts) (hT : Tab w) :
    Calls Tryd.prog 3 #[eB a, eB c, v0, v1] w fun e w' => e = .returned (.bool true) ∧ Below w.heap.size w w' := by
  have hw := wakes_any
  by_cases hs : 400 < s.length
  · have d1 : decide ((400 : Int) < (s.length : Int)) = true := decide_eq_true (by omega)
    obtain ⟨A0, c0, rfl⟩ := h0.len
    obtain ⟨A1, c1, rfl⟩ := h1.len
    go_enter Tryd.func3, Tryd.ntmps3
    go_wp2_with (go_at_call 8; refine (hw _ hT).mono ?_; rintro e w' ⟨rfl, hB⟩)
    go_ret
    exact ⟨rfl, hB⟩
  have d1 : decide ((400 : Int) < (s.length : Int)) = false := decide_eq_false (by omega)
  by_cases ht : 400 < ts.length
  · have d2 : decide ((400 : Int) < (ts.length : Int)) = true := decide_eq_true (by omega)
    obtain ⟨A0, c0, rfl⟩ := h0.len
    obtain ⟨A1, c1, rfl⟩ := h1.len
    go_enter Tryd.func3, Tryd.ntmps3
    go_wp2_with (go_at_call 8; refine (hw _ hT).mono ?_; rintro e w' ⟨rfl, hB⟩)
    go_ret
    exact ⟨rfl, hB⟩
  have d2 : decide ((400 : Int) < (ts.length : Int)) = false := decide_eq_false (by omega)
  obtain ⟨x1, n1, b1, r1⟩ := beh_both a c
  obtain ⟨x2, n2, b2, r2⟩ := tri_both a c
  obtain ⟨L3, n3, b3, r3⟩ := turn_both a ts (by omega)
  obtain ⟨L4, n4, b4, r4⟩ := back_both a s (by omega)
  have g1 : ((x1.toNat : Int) != (x1.toNat : Int)) = false := by simp
  have g2 : ((x2.toNat : Int) != (x2.toNat : Int)) = false := by simp
  have g3 : (n1 != n1) = false := by simp
  have g4 : (n2 != n2) = false := by simp
  have g5 : (n3 == n3) = true := by simp
  have g6 : (n4 == n4) = true := by simp
  have d1' : decide (400 < s.length) = false := decide_eq_false (by omega)
  have d2' : decide (400 < ts.length) = false := decide_eq_false (by omega)
  have b3 := b3 v1
  have r3 := r3 v1
  have b4 := b4 v0
  have r4 := r4 v0
  clear hs ht
  obtain ⟨A0, c0, hv0⟩ := h0.len
  obtain ⟨A1, c1, hv1⟩ := h1.len
  subst hv0 hv1
  go_enter Tryd.func3, Tryd.ntmps3
  go_wp2_with fail
  clear d1 d2 d1' d2'
  go_at_call 9
  refine (b1 w hT).mono ?_
  rintro e w1 ⟨rfl, hB1⟩
  have hT1 := hT.below hB1
  go_wp2_with fail
  go_at_call 10
  refine (r1 w1).mono ?_
  rintro e w' ⟨rfl, rfl⟩
  go_wp2_with fail
  go_at_call 11
  refine (b2 w1 hT1).mono ?_
  rintro e w2 ⟨rfl, hB2⟩
  have hT2 := hT1.below hB2
  have hB2 := below_trans hB1 hB2
  clear hB1 hT1
  go_wp2_with fail
  go_at_call 12
  refine (r2 w2).mono ?_
  rintro e w' ⟨rfl, rfl⟩
  clear b1 r1 b2 r2
  go_wp2_with fail
  go_at_call 13
  refine (b3 w2 hT2 (h1.next hB2)).mono ?_
  rintro e w3 ⟨v3, rfl, hv3, hB3⟩
  have hT3 := hT2.below hB3
  have hB3 := below_trans hB2 hB3
  clear hT2 hB2 b3
  go_wp2_with fail
  go_at_call 14
  refine (r3 w3 (h1.next hB3)).mono ?_
  rintro e w4 ⟨v4, rfl, hv4, hB4⟩
  have hT4 := hT3.below hB4
  have hv3 := hv3.next hB4
  have hB4 := below_trans hB3 hB4
  clear hT3 hB3 r3
  go_wp2_with fail
  go_at_call 15
  refine (b4 w4 hT4 (h0.next hB4)).mono ?_
  rintro e w5 ⟨v5, rfl, hv5, hB5⟩
  have hT5 := hT4.below hB5
  have hv3 := hv3.next hB5
  have hv4 := hv4.next hB5
  have hB5 := below_trans hB4 hB5
  clear hT4 hB4 b4
  go_wp2_with fail
  go_at_call 16
  refine (r4 w5 (h0.next hB5)).mono ?_
  rintro e w6 ⟨v6, rfl, hv6, hB6⟩
  have hT6 := hT5.below hB6
  have hv3 := hv3.next hB6
  have hv4 := hv4.next hB6
  have hv5 := hv5.next hB6
  have hB6 := below_trans hB5 hB6
  have q1 := same_eq _ _ _ _ _ hv3 hv4
  have q2 := same_eq _ _ _ _ _ hv5 hv6
  clear hT5 hB5 r4 hv3 hv4 hv5 hv6 h0 h1
  go_wp2_with fail
  go_at_call 17
  refine q1.mono ?_
  rintro e w' ⟨rfl, rfl⟩
  clear q1
  go_wp2_with fail
  go_at_call 17
  refine q2.mono ?_
  rintro e w' ⟨rfl, rfl⟩
  clear q2
  go_wp2_with (go_at_call 8; refine (hw _ hT6).mono ?_; rintro e w' ⟨rfl, hB⟩)
  go_ret
  exact ⟨rfl, below_trans hB6 hB⟩
end Go.Proofs.YtniiblamoimcjaaDoor
