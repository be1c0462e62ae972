/- One answer of both: of the package and of the document's own. -/
import Derived.Test.YtheealkoooiloaaDoorSxG
namespace Go.Proofs.YtheealkoooiloaaDoor
open Go.RowKit Go.Shelf
attribute [local go_sem] Oper.semAt_some run_store_func

/-- A call that returns these sums and this number. -/
abbrev Tells (f : FuncId) (args : Array Value) (a b c m : Int) (w : World) : Prop :=
  Calls Tryd.prog f args w fun e w' => e = .returned (.tuple #[v3 a b c, .int .i64 m]) ∧ Below w.heap.size w w'
/-- A call that returns these bytes and this number. -/
abbrev Gives (f : FuncId) (args : Array Value) (L : List UInt8) (m : Int) (w : World) : Prop :=
  Calls Tryd.prog f args w fun e w' => ∃ v, e = .returned (.tuple #[v, .int .i64 m]) ∧ Sl eB w'.heap.size w' v L ∧ Below w.heap.size w w'
theorem of_both (x : List UInt8) (hreach : x.length ≤ 1000000) : ∃ a b c m : Int, (∀ v w, Tab w → Sl eB w.heap.size w v x → Tells 9 #[v] a b c m w) ∧ ∀ v w, Sl eB w.heap.size w v x → Tells 10 #[v] a b c m w := by
  cases h : sumsG x with
  | ok r =>
    obtain ⟨a, b, c⟩ := r
    refine ⟨a, b, c, 0, fun v w hT hS => (Of_any v x hreach w hT hS).mono ?_, fun v w hS => (rOf_any v x hreach w hS).mono ?_⟩
    all_goals
      rintro e w' ⟨hB, ⟨a', b', c', hy, rfl⟩ | ⟨m, hm, rfl⟩⟩
      · rw [h] at hy; cases hy; exact ⟨rfl, hB⟩
      · rw [h] at hm; cases hm
  | error n =>
    refine ⟨0, 0, 0, n, fun v w hT hS => (Of_any v x hreach w hT hS).mono ?_, fun v w hS => (rOf_any v x hreach w hS).mono ?_⟩
    all_goals
      rintro e w' ⟨hB, ⟨a', b', c', hy, rfl⟩ | ⟨m, hm, rfl⟩⟩
      · rw [h] at hy; cases hy
      · rw [h] at hm; cases hm; exact ⟨rfl, hB⟩
theorem un_both (x : List UInt8) (n : Int) : ∃ a b c m : Int, (∀ v w, Sl eB w.heap.size w v x → Tells 13 #[v, .int .i64 n] a b c m w) ∧ ∀ v w, Sl eB w.heap.size w v x → Tells 14 #[v, .int .i64 n] a b c m w := by
  cases h : unG x n with
  | some r =>
    obtain ⟨a, b, c⟩ := r
    refine ⟨a, b, c, 0, fun v w hS => (Unpack_any v x n w hS).mono ?_, fun v w hS => (rUnpack_any v x n w hS).mono ?_⟩
    all_goals
      rintro e w' ⟨hB, ⟨a', b', c', hy, rfl⟩ | ⟨hm, rfl⟩⟩
      · rw [h] at hy; cases hy; exact ⟨rfl, hB⟩
      · rw [h] at hm; cases hm
  | none =>
    refine ⟨0, 0, 0, 2, fun v w hS => (Unpack_any v x n w hS).mono ?_, fun v w hS => (rUnpack_any v x n w hS).mono ?_⟩
    all_goals
      rintro e w' ⟨hB, ⟨a', b', c', hy, rfl⟩ | ⟨hm, rfl⟩⟩
      · rw [h] at hy; cases hy
      · exact ⟨rfl, hB⟩
theorem pack_both (a b c n : Int) : ∃ (L : List UInt8) (m : Int), (∀ w, Gives 11 #[v3 a b c, .int .i64 n] L m w) ∧ ∀ w, Gives 12 #[v3 a b c, .int .i64 n] L m w := by
  cases h : rightB a b c n with
  | false =>
    refine ⟨[], 2, fun w => (Pack_no a b c n h w).mono ?_, fun w => (rPack_no a b c n h w).mono ?_⟩
    · rintro e w' ⟨hB, rfl⟩
      exact ⟨_, rfl, Sl.nil _ _ _, hB⟩
    · rintro e w' ⟨rfl, hB⟩
      exact ⟨_, rfl, Sl.nil _ _ _, hB⟩
  | true =>
    obtain ⟨a', b', c', n', rfl, rfl, rfl, rfl, h2, h1, ha, hb, hc⟩ := rightB_nat h
    refine ⟨packL a' b' c' n', 0, fun w => (Pack_yes a' b' c' n' h2 h1 h w).mono ?_, fun w => (rPack_yes a' b' c' n' h2 h1 ha hb hc h w).mono ?_⟩
    · rintro e w' ⟨hB, v, rfl, hv⟩
      exact ⟨_, rfl, hv, hB⟩
    · rintro e w' ⟨v, rfl, hB, hv⟩
      exact ⟨_, rfl, hv, hB⟩
theorem long_both (n : Int) : ∃ k : Int, (∀ w, Calls Tryd.prog 19 #[.int .i64 n] w fun e w' => e = .returned (.int .i64 k) ∧ Below w.heap.size w w') ∧ ∀ w, Calls Tryd.prog 20 #[.int .i64 n] w fun e w' => e = .returned (.int .i64 k) ∧ w = w' := by
  cases h : mayB n with
  | false =>
    refine ⟨-1, fun w => (Long_no n h w).mono ?_, fun w => rLong_no n h w⟩
    rintro e w' ⟨rfl, rfl⟩
    exact ⟨rfl, Below.refl _ _⟩
  | true =>
    obtain ⟨m, rfl, h2, h1⟩ : ∃ m : Nat, n = m ∧ 2 ≤ m ∧ m ≤ 1000 := by
      unfold mayB at h
      rw [Bool.and_eq_true] at h
      have h1 := of_decide_eq_true h.1
      have h2 := of_decide_eq_true h.2
      exact ⟨n.toNat, by omega, by omega, by omega⟩
    exact ⟨longN m, fun w => Long_yes m h2 h1 w, fun w => rLong_yes m h2 h1 w⟩
end Go.Proofs.YtheealkoooiloaaDoor
