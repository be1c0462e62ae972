/- The walk of BalanceWidth. -/
import Derived.Test.YtbodielilaedeaaDoorBlW
namespace Go.Proofs.YtbodielilaedeaaDoor
open Go.RowKit Go.Shelf
attribute [local go_sem] Oper.semAt_some run_store_func

theorem bitLen_lt (x : Nat) (hx : x < 2 ^ 64) : x < 2 ^ Lib.bitLen x := by
  rcases Nat.lt_or_ge x (2 ^ Lib.bitLen x) with h | h
  · exact h
  exfalso
  have h1 := Lib.bitLen_shift _ x h hx
  have h2 : 0 < x / 2 ^ Lib.bitLen x := Nat.div_pos h (Nat.two_pow_pos _)
  have h3 := Lib.bitLen_half (x / 2 ^ Lib.bitLen x) (by omega) (Nat.lt_of_le_of_lt (Nat.div_le_self _ _) hx)
  omega
theorem bitLen_ge (x : Nat) (hx : x < 2 ^ 64) (h0 : 0 < Lib.bitLen x) : 2 ^ (Lib.bitLen x - 1) ≤ x := by
  rcases Nat.lt_or_ge x (2 ^ (Lib.bitLen x - 1)) with h | h
  · have h64 := Lib.bitLen_le x 64 (by omega) hx
    have := Lib.bitLen_le x _ (by omega) h
    omega
  · exact h
theorem bitLen_mono (x y : Nat) (hy : y < 2 ^ 64) (h : x ≤ y) : Lib.bitLen x ≤ Lib.bitLen y := by
  have h64 := Lib.bitLen_le y 64 (by omega) hy
  exact Lib.bitLen_le x _ h64 (Nat.lt_of_le_of_lt h (bitLen_lt y hy))
/-- What is told of a width. -/
theorem width_facts (n : Nat) (h1 : 1 ≤ n) (h2 : n ≤ 1099511627776) : ∃ u : Nat, widthOf n = 2 * u ∧ 1 ≤ u ∧ u ≤ 21 ∧ n < 2 ^ (2 * u) ∧ (u = 1 ∨ 2 ^ (2 * u - 2) ≤ n) ∧ widthOf n ≤ widthOf ((n : Int) + 1) := by
  have e1 : widthOf n = min (Lib.bitLen n + Lib.bitLen n % 2) 62 := by
    unfold widthOf
    rw [show (max (n : Int) 1).toNat = n by omega]
  have e2 : widthOf ((n : Int) + 1) = min (Lib.bitLen (n + 1) + Lib.bitLen (n + 1) % 2) 62 := by
    unfold widthOf
    rw [show (max ((n : Int) + 1) 1).toNat = n + 1 by omega]
  have hlt := bitLen_lt n (by omega)
  have hb41 := Lib.bitLen_le n 41 (by omega) (by omega)
  have hm := bitLen_mono n (n + 1) (by omega) (by omega)
  have hpos : 0 < Lib.bitLen n := by
    rcases Nat.eq_zero_or_pos (Lib.bitLen n) with h | h
    · rw [h] at hlt; omega
    · exact h
  have hge := bitLen_ge n (by omega) hpos
  rw [e1, e2]
  generalize Lib.bitLen n = b at *
  generalize Lib.bitLen (n + 1) = c at *
  refine ⟨(b + 1) / 2, by omega, by omega, by omega, ?_, ?_, by omega⟩
  · exact Nat.lt_of_lt_of_le hlt (Nat.pow_le_pow_right (by omega) (by omega))
  · rcases (show (b + 1) / 2 = 1 ∨ 2 ≤ (b + 1) / 2 by omega) with h | h
    · exact .inl h
    · exact .inr (Nat.le_trans (Nat.pow_le_pow_right (by omega) (by omega)) hge)

set_option maxRecDepth 100000 in
set_option maxHeartbeats 2000000 in
theorem BalanceWidth_any (n : Int) (w : World) (hT : Tab w) (hO : TabO w) :
    Calls Tryd.prog 5 #[.int .i64 n] w fun e w' => e = .returned (.bool true) ∧ Below w.heap.size w w' := by
  by_cases h1 : n < 1
  · have d1 : decide (n < 1) = true := decide_eq_true h1
    go_enter Tryd.func5, Tryd.ntmps5
    go_wp2_with (go_at_call 7; refine (wakes_any _ hT hO).mono ?_; rintro e w1 ⟨rfl, hB1⟩)
    go_ret
    exact ⟨rfl, hB1⟩
  have d1 : decide (n < 1) = false := decide_eq_false h1
  by_cases h2 : 1099511627776 < n
  · have d2 : decide (1099511627776 < n) = true := decide_eq_true h2
    go_enter Tryd.func5, Tryd.ntmps5
    go_wp2_with (go_at_call 7; refine (wakes_any _ hT hO).mono ?_; rintro e w1 ⟨rfl, hB1⟩)
    go_ret
    exact ⟨rfl, hB1⟩
  have d2 : decide (1099511627776 < n) = false := decide_eq_false h2
  obtain ⟨N, rfl⟩ : ∃ N : Nat, n = N := ⟨n.toNat, by omega⟩
  obtain ⟨u, hu, u1, u21, hlt, hge, hmono⟩ := width_facts N (by omega) (by omega)
  have W1 := fun w => Width_any (N : Int) (by omega) w
  have W2 := fun w => Width_any ((N : Int) + 1) (by omega) w
  rw [hu] at W1 hmono
  have d3 : decide ((N : Int) < (2 : Int) ^ (2 * u)) = true := decide_eq_true (by rw [show (2 : Int) ^ (2 * u) = ((2 ^ (2 * u) : Nat) : Int) by norm_cast]; omega)
  have d4 : u = 1 ∨ decide ((2 : Int) ^ (2 * u - 2) ≤ (N : Int)) = true := by
    rcases hge with h | h
    · exact .inl h
    · exact .inr (decide_eq_true (by rw [show (2 : Int) ^ (2 * u - 2) = ((2 ^ (2 * u - 2) : Nat) : Int) by norm_cast]; omega))
  have d5 : decide ((2 * (u : Int)) ≤ ((widthOf ((N : Int) + 1) : Nat) : Int)) = true := decide_eq_true (by omega)
  generalize widthOf ((N : Int) + 1) = v at *
  clear hu hlt hge hmono
  rcases (show u = 1 ∨ u = 2 ∨ u = 3 ∨ u = 4 ∨ u = 5 ∨ u = 6 ∨ u = 7 ∨ u = 8 ∨ u = 9 ∨ u = 10 ∨ u = 11 ∨ u = 12 ∨ u = 13 ∨ u = 14 ∨ u = 15 ∨ u = 16 ∨ u = 17 ∨ u = 18 ∨ u = 19 ∨ u = 20 ∨ u = 21 by omega) with rfl | rfl | rfl | rfl | rfl | rfl | rfl | rfl | rfl | rfl | rfl | rfl | rfl | rfl | rfl | rfl | rfl | rfl | rfl | rfl | rfl
  all_goals
    simp only [Nat.reduceMul, Int.reducePow, Nat.reduceSub, Int.reduceMul, Int.cast_ofNat_Int] at W1 d3 d4 d5
    rcases d4 with d4 | d4
    all_goals first
      | (exfalso; omega)
      | (go_enter Tryd.func5, Tryd.ntmps5
         go_wp2_with fail
         go_at_call 13
         refine (W1 _).mono ?_
         rintro e w' ⟨rfl, rfl⟩
         go_wp2_with fail
         go_at_call 13
         refine (W2 _).mono ?_
         rintro e w' ⟨rfl, rfl⟩
         go_wp2_with (go_at_call 7; refine (wakes_any _ hT hO).mono ?_; rintro e w1 ⟨rfl, hB1⟩)
         go_ret
         exact ⟨rfl, hB1⟩)
end Go.Proofs.YtbodielilaedeaaDoor
