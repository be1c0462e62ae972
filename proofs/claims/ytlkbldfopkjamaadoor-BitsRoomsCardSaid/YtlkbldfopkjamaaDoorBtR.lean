/- The walk of BitsRooms. -/
import Derived.Test.YtlkbldfopkjamaaDoorBtW
namespace Go.Proofs.YtlkbldfopkjamaaDoor
open Go.RowKit Go.Shelf
attribute [local go_sem] Oper.semAt_some

theorem len_pow : ∀ n, n < 63 → Lib.bitLen (2 ^ n) = n + 1 ∧ Lib.bitLen (2 ^ n - 1) = n := by decide +kernel

set_option maxRecDepth 100000 in
set_option maxHeartbeats 2000000 in
theorem BitsRooms_any (n m : Int) (w : World) (hT : Tab w) :
    Calls Tryd.prog 6 #[.int .i64 n, .int .i64 m] w fun e w' => e = .returned (.bool true) ∧ Below w.heap.size w w' := by
  by_cases h1 : n < 0
  · have hd : decide (n < 0) = true := decide_eq_true h1
    go_enter Tryd.func6, Tryd.ntmps6
    go_wp2_with (go_at_call 7; refine (wakes_any _ hT).mono ?_; rintro e w1 ⟨rfl, hB1⟩)
    go_ret
    exact ⟨rfl, hB1⟩
  have hd1 : decide (n < 0) = false := decide_eq_false h1
  by_cases h2 : 62 < n
  · have hd : decide (62 < n) = true := decide_eq_true h2
    go_enter Tryd.func6, Tryd.ntmps6
    go_wp2_with (go_at_call 7; refine (wakes_any _ hT).mono ?_; rintro e w1 ⟨rfl, hB1⟩)
    go_ret
    exact ⟨rfl, hB1⟩
  have hd2 : decide (62 < n) = false := decide_eq_false h2
  by_cases h3 : 1099511627776 < m
  · have hd : decide (1099511627776 < m) = true := decide_eq_true h3
    go_enter Tryd.func6, Tryd.ntmps6
    go_wp2_with (go_at_call 7; refine (wakes_any _ hT).mono ?_; rintro e w1 ⟨rfl, hB1⟩)
    go_ret
    exact ⟨rfl, hB1⟩
  have hd3 : decide (1099511627776 < m) = false := decide_eq_false h3
  obtain ⟨k, rfl⟩ : ∃ k : Nat, n = k := ⟨n.toNat, by omega⟩
  have hk : k < 63 := by omega
  have hl := len_pow k hk
  obtain ⟨T, hT2⟩ : ∃ T, 2 ^ k = T := ⟨_, rfl⟩
  rw [hT2] at hl
  obtain ⟨hl1, hl2⟩ := hl
  have hT3 : T ≤ 2 ^ 62 := by rw [← hT2]; exact Nat.pow_le_pow_right (by omega) (by omega)
  have hT4 : 1 ≤ T := by rw [← hT2]; exact Nat.one_le_two_pow
  have hwT : IntKind.u64.wrap ((2 : Int) ^ k) = (T : Int) := by
    rw [show ((2 : Int) ^ k) = ((2 ^ k : Nat) : Int) by norm_cast, hT2, IntWalk.u64_in _ (by omega)]
  have hwT1 : IntKind.u64.wrap ((T : Int) - 1) = ((T - 1 : Nat) : Int) := by
    rw [IntWalk.u64_in _ (by omega)]; omega
  have hwk : IntKind.i64.wrap ((k : Int) + 1) = (k : Int) + 1 := by rw [IntWalk.i64_in _ (by omega)]
  have hneed1 := fun w => Need_any (T : Int) (by omega) (by omega) w
  have hneed2 := fun w => Need_any ((T - 1 : Nat) : Int) (by omega) (by omega) w
  simp only [Int.toNat_natCast, hl1, hl2] at hneed1 hneed2
  obtain ⟨E, hE⟩ : ∃ E, evenOf m = E := ⟨_, rfl⟩
  have hE0 : E = max m 0 + max m 0 % 2 := by rw [← hE, evenOf, IntWalk.wrap64_in _ (by omega)]
  have heven := fun w => Even_any m w
  simp only [hE] at heven
  have hE1 : E.tmod 2 = 0 := by rw [Int.tmod_eq_emod_of_nonneg (by omega)]; omega
  have hE2 : m ≤ E := by omega
  have hE3 : 0 ≤ E := by omega
  have hw0 : IntKind.i64.wrap (m + 1) = m + 1 ∨ m < 0 := by
    by_cases h : m < 0
    · exact .inr h
    · exact .inl (IntWalk.i64_in _ (by omega))
  have hd4 : decide (m ≤ E) = true := decide_eq_true hE2
  have hd5 : decide (0 ≤ E) = true := decide_eq_true hE3
  have HT := Lib.hid hT2
  have HE := Lib.hid hE
  clear hT2 hE hl1 hl2 hT3 hT4 hd1 hd2 hd3 hwk
  by_cases hm0 : 0 ≤ m
  · have hE4 : E ≤ m + 1 := by omega
    have hw1 : IntKind.i64.wrap (m + 1) = m + 1 := hw0.resolve_right (by omega)
    clear hE0 hw0
    go_enter Tryd.func6, Tryd.ntmps6
    go_wp2_with (first
      | (go_at_call 17; refine (heven _).mono ?_; rintro e w' ⟨rfl, rfl⟩)
      | (go_at_call 14; refine (hneed1 _).mono ?_; rintro e w' ⟨rfl, rfl⟩)
      | (go_at_call 14; refine (hneed2 _).mono ?_; rintro e w' ⟨rfl, rfl⟩)
      | (go_at_call 7; refine (wakes_any _ hT).mono ?_; rintro e w1 ⟨rfl, hB1⟩))
    go_ret
    exact ⟨rfl, hB1⟩
  · have hE4 : E = 0 := by omega
    subst hE4
    clear hE0 hw0
    go_enter Tryd.func6, Tryd.ntmps6
    go_wp2_with (first
      | (go_at_call 17; refine (heven _).mono ?_; rintro e w' ⟨rfl, rfl⟩)
      | (go_at_call 14; refine (hneed1 _).mono ?_; rintro e w' ⟨rfl, rfl⟩)
      | (go_at_call 14; refine (hneed2 _).mono ?_; rintro e w' ⟨rfl, rfl⟩)
      | (go_at_call 7; refine (wakes_any _ hT).mono ?_; rintro e w1 ⟨rfl, hB1⟩))
    go_ret
    exact ⟨rfl, hB1⟩
end Go.Proofs.YtlkbldfopkjamaaDoor
