/- Contracts of helixref12.wide, Long. -/
import Derived.Test.YtnlndaknljbhcaaDoorSuRbZ
namespace Go.Proofs.YtnlndaknljbhcaaDoor
open Go.RowKit Go.Shelf
attribute [local go_sem] Oper.semAt_some run_store_func

set_option maxRecDepth 100000 in
set_option maxHeartbeats 2000000 in
theorem rwide_any (x : Nat) (h0 : 1 ≤ x) (h1 : x ≤ 6000) (w : World) :
    Calls Tryd.prog 59 #[.int .i64 x] w fun e w' => e = .returned (.int .i64 (Lib.bitLen x)) ∧ w = w' := by
  obtain ⟨a, b, c⟩ := Lib.bitLenAux_bounds 64 x (by omega) (by omega)
  have hL : Lib.bitLen x ≤ 13 := Lib.bitLen_le _ 13 (by omega) (by omega)
  have a' : 1 ≤ Lib.bitLen x := a
  have b' : 2 ^ (Lib.bitLen x - 1) ≤ x := b
  have c' : x < 2 ^ Lib.bitLen x := c
  clear a b c
  generalize Lib.bitLen x = L at *
  have HL := Lib.hid hL
  clear hL
  go_enter Tryd.func59, Tryd.ntmps59
  go_wp2
  go_loop [3] (fun i => ∃ k : Nat, 1 ≤ k ∧ k ≤ L ∧ i = .int .i64 k) (fun i => 20 - (intOf i).toNat)
  case atStart => exact ⟨1, by omega, a', rfl⟩
  case round =>
    obtain ⟨k, hk1, hkL, rfl⟩ := hrel
    have hk : k = 1 ∨ k = 2 ∨ k = 3 ∨ k = 4 ∨ k = 5 ∨ k = 6 ∨ k = 7 ∨ k = 8 ∨ k = 9 ∨ k = 10 ∨ k = 11 ∨ k = 12 ∨ k = 13 := by have := HL.out; omega
    by_cases hlt : k < L
    · have hp : 2 ^ k ≤ x := Nat.le_trans (Nat.pow_le_pow_right (by omega) (by omega)) b'
      have d : decide (((2 ^ k : Nat) : Int) ≤ (x : Int)) = true := decide_eq_true (by omega)
      have Hk := Lib.hid hlt
      clear hp b' c' hk1 hkL hlt
      rcases hk with rfl | rfl | rfl | rfl | rfl | rfl | rfl | rfl | rfl | rfl | rfl | rfl | rfl
      all_goals
        simp only [Nat.reducePow, Int.cast_ofNat_Int] at d
        go_wp2
        go_round
        case rel => exact ⟨_, by omega, Hk.out, rfl⟩
        case measure => simp [intOf]
    · have e : k = L := by omega
      have d : decide (((2 ^ k : Nat) : Int) ≤ (x : Int)) = false := decide_eq_false (by rw [e]; omega)
      have He := Lib.hid e
      clear b' c' hk1 hkL hlt e
      rcases hk with rfl | rfl | rfl | rfl | rfl | rfl | rfl | rfl | rfl | rfl | rfl | rfl | rfl
      all_goals
        simp only [Nat.reducePow, Int.cast_ofNat_Int] at d
        go_wp2
        go_ret
        exact ⟨by rw [← He.out]; rfl, rfl⟩
set_option maxRecDepth 100000 in
set_option maxHeartbeats 1000000 in
theorem rLong_yes (n : Nat) (h2 : 2 ≤ n) (h1 : n ≤ 1000) (w : World) :
    Calls Tryd.prog 45 #[.int .i64 n] w fun e w' => e = .returned (.int .i64 (longN n)) ∧ w = w' := by
  have hm : mayB n = true := by unfold mayB; rw [decide_eq_true (by omega), decide_eq_true (by omega)]; rfl
  have hmy := refmay_any n
  rw [hm] at hmy
  have ht := fun w => rwide_any (n - 1) (by omega) (by omega) w
  have hw := fun w => rwide_any (6 * n) (by omega) (by omega) w
  have ht10 := tb_le n h1
  have hw13 := wb_le n h1
  have e1 : IntKind.i64.wrap ((n : Int) - 1) = ((n - 1 : Nat) : Int) := by rw [IntWalk.i64_in _ (by omega)]; omega
  have e2 : IntKind.i64.wrap (6 * (n : Int)) = ((6 * n : Nat) : Int) := by rw [IntWalk.i64_in _ (by omega)]; omega
  have e2' : wrap64 (6 * (n : Int)) = ((6 * n : Nat) : Int) := by rw [IntWalk.wrap64_in _ (by omega)]; omega
  have Hl := Lib.hid (show longN n = zb n + tb n + 2 + wb n from rfl)
  have Hz := Lib.hid (show zb n = (tb n + 2 + wb n) % 2 from rfl)
  have htb : Lib.bitLen (n - 1) = tb n := rfl
  have hwb : Lib.bitLen (6 * n) = wb n := rfl
  rw [htb] at ht
  rw [hwb] at hw
  clear htb hwb hm
  generalize longN n = ln at *
  generalize zb n = z at *
  generalize tb n = t at *
  generalize wb n = u at *
  go_enter Tryd.func45, Tryd.ntmps45
  go_wp2_with (go_at_call 62; refine (hmy _).mono ?_; rintro e w' ⟨rfl, rfl⟩)
  go_at_call 59
  refine (ht _).mono ?_
  rintro e w' ⟨rfl, rfl⟩
  go_wp2_with fail
  go_at_call 59
  refine (hw _).mono ?_
  rintro e w' ⟨rfl, rfl⟩
  go_wp2_with fail
  go_ret
  have hz' : ((t : Int) + 2 + u) % 2 = z := by rw [Hz.out]; omega
  refine ⟨?_, rfl⟩
  rw [hz', show (t : Int) + 2 + u + z = ln by rw [Hl.out]; omega]
  rfl
theorem rLong_no (k : Int) (h : mayB k = false) (w : World) :
    Calls Tryd.prog 45 #[.int .i64 k] w fun e w' => e = .returned (.int .i64 (-1)) ∧ w = w' := by
  have hmy := refmay_any k
  rw [h] at hmy
  go_enter Tryd.func45, Tryd.ntmps45
  go_wp2_with (go_at_call 62; refine (hmy _).mono ?_; rintro e w' ⟨rfl, rfl⟩)
  go_ret
  exact ⟨rfl, rfl⟩
end Go.Proofs.YtnlndaknljbhcaaDoor
