/- Contracts of helixref01.Code, Letter, Valid. -/
import Derived.Test.YtmdpodgodhkjdaaDoorLtA
import Derived.Test.YtmdpodgodhkjdaaDoorCl
namespace Go.Proofs.YtmdpodgodhkjdaaDoor
open Go.RowKit Go.Shelf
attribute [local go_sem] Oper.semAt_some

theorem byte_ne {a k : UInt8} (h : a ≠ k) : ((k.toNat : Int) == (a.toNat : Int)) = false := by
  rw [beq_eq_false_iff_ne]
  intro e
  exact h (UInt8.toNat_inj.1 (by omega))

set_option maxRecDepth 100000 in
set_option maxHeartbeats 2000000 in
theorem refCode_any (c : UInt8) (w : World) :
    Calls Tryd.prog 37 #[eB c] w fun e w' => e = .returned (.tuple #[.int .i64 (if codeOf c.toNat = -1 then 0 else codeOf c.toNat), .int .i64 (if codeOf c.toNat = -1 then 10 else 0)]) ∧ w = w' := by
  have i0 : ∀ w, (Instr.index 9 (.string ⟨#[65, 67, 71, 84]⟩) (.int .i64 0)).run Tryd.prog w = .ok (.int .u8 65) w := fun _ => by kernel_rfl
  have i1 : ∀ w, (Instr.index 9 (.string ⟨#[65, 67, 71, 84]⟩) (.int .i64 1)).run Tryd.prog w = .ok (.int .u8 67) w := fun _ => by kernel_rfl
  have i2 : ∀ w, (Instr.index 9 (.string ⟨#[65, 67, 71, 84]⟩) (.int .i64 2)).run Tryd.prog w = .ok (.int .u8 71) w := fun _ => by kernel_rfl
  have i3 : ∀ w, (Instr.index 9 (.string ⟨#[65, 67, 71, 84]⟩) (.int .i64 3)).run Tryd.prog w = .ok (.int .u8 84) w := fun _ => by kernel_rfl
  by_cases h : codeOf c.toNat = -1
  · rw [if_pos h, if_pos h]
    obtain ⟨h0, h1, h2, h3⟩ := code_none h
    have g0 : ((65 : Int) == (c.toNat : Int)) = false := byte_ne h0
    have g1 : ((67 : Int) == (c.toNat : Int)) = false := byte_ne h1
    have g2 : ((71 : Int) == (c.toNat : Int)) = false := byte_ne h2
    have g3 : ((84 : Int) == (c.toNat : Int)) = false := byte_ne h3
    clear h h0 h1 h2 h3
    go_enter Tryd.func37, Tryd.ntmps37
    go_wp2
    refine wp_loop_rounds 5 ?_
    rw [rounds_succ]
    go_wp2
    rw [rounds_succ]
    go_wp2
    rw [rounds_succ]
    go_wp2
    rw [rounds_succ]
    go_wp2
    rw [rounds_succ]
    go_wp2
    go_ret2
    exact ⟨rfl, rfl⟩
  · rcases code_four h with rfl | rfl | rfl | rfl
    all_goals
      clear h
      go_enter Tryd.func37, Tryd.ntmps37
      go_wp2
      refine wp_loop_rounds 5 ?_
      rw [rounds_succ]
      go_wp2
    · go_ret2
      exact ⟨rfl, rfl⟩
    · rw [rounds_succ]
      go_wp2
      go_ret2
      exact ⟨rfl, rfl⟩
    · rw [rounds_succ]
      go_wp2
      rw [rounds_succ]
      go_wp2
      go_ret2
      exact ⟨rfl, rfl⟩
    · rw [rounds_succ]
      go_wp2
      rw [rounds_succ]
      go_wp2
      rw [rounds_succ]
      go_wp2
      go_ret2
      exact ⟨rfl, rfl⟩

theorem letter_mod (x : Int) : (wrap64 (x.tmod 4 + 4)).tmod 4 = x % 4 := by
  have e : x.tmod 4 = x % 4 ∨ x.tmod 4 = x % 4 - 4 := by
    rw [Int.tmod_eq_emod]
    split <;> simp
  have hw : wrap64 (x.tmod 4 + 4) = x.tmod 4 + 4 := by
    unfold wrap64
    omega
  rw [hw, Int.tmod_eq_emod_of_nonneg (by omega)]
  omega
theorem run_acgt0 (n : Int) (w : World) : (Instr.index 9 (.string ⟨#[65, 67, 71, 84]⟩) (.int .i64 (n % 4))).run Tryd.prog w = .ok (eB (letterOf n)) w := by
  have hn : n % 4 = 0 ∨ n % 4 = 1 ∨ n % 4 = 2 ∨ n % 4 = 3 := by omega
  rcases hn with e | e | e | e
  · have k : (Instr.index 9 (.string ⟨#[65, 67, 71, 84]⟩) (.int .i64 0)).run Tryd.prog w = .ok (.int .u8 65) w := by kernel_rfl
    rw [e, show letterOf n = 65 by simp [letterOf, e, lett]]
    exact k
  · have k : (Instr.index 9 (.string ⟨#[65, 67, 71, 84]⟩) (.int .i64 1)).run Tryd.prog w = .ok (.int .u8 67) w := by kernel_rfl
    rw [e, show letterOf n = 67 by simp [letterOf, e, lett]]
    exact k
  · have k : (Instr.index 9 (.string ⟨#[65, 67, 71, 84]⟩) (.int .i64 2)).run Tryd.prog w = .ok (.int .u8 71) w := by kernel_rfl
    rw [e, show letterOf n = 71 by simp [letterOf, e, lett]]
    exact k
  · have k : (Instr.index 9 (.string ⟨#[65, 67, 71, 84]⟩) (.int .i64 3)).run Tryd.prog w = .ok (.int .u8 84) w := by kernel_rfl
    rw [e, show letterOf n = 84 by simp [letterOf, e, lett]]
    exact k
set_option maxRecDepth 100000 in
set_option maxHeartbeats 2000000 in
theorem rLetter_any (k : Int) (w : World) :
    Calls Tryd.prog 38 #[.int .i64 k] w fun e w' => e = .returned (eB (letterOf k)) ∧ w = w' := by
  have hm := letter_mod k
  have hidx := run_acgt0 k
  have h0 : 0 ≤ k % 4 := by omega
  have h4 : k % 4 < 4 := by omega
  go_enter Tryd.func38, Tryd.ntmps38
  go_wp2
  go_ret
  exact ⟨rfl, rfl⟩
instance decFour (y : List UInt8) : Decidable (∀ k, k < y.length → codeOf (atB y k).toNat ≠ -1) := inferInstance
set_option maxRecDepth 100000 in
set_option maxHeartbeats 2000000 in
theorem rValid_any (sv : Value) (y : List UInt8) (hreach : y.length ≤ 1000000) (w : World) (hS : Sl eB w.heap.size w sv y) :
    Calls Tryd.prog 53 #[sv] w fun e w' => e = .returned (.bool (decide (∀ k, k < y.length → codeOf (atB y k).toNat ≠ -1))) ∧ w = w' := by
  have hC := fun c w => refCode_any c w
  obtain ⟨A, cap, rfl, _, hcs⟩ := hS
  go_enter Tryd.func53, Tryd.ntmps53
  go_wp2_with fail
  go_loop [3] (fun i => ∃ k : Nat, k ≤ y.length ∧ i = .int .i64 k ∧ ∀ j, j < k → codeOf (atB y j).toNat ≠ -1) (fun i => y.length - (intOf i).toNat)
  case atStart => exact ⟨0, Nat.zero_le _, rfl, fun j hj => absurd hj (by omega)⟩
  case round =>
    obtain ⟨k, hk, rfl, hok⟩ := hrel
    by_cases hlt : k < y.length
    · obtain ⟨bk, off, rfl, hb, hcell⟩ := hcs (by omega)
      have hx := hcell k _ (atB_lt hlt)
      have hkl : (k : Int) < y.length := by omega
      have hC1 := hC (atB y k)
      by_cases hbad : codeOf (atB y k).toNat = -1
      · have Hv := Lib.hid (show decide (∀ k, k < y.length → codeOf (atB y k).toNat ≠ -1) = false from decide_eq_false (fun h => h k hlt hbad))
        simp only [if_pos hbad] at hC1
        clear hbad hok hcell hcs hlt
        go_wp2_with (go_at_call 37; refine (hC1 _).mono ?_; rintro e w' ⟨rfl, rfl⟩)
        go_ret
        exact ⟨by rw [Hv.out]; rfl, rfl⟩
      · simp only [if_neg hbad] at hC1
        have Hok := Lib.hid (show ∀ j, j < k + 1 → codeOf (atB y j).toNat ≠ -1 from fun j hj => by
          by_cases e : j = k
          · rw [e]; exact hbad
          · exact hok j (by omega))
        have Hk := Lib.hid hlt
        clear hbad hok hcell hcs hlt
        generalize codeOf (atB y k).toNat = q at *
        go_wp2_with (go_at_call 37; refine (hC1 _).mono ?_; rintro e w' ⟨rfl, rfl⟩)
        refine ⟨⟨k + 1, Hk.out, by go_num, Hok.out⟩, ?_⟩
        have := Hk.out
        simp [intOf]
        omega
    · obtain rfl : k = y.length := by omega
      have Hv := Lib.hid (show decide (∀ k, k < y.length → codeOf (atB y k).toNat ≠ -1) = true from decide_eq_true hok)
      clear hok hcs
      go_wp2_with fail
      go_ret
      exact ⟨by rw [Hv.out]; rfl, rfl⟩
end Go.Proofs.YtmdpodgodhkjdaaDoor
