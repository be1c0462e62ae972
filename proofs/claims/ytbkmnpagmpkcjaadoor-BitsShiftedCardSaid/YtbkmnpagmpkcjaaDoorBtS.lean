/- Contracts of the law's own row, and of helixref01's Code, Valid, Gc. -/
import Derived.Test.YtbkmnpagmpkcjaaDoorBtW
namespace Go.Proofs.YtbkmnpagmpkcjaaDoor
open Go.RowKit Go.Shelf
attribute [local go_sem] Oper.semAt_some

/-- A letter. -/
def IsLetter (c : UInt8) : Prop := c = 65 ∨ c = 67 ∨ c = 71 ∨ c = 84
set_option maxRecDepth 100000 in
set_option maxHeartbeats 1000000 in
theorem refCode_yes (c : UInt8) (h : IsLetter c) (w : World) :
    Calls Tryd.prog 20 #[.int .u8 c.toNat] w fun e w' => (∃ k, e = .returned (.tuple #[.int .i64 k, .int .i64 0])) ∧ w = w' := by
  have i0 : ∀ w, (Instr.index 9 (.string ⟨#[65, 67, 71, 84]⟩) (.int .i64 0)).run Tryd.prog w = .ok (.int .u8 65) w := fun _ => by kernel_rfl
  have i1 : ∀ w, (Instr.index 9 (.string ⟨#[65, 67, 71, 84]⟩) (.int .i64 1)).run Tryd.prog w = .ok (.int .u8 67) w := fun _ => by kernel_rfl
  have i2 : ∀ w, (Instr.index 9 (.string ⟨#[65, 67, 71, 84]⟩) (.int .i64 2)).run Tryd.prog w = .ok (.int .u8 71) w := fun _ => by kernel_rfl
  have i3 : ∀ w, (Instr.index 9 (.string ⟨#[65, 67, 71, 84]⟩) (.int .i64 3)).run Tryd.prog w = .ok (.int .u8 84) w := fun _ => by kernel_rfl
  rcases h with rfl | rfl | rfl | rfl
  all_goals
    go_enter Tryd.func20, Tryd.ntmps20
    go_wp2
    refine wp_loop_rounds 5 ?_
    rw [rounds_succ]
    go_wp2
  · go_ret2
    exact ⟨⟨0, rfl⟩, rfl⟩
  · rw [rounds_succ]
    go_wp2
    go_ret2
    exact ⟨⟨1, rfl⟩, rfl⟩
  · rw [rounds_succ]
    go_wp2
    rw [rounds_succ]
    go_wp2
    go_ret2
    exact ⟨⟨2, rfl⟩, rfl⟩
  · rw [rounds_succ]
    go_wp2
    rw [rounds_succ]
    go_wp2
    rw [rounds_succ]
    go_wp2
    go_ret2
    exact ⟨⟨3, rfl⟩, rfl⟩

set_option maxRecDepth 100000 in
set_option maxHeartbeats 1000000 in
theorem refValid_yes (sv : Value) (bs : List UInt8) (hreach : bs.length ≤ 140737488351232) (hall : ∀ c ∈ bs, IsLetter c) (B : Nat) (w : World) (hS : Sl eB B w sv bs) :
    Calls Tryd.prog 12 #[sv] w fun e w' => e = .returned (.bool true) ∧ w = w' := by
  obtain ⟨A, cap, rfl, hcap, hcs⟩ := hS
  go_enter Tryd.func12, Tryd.ntmps12
  go_wp2
  go_loop [3] (fun i => ∃ k : Nat, k ≤ bs.length ∧ i = .int .i64 k) (fun i => bs.length - (intOf i).toNat)
  case atStart => exact ⟨0, Nat.zero_le _, rfl⟩
  case round =>
    obtain ⟨k, hk, rfl⟩ := hrel
    by_cases hlt : k < bs.length
    · obtain ⟨b, off, rfl, hb, hcell⟩ := hcs (by omega)
      have hcx : w.cell? ⟨b, off + k, none⟩ = some (eB bs[k]) := hcell k _ (by simp [hlt])
      have hL : IsLetter bs[k] := hall _ (List.getElem_mem hlt)
      clear hcell hcs hall
      generalize bs[k] = x at *
      go_wp2_with (go_at_call 20; refine (refCode_yes x hL _).mono ?_; rintro e w' ⟨⟨q, rfl⟩, rfl⟩)
      go_round
      case rel => exact ⟨k + 1, by omega, by go_num⟩
      case measure => simp [intOf]; omega
    · obtain rfl : k = bs.length := by omega
      go_wp2
      go_ret
      exact ⟨rfl, rfl⟩
end Go.Proofs.YtbkmnpagmpkcjaaDoor
