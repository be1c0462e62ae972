/- Contracts of the law's same and great. -/
import Derived.Test.YtgidhkfmelpjfaaPoW
import Derived.LoopN
namespace Go.Proofs.Ytgidhkfmelpjfaa
open Go.RowKit Go.Shelf
attribute [local go_sem] Oper.semAt_some

theorem beq_dec (a b : List UInt8) : (a == b) = decide (a = b) := by by_cases h : a = b <;> simp [h]
set_option maxRecDepth 100000 in
set_option maxHeartbeats 400000 in
theorem same_any (sa sb : Value) (a b : List UInt8) (B : Nat) (w : World) (ha : Sl eB B w sa a) (hb : Sl eB B w sb b) :
    Calls Try.prog 12 #[sa, sb] w fun e w' => e = .returned (.bool (decide (a = b))) ∧ w = w' := by
  have ra := run_str (P := Try.prog) ha 22 9 5 Try.underlying22 Try.underlying5 Try.underlying9
  have rb := run_str (P := Try.prog) hb 22 9 5 Try.underlying22 Try.underlying5 Try.underlying9
  obtain ⟨Aa, ca, rfl⟩ := ha.len
  obtain ⟨Ab, cb, rfl⟩ := hb.len
  clear ha hb
  go_enter Try.func12, Try.ntmps12
  go_wp2
  go_ret
  exact ⟨by rw [← beq_dec]; rfl, rfl⟩

set_option maxRecDepth 100000 in
set_option maxHeartbeats 1000000 in
theorem great2_no (A0 A1 : Option Addr) (l0 c0 l1 c1 b : Nat) (w : World) (h0 : w.cell? ⟨b, 0, none⟩ = some (.slice A0 l0 c0)) (h1 : w.cell? ⟨b, 1, none⟩ = some (.slice A1 l1 c1)) (k0 : l0 ≤ 120) (k1 : l1 ≤ 120) :
    Calls Try.prog 8 #[.slice (some ⟨b, 0, none⟩) 2 2] w fun e w' => e = .returned (.bool false) ∧ w = w' := by
  have d0 : decide ((120 : Int) < (l0 : Int)) = false := by simp; omega
  have d1 : decide ((120 : Int) < (l1 : Int)) = false := by simp; omega
  have e0 : ¬ 120 < l0 := by omega
  have e1 : ¬ 120 < l1 := by omega
  go_enter Try.func8, Try.ntmps8
  go_wp2_with fail
  refine wp_loop_rounds 3 ?_
  unfold Code.rounds
  go_wp2
  unfold Code.rounds
  go_wp2
  unfold Code.rounds
  go_wp2
  go_ret
  exact ⟨rfl, rfl⟩
set_option maxRecDepth 100000 in
set_option maxHeartbeats 1000000 in
theorem great2_yes (A0 A1 : Option Addr) (l0 c0 l1 c1 b : Nat) (w : World) (h0 : w.cell? ⟨b, 0, none⟩ = some (.slice A0 l0 c0)) (h1 : w.cell? ⟨b, 1, none⟩ = some (.slice A1 l1 c1)) (k : 120 < l0 ∨ 120 < l1) :
    Calls Try.prog 8 #[.slice (some ⟨b, 0, none⟩) 2 2] w fun e w' => e = .returned (.bool true) ∧ w = w' := by
  by_cases k0 : 120 < l0
  · have d0 : decide ((120 : Int) < (l0 : Int)) = true := by simp; omega
    go_enter Try.func8, Try.ntmps8
    go_wp2_with fail
    refine wp_loop_rounds 3 ?_
    unfold Code.rounds
    go_wp2
    go_ret
    exact ⟨rfl, rfl⟩
  · have k1 : 120 < l1 := by omega
    have d0 : decide ((120 : Int) < (l0 : Int)) = false := by simp; omega
    have d1 : decide ((120 : Int) < (l1 : Int)) = true := by simp; omega
    go_enter Try.func8, Try.ntmps8
    go_wp2_with fail
    refine wp_loop_rounds 3 ?_
    unfold Code.rounds
    go_wp2
    unfold Code.rounds
    go_wp2
    go_ret
    exact ⟨rfl, rfl⟩
end Go.Proofs.Ytgidhkfmelpjfaa
