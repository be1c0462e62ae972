/- helixlaw02.great of three words. -/
import Derived.Test.YtapbfjbjbcpiiaaDoorEdL
import Derived.LoopN
namespace Go.Proofs.YtapbfjbjbcpiiaaDoor
open Go.RowKit Go.Shelf
attribute [local go_sem] Oper.semAt_some

set_option maxRecDepth 100000 in
set_option maxHeartbeats 1000000 in
theorem great3_no (A0 A1 A2 : Option Addr) (l0 c0 l1 c1 l2 c2 b : Nat) (w : World) (h0 : w.cell? ⟨b, 0, none⟩ = some (.slice A0 l0 c0)) (h1 : w.cell? ⟨b, 1, none⟩ = some (.slice A1 l1 c1)) (h2 : w.cell? ⟨b, 2, none⟩ = some (.slice A2 l2 c2)) (k0 : l0 ≤ 300) (k1 : l1 ≤ 300) (k2 : l2 ≤ 300) :
    Calls Tryd.prog 14 #[.slice (some ⟨b, 0, none⟩) 3 3] w fun e w' => e = .returned (.bool false) ∧ w = w' := by
  have d0 : decide ((300 : Int) < (l0 : Int)) = false := by simp; omega
  have d1 : decide ((300 : Int) < (l1 : Int)) = false := by simp; omega
  have d2 : decide ((300 : Int) < (l2 : Int)) = false := by simp; omega
  have e0 : ¬ 300 < l0 := by omega
  have e1 : ¬ 300 < l1 := by omega
  have e2 : ¬ 300 < l2 := by omega
  go_enter Tryd.func14, Tryd.ntmps14
  go_wp2_with fail
  refine wp_loop_rounds 4 ?_
  unfold Code.rounds
  go_wp2
  unfold Code.rounds
  go_wp2
  unfold Code.rounds
  go_wp2
  unfold Code.rounds
  go_wp2
  go_ret
  exact ⟨rfl, rfl⟩
set_option maxRecDepth 100000 in
set_option maxHeartbeats 1000000 in
theorem great3_yes (A0 A1 A2 : Option Addr) (l0 c0 l1 c1 l2 c2 b : Nat) (w : World) (h0 : w.cell? ⟨b, 0, none⟩ = some (.slice A0 l0 c0)) (h1 : w.cell? ⟨b, 1, none⟩ = some (.slice A1 l1 c1)) (h2 : w.cell? ⟨b, 2, none⟩ = some (.slice A2 l2 c2)) (k : 300 < l0 ∨ 300 < l1 ∨ 300 < l2) :
    Calls Tryd.prog 14 #[.slice (some ⟨b, 0, none⟩) 3 3] w fun e w' => e = .returned (.bool true) ∧ w = w' := by
  by_cases k0 : 300 < l0
  · have d0 : decide ((300 : Int) < (l0 : Int)) = true := by simp; omega
    go_enter Tryd.func14, Tryd.ntmps14
    go_wp2_with fail
    refine wp_loop_rounds 4 ?_
    unfold Code.rounds
    go_wp2
    go_ret
    exact ⟨rfl, rfl⟩
  · have d0 : decide ((300 : Int) < (l0 : Int)) = false := by simp; omega
    by_cases k1 : 300 < l1
    · have d1 : decide ((300 : Int) < (l1 : Int)) = true := by simp; omega
      clear k
      go_enter Tryd.func14, Tryd.ntmps14
      go_wp2_with fail
      refine wp_loop_rounds 4 ?_
      unfold Code.rounds
      go_wp2
      unfold Code.rounds
      go_wp2
      go_ret
      exact ⟨rfl, rfl⟩
    · have k2 : 300 < l2 := by omega
      have d1 : decide ((300 : Int) < (l1 : Int)) = false := by simp; omega
      have d2 : decide ((300 : Int) < (l2 : Int)) = true := by simp; omega
      clear k
      go_enter Tryd.func14, Tryd.ntmps14
      go_wp2_with fail
      refine wp_loop_rounds 4 ?_
      unfold Code.rounds
      go_wp2
      unfold Code.rounds
      go_wp2
      unfold Code.rounds
      go_wp2
      go_ret
      exact ⟨rfl, rfl⟩
end Go.Proofs.YtapbfjbjbcpiiaaDoor
