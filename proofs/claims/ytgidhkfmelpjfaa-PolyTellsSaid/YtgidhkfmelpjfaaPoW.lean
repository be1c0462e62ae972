/- helixlaw04's wakes. -/
import Derived.Test.YtgidhkfmelpjfaaPoU
import Derived.Test.YtgidhkfmelpjfaaK
namespace Go.Proofs.Ytgidhkfmelpjfaa
open Go.RowKit Go.Shelf
attribute [local go_sem] Oper.semAt_some run_store_func

theorem rt12 : RT [1, 2] = [2, 3, 1] := by decide +kernel
theorem rt0 : RT [] = [1] := rfl
theorem ev2 : ev [2, 3, 1] 2 = 0 := by decide +kernel
theorem ev0 : ev [2, 3, 1] 0 = 2 := by decide +kernel
theorem tr00 : tr (C [0, 0]) ([0, 0] : List UInt8).length = [] := by decide +kernel
theorem tl11 : 0 < tl (C [1, 1]) ([1, 1] : List UInt8).length := by decide +kernel
theorem div11 : DivOk [2, 3, 1] [1, 1] [2, 1] [] := by
  refine ⟨?_, by decide +kernel, .inr (by decide +kernel), .inl rfl⟩
  funext x
  match x with
  | 0 => decide +kernel
  | 1 => decide +kernel
  | 2 => decide +kernel
  | n + 3 =>
    rw [C_big [2, 3, 1] (n + 3) (by simp), PM_big [2, 1] [1, 1] (n + 3) (by simp) (by simp), C_nil]
    rfl

set_option maxRecDepth 100000 in
set_option maxHeartbeats 2000000 in
theorem wakes_any (w : World) : Calls Try.prog 9 #[] w fun e w' => e = .returned (.bool true) ∧ Below w.heap.size w w' := by
  have hA0 := below_alloc w (.cells #[.int .u8 1, .int .u8 2] 5)
  have hS0 := Sl.new eB w [1, 2] #[eB 1, eB 2] 5 (0, 0) 2 2 rfl (Nat.le_refl _) rfl
  have h0 := Roots_any _ [1, 2] (by simp) _ hS0
  rw [rt12] at h0
  go_enter Try.func9, Try.ntmps9
  go_wp2_with fail
  go_at_call 27
  refine h0.mono ?_
  rintro e w1 ⟨v1, rfl, hv1, hB1⟩
  clear h0 hS0
  have hBw := below_trans hA0 hB1
  go_wp2_with fail
  have hA2 := below_alloc w1 (.cells #[.int .u8 0, .int .u8 0] 5)
  have hS2 := Sl.new eB w1 [0, 0] #[eB 0, eB 0] 5 (0, 0) 2 2 rfl (Nat.le_refl _) rfl
  go_at_call 10
  refine (Divide_no _ _ [2, 3, 1] [0, 0] (by simp) (by simp) tr00 _ (hv1.next hA2) hS2).mono ?_
  rintro e w2 ⟨rfl, hB2⟩
  have hB12 := below_trans hA2 hB2
  replace hBw := below_trans hBw hB12
  have hv2 := hv1.next hB12
  clear hS2 hA2 hB2 hv1 hB12 hB1 hA0
  go_wp2_with fail
  have hA3 := below_alloc w2 (.cells #[.int .u8 1, .int .u8 1] 5)
  have hS3 := Sl.new eB w2 [1, 1] #[eB 1, eB 1] 5 (0, 0) 2 2 rfl (Nat.le_refl _) rfl
  go_at_call 10
  refine (Divide_yes _ _ [2, 3, 1] [1, 1] (by simp) (by simp) tl11 _ (hv2.next hA3) hS3).mono ?_
  rintro e w3 ⟨vq, vr, Q, R, hd, _, rfl, hq, hr, hB3⟩
  obtain ⟨rfl, rfl⟩ := div_one hd div11
  have hB23 := below_trans hA3 hB3
  replace hBw := below_trans hBw hB23
  have hv3 := hv2.next hB23
  clear hS3 hA3 hB3 hv2 hB23 hd
  have rs1 := run_str (P := Try.prog) hv3 22 9 5 Try.underlying22 Try.underlying5 Try.underlying9
  have rs2 := run_str (P := Try.prog) hq 22 9 5 Try.underlying22 Try.underlying5 Try.underlying9
  have E2 := fun w hw => Eval_any v1 [2, 3, 1] 2 (by simp) w hw
  have E0 := fun w hw => Eval_any v1 [2, 3, 1] 0 (by simp) w hw
  rw [ev2] at E2
  rw [ev0] at E0
  obtain ⟨A1, c1, rfl⟩ := hv3.len
  obtain ⟨A2, c2, rfl⟩ := hq.len
  obtain ⟨A3, c3, rfl⟩ := hr.len
  have rs1' : (convert 22 9 (.slice A1 3 c1)).run Try.prog w3 = .ok (.string ⟨#[2, 3, 1]⟩) w3 := rs1
  have rs2' : (convert 22 9 (.slice A2 2 c2)).run Try.prog w3 = .ok (.string ⟨#[2, 1]⟩) w3 := rs2
  clear rs1 rs2
  go_wp2_with fail
  go_at_call 23
  refine (E2 w3 hv3).mono ?_
  rintro e w4 ⟨rfl, hB4⟩
  go_wp2_with fail
  go_at_call 23
  refine (E0 w4 (hv3.next hB4)).mono ?_
  rintro e w5 ⟨rfl, hB5⟩
  go_wp2_with fail
  go_at_call 27
  refine (Roots_any (.slice none 0 0) [] (by simp) w5 ⟨none, 0, rfl, Nat.le_refl _, fun h => absurd h (by simp)⟩).mono ?_
  rintro e w6 ⟨v6, rfl, hv6, hB6⟩
  rw [rt0] at hv6
  obtain ⟨A6, c6, rfl⟩ := hv6.len
  go_wp2
  go_ret
  exact ⟨rfl, below_trans (below_trans (below_trans hBw hB4) hB5) hB6⟩
end Go.Proofs.Ytgidhkfmelpjfaa
