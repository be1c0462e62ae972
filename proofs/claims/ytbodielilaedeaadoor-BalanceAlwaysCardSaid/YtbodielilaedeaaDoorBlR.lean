/- The walk of BalanceAlways. -/
import Derived.Test.YtbodielilaedeaaDoorBlQ
namespace Go.Proofs.YtbodielilaedeaaDoor
open Go.RowKit Go.Shelf
attribute [local go_sem] Oper.semAt_some run_store_func

theorem clean_is (sv : Value) (bs : List UInt8) (r : Bool) (hr : decide ((-1 : Int) ∉ codesOf bs) = r) (hreach : bs.length ≤ 140737488351232) (B : Nat) (w : World) (hS : Sl eB B w sv bs) :
    Calls Tryd.prog 6 #[sv] w fun e w' => e = .returned (.bool r) ∧ w = w' := by subst hr; exact clean_any sv bs hreach B w hS
theorem strongL_is (sv : Value) (bs : List UInt8) (r : Nat) (hr : gcOf bs = r) (hreach : bs.length ≤ 140737488351232) (B : Nat) (w : World) (hS : Sl eB B w sv bs) :
    Calls Tryd.prog 9 #[sv] w fun e w' => e = .returned (.int .i64 r) ∧ w = w' := by subst hr; exact strongL_any sv bs hreach B w hS

set_option maxRecDepth 100000 in
set_option maxHeartbeats 4000000 in
theorem BalanceAlways_any (sv : Value) (bs : List UInt8) (w : World) (hS : Sl eB w.heap.size w sv bs) (hT : Tab w) (hO : TabO w) :
    Calls Tryd.prog 3 #[sv] w fun e w' => e = .returned (.bool true) ∧ Below w.heap.size w w' := by
  by_cases h1 : 300 < bs.length
  · obtain ⟨A, cap, rfl⟩ := hS.len
    have d1 : decide (300 < (bs.length : Int)) = true := decide_eq_true (by omega)
    go_enter Tryd.func3, Tryd.ntmps3
    go_wp2_with (go_at_call 7; refine (wakes_any _ hT hO).mono ?_; rintro e w1 ⟨rfl, hB1⟩)
    go_ret
    exact ⟨rfl, hB1⟩
  have d1 : decide (300 < (bs.length : Int)) = false := decide_eq_false (by omega)
  have hreach : bs.length ≤ 17592186044416 := by omega
  by_cases hfine : (-1 : Int) ∉ codesOf bs
  case neg =>
    have hcl := fun w hS => clean_is sv bs false (by simpa using hfine) (by omega) w.heap.size w hS
    obtain ⟨A, cap, rfl⟩ := hS.len
    clear hfine
    go_enter Tryd.func3, Tryd.ntmps3
    go_wp2_with fail
    go_at_call 6
    refine (hcl _ hS).mono ?_
    rintro e w' ⟨rfl, rfl⟩
    go_wp2_with (go_at_call 7; refine (wakes_any _ hT hO).mono ?_; rintro e w1 ⟨rfl, hB1⟩)
    go_ret
    exact ⟨rfl, hB1⟩
  have hcl := fun w hS => clean_is sv bs true (by simpa using hfine) (by omega) w.heap.size w hS
  have Hf := Lib.hid (show Fine bs from hfine)
  clear hfine
  by_cases hev : bs.length % 2 = 0
  case neg =>
    have d2 : ((bs.length : Int) % 2 == 0) = false := by rw [beq_eq_false_iff_ne]; omega
    have d3 : ((bs.length : Int) % 2 != 0) = true := by rw [bne_iff_ne]; omega
    clear hev
    obtain ⟨A, cap, rfl⟩ := hS.len
    go_enter Tryd.func3, Tryd.ntmps3
    go_wp2_with fail
    go_at_call 6
    refine (hcl _ hS).mono ?_
    rintro e w' ⟨rfl, rfl⟩
    go_wp2_with (go_at_call 7; refine (wakes_any _ hT hO).mono ?_; rintro e w1 ⟨rfl, hB1⟩)
    go_ret
    exact ⟨rfl, hB1⟩
  have d2 : ((bs.length : Int) % 2 == 0) = true := by rw [beq_iff_eq]; omega
  have d3 : ((bs.length : Int) % 2 != 0) = false := by rw [bne_eq_false_iff_eq]; omega
  have Hev := Lib.hid hev
  clear hev
  obtain ⟨A, cap, rfl⟩ := hS.len
  go_enter Tryd.func3, Tryd.ntmps3
  go_wp2_with fail
  go_at_call 6
  refine (hcl _ hS).mono ?_
  rintro e w' ⟨rfl, rfl⟩
  go_wp2_with fail
  go_at_call 8
  refine (Balance_any _ bs hreach w hS hT hO).mono ?_
  rintro e w1 ⟨hB1, ⟨v1, k, rfl, hy, hv1⟩ | ⟨n, rfl, hno⟩⟩
  case inr => exact absurd hno (always Hf.out Hev.out n)
  have hS1 := hS.next hB1
  have hT1 := hT.below hB1
  have hO1 := hO.below hB1
  obtain ⟨hk, -, hhalf, hleast⟩ := hy
  have hgc : gcOf (flipOf bs k) = gcOf (flipOf bs k) := rfl
  have hhalf2 : 2 * gcOf (flipOf bs k) = bs.length := by have := mk_gc Hf.out k hk; omega
  obtain ⟨g, hg⟩ : ∃ g, gcOf (flipOf bs k) = g := ⟨_, rfl⟩
  have hstr := strongL_is v1 (flipOf bs k) g hg (by rw [flipOf_length]; omega) w1.heap.size w1 hv1
  have hright := Right_yes v1 (flipOf bs k) (by rw [flipOf_length]; omega) w1 hv1 hT1 (Hf.out.flip k) (by rw [flipOf_length]; exact hhalf2)
  rw [hg] at hhalf2
  have d4 : (2 * (g : Int) == (bs.length : Int)) = true := by rw [beq_iff_eq]; omega
  have d5 : (2 * (g : Int) != (bs.length : Int)) = false := by rw [bne_eq_false_iff_eq]; omega
  have hg1 : (g : Int) ≤ 300 := by omega
  have hk1 : (k : Int) ≤ 300 := by omega
  have d7 : decide ((k : Int) < 0) = false := decide_eq_false (by omega)
  have d6 : decide ((bs.length : Int) < (k : Int)) = false := decide_eq_false (by omega)
  have d6' : decide (bs.length < k) = false := decide_eq_false (by omega)
  have Hl := Lib.hid (show ∀ j, j < k → 2 * gcOf (flipOf bs j) ≠ bs.length by
    intro j hj e
    have := mk_gc Hf.out j (by omega)
    exact hleast j hj (by omega))
  have Hk := Lib.hid hk
  have Hv1 := Lib.hid hv1
  clear hhalf hhalf2 hleast hgc hg hcl hk hT hO
  obtain ⟨A1, cap1, rfl⟩ := hv1.len
  rw [flipOf_length] at *
  go_wp2_with fail
  go_at_call 9
  refine hstr.mono ?_
  rintro e w' ⟨rfl, rfl⟩
  clear hstr
  go_wp2_with fail
  go_at_call 10
  refine hright.mono ?_
  rintro e w2 ⟨rfl, hB2⟩
  clear hright
  have hBw := below_trans hB1 hB2
  have hS2 := hS1.next hB2
  have ht2 := Hv1.out.next hB2
  have hT2 := hT1.below hB2
  have hO2 := hO1.below hB2
  clear hB1 hB2 hS hS1 hv1 hT1 hO1 Hv1
  go_wp2_with fail
  go_loopw [6] (fun i wr => ∃ j : Nat, j ≤ k ∧ i = .int .i64 j ∧ Below w2.heap.size w2 wr) (fun i _ => k - (intOf i).toNat)
  case atStart => exact ⟨0, Nat.zero_le _, rfl, Below.refl _ _⟩
  case round =>
    obtain ⟨j, hj, rfl, hBr⟩ := hrel
    by_cases hlt : j < k
    · have hne := Hl.out j hlt
      have hgl := gcOf_le (flipOf bs j)
      rw [flipOf_length] at hgl
      have hst := fun v w => strongL_any v (flipOf bs j) (by rw [flipOf_length]; omega) w.heap.size w
      generalize gcOf (flipOf bs j) = z at *
      have n1 : (2 * (z : Int) == (bs.length : Int)) = false := by rw [beq_eq_false_iff_ne]; omega
      clear hne
      go_wp2_with fail
      go_at_call 11
      refine (Flip_any _ bs j hreach wr (hS2.next hBr) (hT2.below hBr) (hO2.below hBr)).mono ?_
      rintro e w3 ⟨hB3, ⟨v3, rfl, -, -, hv3⟩ | ⟨rfl, hbad⟩⟩
      case inr => exact absurd hbad Hf.out
      go_wp2_with fail
      go_at_call 9
      refine (hst _ _ hv3).mono ?_
      rintro e w' ⟨rfl, rfl⟩
      clear hst
      go_wp2
      go_roundw
      case rel => exact ⟨j + 1, by omega, by go_num, below_trans hBr hB3⟩
      case measure => simp [intOf]; omega
    · obtain rfl : j = k := by omega
      have hS3 := hS2.next hBr
      have ht3 := ht2.next hBr
      have hT3 := hT2.below hBr
      have hO3 := hO2.below hBr
      go_wp2_with fail
      go_at_call 11
      refine (Flip_any _ (flipOf bs j) j (by rw [flipOf_length]; exact hreach) wr ht3 hT3 hO3).mono ?_
      rintro e w4 ⟨hB4, ⟨v4, rfl, -, -, hv4⟩ | ⟨rfl, hbad⟩⟩
      case inr => exact absurd hbad (Hf.out.flip j)
      rw [flip_twice Hf.out] at hv4
      have hsame := same_any _ _ _ _ _ _ hv4 (hS3.next hB4)
      rw [decide_eq_true rfl] at hsame
      obtain ⟨u, hu, hu1, hu5, hroom⟩ := width_room bs.length j Hk.out (by omega)
      have hW := fun w => Width_any (bs.length : Int) (by omega) w
      rw [hu] at hW
      have hT4 := hT3.below hB4
      have hO4 := hO3.below hB4
      have hB4' := below_trans hBw (below_trans hBr hB4)
      clear hu hv4 ht3 hS3 hT3 hO3 hT2 hO2 hS2 ht2 hBr hB4 hBw
      go_wp2_with fail
      go_at_call 12
      refine hsame.mono ?_
      rintro e w' ⟨rfl, rfl⟩
      clear hsame
      rcases (show u = 1 ∨ u = 2 ∨ u = 3 ∨ u = 4 ∨ u = 5 by omega) with rfl | rfl | rfl | rfl | rfl
      all_goals
        clear hu1 hu5
        simp only [Nat.reduceMul, Nat.reducePow] at hroom
        simp only [Nat.reduceMul, Int.cast_ofNat_Int] at hW
        have d8 := decide_eq_true (show (j : Int) < _ from Int.ofNat_lt.2 hroom)
        simp only [Int.cast_ofNat_Int] at d8
        go_wp2_with fail
        go_at_call 13
        refine (hW _).mono ?_
        rintro e w' ⟨rfl, rfl⟩
        clear hroom
        go_wp2_with (go_at_call 7; refine (wakes_any _ hT4 hO4).mono ?_; rintro e w5 ⟨rfl, hB5⟩)
        go_ret
        exact ⟨rfl, below_trans hB4' hB5⟩
end Go.Proofs.YtbodielilaedeaaDoor
