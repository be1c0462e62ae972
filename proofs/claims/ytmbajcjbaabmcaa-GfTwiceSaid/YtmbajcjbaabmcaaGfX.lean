/- The walk of GfTwice. -/
import Derived.Test.YtmbajcjbaabmcaaGfP
namespace Go.Proofs.Ytmbajcjbaabmcaa
open Go.RowKit Go.Shelf
attribute [local go_sem] Oper.semAt_some run_store_func

set_option maxRecDepth 100000 in
set_option maxHeartbeats 2000000 in
theorem GfTwice_any (a b : UInt8) (w : World) : Calls Try.prog 5 #[eB a, eB b] w fun e w' => e = .returned (.bool true) ∧ Below w.heap.size w w' := by
  have ha := a.toNat_lt
  have hb := b.toNat_lt
  have hxl : a.toNat ^^^ b.toNat < 256 := Nat.xor_lt_two_pow (n := 8) ha hb
  show Calls _ _ #[bV a.toNat, bV b.toNat] _ _
  generalize a.toNat = x at *
  generalize b.toNat = y at *
  have hx := u8_xor x y ha hb
  have hsq := u8_xor (powT x 2) (powT y 2) (powT_lt x 2) (powT_lt y 2)
  rw [← pow_two_xor x y ha hb] at hsq
  have m2 := fun w => Mul_is 2 x (dbl x) (by decide) ha (mul_two x ha) w
  have m1 := fun w => Mul_is x 1 x ha (by decide) (mul_one x ha) w
  have p1 := fun w => Pow_any (x ^^^ y) 2 hxl w
  have p2 := fun w => Pow_any x 2 ha w
  have p3 := fun w => Pow_any y 2 hb w
  have p4 := fun w => Pow_any x 256 ha w
  rw [pow_256 x ha] at p4
  obtain ⟨d, hd, htwo⟩ : ∃ d : Nat, dbl x = d ∧ ((x < 128 ∧ d = 2 * x) ∨ (128 ≤ x ∧ d = (2 * x - 256) ^^^ 29)) := by
    refine ⟨_, rfl, ?_⟩
    unfold dbl
    split
    · exact .inl ⟨by omega, rfl⟩
    · exact .inr ⟨by omega, rfl⟩
  rw [hd] at m2
  clear hd
  generalize powT (x ^^^ y) 2 = s at *
  generalize powT x 2 = t at *
  generalize powT y 2 = u at *
  generalize x ^^^ y = z at *
  rcases htwo with ⟨h1, h2⟩ | ⟨h1, h2⟩
  · have hge : decide ((128 : Int) ≤ x) = false := decide_eq_false (by omega)
    have hv : (x : Int) * 2 % 256 = (d : Int) := by omega
    clear h1 h2
    go_enter Try.func5, Try.ntmps5
    go_wp2_with fail
    go_at_call 7
    refine (m2 _).mono ?_
    rintro e w1 ⟨rfl, hB1⟩
    go_wp2_with fail
    go_at_call 9
    refine (p1 _).mono ?_
    rintro e w2 ⟨rfl, hB2⟩
    go_wp2_with fail
    go_at_call 9
    refine (p2 _).mono ?_
    rintro e w3 ⟨rfl, hB3⟩
    go_wp2_with fail
    go_at_call 9
    refine (p3 _).mono ?_
    rintro e w4 ⟨rfl, hB4⟩
    go_wp2_with fail
    go_at_call 9
    refine (p4 _).mono ?_
    rintro e w5 ⟨rfl, hB5⟩
    go_wp2_with fail
    go_at_call 7
    refine (m1 _).mono ?_
    rintro e w6 ⟨rfl, hB6⟩
    go_wp2_with (go_at_call 6; refine (wakes_any _).mono ?_; rintro e w7 ⟨rfl, hB7⟩)
    go_ret
    exact ⟨rfl, below_trans hB1 (below_trans hB2 (below_trans hB3 (below_trans hB4 (below_trans hB5 (below_trans hB6 hB7)))))⟩
  · have hge : decide ((128 : Int) ≤ x) = true := decide_eq_true (by omega)
    have hv : (x : Int) * 2 % 256 = ((2 * x - 256 : Nat) : Int) := by omega
    have hz : bits .xor .u8 ((2 * x - 256 : Nat) : Int) 29 = (d : Int) := by rw [h2]; exact u8_xor (2 * x - 256) 29 (by omega) (by omega)
    clear h1 h2
    generalize 2 * x - 256 = q at *
    go_enter Try.func5, Try.ntmps5
    go_wp2_with fail
    go_at_call 7
    refine (m2 _).mono ?_
    rintro e w1 ⟨rfl, hB1⟩
    go_wp2_with fail
    go_at_call 9
    refine (p1 _).mono ?_
    rintro e w2 ⟨rfl, hB2⟩
    go_wp2_with fail
    go_at_call 9
    refine (p2 _).mono ?_
    rintro e w3 ⟨rfl, hB3⟩
    go_wp2_with fail
    go_at_call 9
    refine (p3 _).mono ?_
    rintro e w4 ⟨rfl, hB4⟩
    go_wp2_with fail
    go_at_call 9
    refine (p4 _).mono ?_
    rintro e w5 ⟨rfl, hB5⟩
    go_wp2_with fail
    go_at_call 7
    refine (m1 _).mono ?_
    rintro e w6 ⟨rfl, hB6⟩
    go_wp2_with (go_at_call 6; refine (wakes_any _).mono ?_; rintro e w7 ⟨rfl, hB7⟩)
    go_ret
    exact ⟨rfl, below_trans hB1 (below_trans hB2 (below_trans hB3 (below_trans hB4 (below_trans hB5 (below_trans hB6 hB7)))))⟩
end Go.Proofs.Ytmbajcjbaabmcaa
