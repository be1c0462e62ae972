/- Contracts of gf.by and its closure, Mul. -/
import Derived.Test.YtkldapdebjlfmaaGfB
namespace Go.Proofs.Ytkldapdebjlfmaa
open Go.RowKit Go.Shelf
attribute [local go_sem] Oper.semAt_some run_store_func

theorem u8_and1 (n : Nat) : bits .and .u8 (n : Int) 1 = ((n % 2 : Nat) : Int) := by
  have h : (BitVec.ofInt IntKind.u8.bits (n : Int) &&& BitVec.ofInt IntKind.u8.bits 1).toNat = n % 2 := by
    have e : (BitVec.ofInt IntKind.u8.bits 1).toNat = 2 ^ 1 - 1 := by decide
    rw [BitVec.toNat_and, e, Nat.and_two_pow_sub_one_eq_mod, BitVec.toNat_ofInt]
    show ((n : Int) % (2 ^ 8 : Nat)).toNat % 2 = _
    omega
  unfold bits
  simp only [h]
  have h2 : n % 2 < 2 := Nat.mod_lt _ (by omega)
  generalize n % 2 = z at *
  clear h
  rcases (show z = 0 ∨ z = 1 by omega) with rfl | rfl <;> rfl

set_option maxHeartbeats 400000 in
theorem by_any (a : Nat) (w : World) :
    Calls Try.prog 62 #[bV a] w fun e w' => e = .returned (.func (.func 69) #[] #[.pointer (some ⟨w.heap.size, 0, none⟩)]) ∧ w' = w.alloc (.cells #[bV a] 5) := by
  go_enter Try.func62, Try.ntmps62
  go_wp2
  go_ret
  exact ⟨rfl, rfl⟩

set_option maxRecDepth 100000 in
set_option maxHeartbeats 2000000 in
theorem by1_any (a b p : Nat) (ha : a < 256) (_hb : b < 256) (w : World) (hc : w.cell? ⟨p, 0, none⟩ = some (bV a)) :
    Calls Try.prog 69 #[bV b, .pointer (some ⟨p, 0, none⟩)] w fun e w' => e = .returned (bV (mulN a b)) ∧ Below w.heap.size w w' := by
  go_enter Try.func69, Try.ntmps69
  go_wp2_with fail
  go_quiet (fail)
  have hBd : Below w.heap.size w (w.drewN nq) := below_drewN w nq
  generalize w.drewN nq = wd at *
  clear hc
  go_wp2_with fail
  go_loopw [4, 5, 8] (fun z x i wr => ∃ k : Nat, k ≤ 8 ∧ i = .int .i64 k ∧ z = bV (prodk a b k) ∧ x = bV (dblk a k) ∧ Below w.heap.size w wr) (fun _ _ i _ => 8 - (intOf i).toNat)
  case atStart => exact ⟨0, Nat.zero_le _, rfl, rfl, rfl, hBd⟩
  case round =>
    obtain ⟨k, hk, rfl, rfl, rfl, hB⟩ := hrel
    by_cases hlt : k < 8
    · have hl : decide ((k : Int) < 8) = true := decide_eq_true (by omega)
      have hx := dblk_lt a k ha
      have hz := prodk_lt a b k ha
      have hxz := u8_xor (prodk a b k) (dblk a k) hz hx
      have hand : bits .and .u8 ((b : Int) / 2 ^ k) 1 = ((b / 2 ^ k % 2 : Nat) : Int) := by
        rw [← u8_and1]; norm_cast
      have Hp := Lib.hid (show prodk a b (k + 1) = if b / 2 ^ k % 2 = 1 then prodk a b k ^^^ dblk a k else prodk a b k from rfl)
      have hdb := fun w => double_any (dblk a k) hx w
      rw [show dbl (dblk a k) = dblk a (k + 1) from rfl] at hdb
      generalize prodk a b k = z at *
      generalize dblk a k = x at *
      have hq2 : b / 2 ^ k % 2 < 2 := Nat.mod_lt _ (by omega)
      generalize b / 2 ^ k % 2 = q at *
      rcases (show q = 1 ∨ q = 0 by omega) with rfl | rfl
      · go_wp2_with (go_at_call 70; refine (hdb _).mono ?_; rintro e w' ⟨rfl, rfl⟩)
        exact ⟨⟨k + 1, by omega, by go_num, by rw [Hp.out, if_pos trivial], rfl, hB⟩, by simp [intOf]; omega⟩
      · go_wp2_with (go_at_call 70; refine (hdb _).mono ?_; rintro e w' ⟨rfl, rfl⟩)
        exact ⟨⟨k + 1, by omega, by go_num, by rw [Hp.out, if_neg (by omega)], rfl, hB⟩, by simp [intOf]; omega⟩
    · obtain rfl : k = 8 := by omega
      go_wp2
      go_ret
      exact ⟨rfl, hB⟩

set_option maxRecDepth 100000 in
set_option maxHeartbeats 2000000 in
theorem Mul_any (a b : Nat) (ha : a < 256) (hb : b < 256) (w : World) :
    Calls Try.prog 49 #[bV a, bV b] w fun e w' => e = .returned (bV (mulN a b)) ∧ Below w.heap.size w w' := by
  go_enter Try.func49, Try.ntmps49
  go_wp2_with fail
  go_at_call 62
  refine (by_any a _).mono ?_
  rintro e w' ⟨rfl, rfl⟩
  have hA : Below w.heap.size w (w.alloc (.cells #[bV a] 5)) := (Below.refl _ w).alloc (Nat.le_refl _) _
  have hc := (Boxed.new w 5 (bV a)).cell
  go_wp2_with fail
  go_at_call 69
  refine (by1_any a b w.heap.size ha hb _ hc).mono ?_
  rintro e w2 ⟨rfl, hB⟩
  go_wp2
  go_ret
  exact ⟨rfl, below_trans hA hB⟩
theorem Mul_is (a b r : Nat) (ha : a < 256) (hb : b < 256) (hr : mulN a b = r) (w : World) :
    Calls Try.prog 49 #[bV a, bV b] w fun e w' => e = .returned (bV r) ∧ Below w.heap.size w w' := by subst hr; exact Mul_any a b ha hb w

end Go.Proofs.Ytkldapdebjlfmaa
