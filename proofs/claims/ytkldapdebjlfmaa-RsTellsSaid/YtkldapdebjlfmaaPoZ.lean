/- Contract of helixref03.Mul. -/
import Derived.Test.YtkldapdebjlfmaaPoF
namespace Go.Proofs.Ytkldapdebjlfmaa
open Go.RowKit Go.Shelf
attribute [local go_sem] Oper.semAt_some

theorem i64_xor (x y : Nat) (hx : x < 1024) (hy : y < 1024) : bits .xor .i64 (x : Int) (y : Int) = ((x ^^^ y : Nat) : Int) := by
  have hl : x ^^^ y < 1024 := Nat.xor_lt_two_pow (n := 10) hx hy
  have h : (BitVec.ofInt IntKind.i64.bits (x : Int) ^^^ BitVec.ofInt IntKind.i64.bits (y : Int)).toNat = x ^^^ y := by
    rw [BitVec.toNat_xor, BitVec.toNat_ofInt, BitVec.toNat_ofInt]
    have e : ∀ z : Nat, z < 1024 → ((z : Int) % ((2 ^ IntKind.i64.bits : Nat) : Int)).toNat = z := by
      intro z hz
      show ((z : Int) % ((18446744073709551616 : Nat) : Int)).toNat = z
      omega
    rw [e x hx, e y hy]
  unfold bits
  simp only [h]
  exact IntWalk.i64_in _ (by omega)
theorem dbl_up : ∀ x, x < 256 → 128 ≤ x → (2 * x) ^^^ 285 = dbl x := by decide +kernel

set_option maxRecDepth 100000 in
set_option maxHeartbeats 2000000 in
theorem RefMul_any (a b : Nat) (ha : a < 256) (_hb : b < 256) (w : World) :
    Calls Try.prog 44 #[bV a, bV b] w fun e w' => e = .returned (bV (mulN a b)) ∧ w = w' := by
  go_enter Try.func44, Try.ntmps44
  go_wp2_with fail
  go_loopw [5, 6, 7] (fun z x i wr => ∃ k : Nat, k ≤ 8 ∧ i = .int .i64 k ∧ z = .int .i64 (prodk a b k : Nat) ∧ x = .int .i64 (dblk a k : Nat) ∧ w = wr) (fun _ _ i _ => 8 - (intOf i).toNat)
  case atStart => exact ⟨0, Nat.zero_le _, rfl, rfl, rfl, rfl⟩
  case round =>
    obtain ⟨k, hk, rfl, rfl, rfl, rfl⟩ := hrel
    by_cases hlt : k < 8
    · have hl : decide ((k : Int) < 8) = true := decide_eq_true (by omega)
      have hx := dblk_lt a k ha
      have hz := prodk_lt a b k ha
      have hxz := i64_xor (prodk a b k) (dblk a k) (by omega) (by omega)
      have hand : bits .and .u8 ((b : Int) / 2 ^ k) 1 = ((b / 2 ^ k % 2 : Nat) : Int) := by
        rw [← u8_and1]; norm_cast
      have Hp := Lib.hid (show prodk a b (k + 1) = if b / 2 ^ k % 2 = 1 then prodk a b k ^^^ dblk a k else prodk a b k from rfl)
      have Hd := Lib.hid (show dblk a (k + 1) = dbl (dblk a k) from rfl)
      generalize prodk a b k = z at *
      generalize dblk a k = x at *
      have hq2 : b / 2 ^ k % 2 < 2 := Nat.mod_lt _ (by omega)
      generalize b / 2 ^ k % 2 = q at *
      by_cases hb2 : x < 128
      · have hge : decide ((256 : Int) ≤ (x : Int) * 2) = false := decide_eq_false (by omega)
        have hdb : dbl x = 2 * x := by simp [dbl, hb2]
        rcases (show q = 1 ∨ q = 0 by omega) with rfl | rfl
        · go_wp2
          exact ⟨⟨k + 1, by omega, by go_num, by rw [Hp.out, if_pos rfl], by rw [Hd.out, hdb]; congr 1; omega, trivial⟩, by simp [intOf]; omega⟩
        · go_wp2
          exact ⟨⟨k + 1, by omega, by go_num, by rw [Hp.out, if_neg (by omega)], by rw [Hd.out, hdb]; congr 1; omega, trivial⟩, by simp [intOf]; omega⟩
      · have hge : decide ((256 : Int) ≤ (x : Int) * 2) = true := decide_eq_true (by omega)
        have hdx : bits .xor .i64 ((x : Int) * 2) 285 = ((dbl x : Nat) : Int) := by
          rw [← dbl_up x hx (by omega), ← i64_xor (2 * x) 285 (by omega) (by omega)]
          congr 1
          omega
        rcases (show q = 1 ∨ q = 0 by omega) with rfl | rfl
        · go_wp2
          exact ⟨⟨k + 1, by omega, by go_num, by rw [Hp.out, if_pos rfl], by rw [Hd.out], trivial⟩, by simp [intOf]; omega⟩
        · go_wp2
          exact ⟨⟨k + 1, by omega, by go_num, by rw [Hp.out, if_neg (by omega)], by rw [Hd.out], trivial⟩, by simp [intOf]; omega⟩
    · obtain rfl : k = 8 := by omega
      have hz := prodk_lt a b 8 ha
      rw [show prodk a b 8 = mulN a b from rfl] at *
      go_wp2
      go_ret
      exact ⟨rfl, rfl⟩
theorem RefMul8 (a b : UInt8) (w : World) : Calls Try.prog 44 #[eB a, eB b] w fun e w' => e = .returned (eB (ma a b)) ∧ w = w' := by
  refine (RefMul_any a.toNat b.toNat a.toNat_lt b.toNat_lt w).mono ?_
  rintro e w' ⟨rfl, rfl⟩
  exact ⟨by rw [eB, ma_toNat], rfl⟩
end Go.Proofs.Ytkldapdebjlfmaa
