/- Contracts of gf's small functions: double, rest, each and its iterator. -/
import Derived.Test.YtkldapdebjlfmaaRows
import Derived.Test.YtkldapdebjlfmaaGfM
namespace Go.Proofs.Ytkldapdebjlfmaa
open Go.RowKit Go.Shelf
attribute [local go_sem] Oper.semAt_some run_store_func

/-- A byte as a value. -/
abbrev bV (n : Nat) : Value := .int .u8 (n : Int)
theorem u8_xor (x y : Nat) (hx : x < 256) (hy : y < 256) : bits .xor .u8 (x : Int) (y : Int) = ((x ^^^ y : Nat) : Int) := by
  have hl : x ^^^ y < 256 := Nat.xor_lt_two_pow (n := 8) hx hy
  have h : (BitVec.ofInt IntKind.u8.bits (x : Int) ^^^ BitVec.ofInt IntKind.u8.bits (y : Int)).toNat = x ^^^ y := by
    rw [BitVec.toNat_xor, BitVec.toNat_ofInt, BitVec.toNat_ofInt]
    have e : ∀ z : Nat, z < 256 → ((z : Int) % ((2 ^ IntKind.u8.bits : Nat) : Int)).toNat = z := by
      intro z hz
      show ((z : Int) % ((256 : Nat) : Int)).toNat = z
      omega
    rw [e x hx, e y hy]
  unfold bits
  simp only [h]
  exact IntWalk.u8_in _ (by omega)

set_option maxRecDepth 100000 in
set_option maxHeartbeats 400000 in
theorem double_any (x : Nat) (hx : x < 256) (w : World) : Calls Try.prog 70 #[bV x] w fun e w' => e = .returned (bV (dbl x)) ∧ w = w' := by
  by_cases h : x < 128
  · have hd : decide ((x : Int) < 128) = true := decide_eq_true (by omega)
    have he : dbl x = 2 * x := by simp [dbl, h]
    have Hv := Lib.hid (show Value.int .u8 ((x : Int) * 2) = bV (dbl x) by rw [he]; congr 1; omega)
    have h256 : (x : Int) * 2 < 256 := by omega
    clear h he
    go_enter Try.func70, Try.ntmps70
    go_wp2
    go_ret
    exact ⟨by rw [← Hv.out]; rfl, rfl⟩
  · have hd : decide ((x : Int) < 128) = false := decide_eq_false (by omega)
    have hm : (x : Int) * 2 % 256 = ((2 * x - 256 : Nat) : Int) := by omega
    have he : dbl x = (2 * x - 256) ^^^ 29 := by simp [dbl, h]
    have hz : bits .xor .u8 ((2 * x - 256 : Nat) : Int) 29 = ((dbl x : Nat) : Int) := by rw [he]; exact u8_xor (2 * x - 256) 29 (by omega) (by omega)
    clear h he
    generalize 2 * x - 256 = y at *
    go_enter Try.func70, Try.ntmps70
    go_wp2
    go_ret
    exact ⟨rfl, rfl⟩
/-- The rest of a number by 255. -/
def restN (n : Int) : Nat := (n % 255).toNat
theorem restN_lt (n : Int) : restN n < 255 := by unfold restN; omega
set_option maxRecDepth 100000 in
set_option maxHeartbeats 400000 in
theorem rest_any (n : Int) (w : World) : Calls Try.prog 67 #[.int .i64 n] w fun e w' => e = .returned (.int .i64 (restN n)) ∧ w = w' := by
  have h1 : n.tmod 255 < 255 := Int.tmod_lt_of_pos _ (by omega)
  have h2 : -255 < n.tmod 255 := Int.lt_tmod_of_pos _ (by omega)
  have h3 : (n.tmod 255 + 255).tmod 255 = (restN n : Int) := by
    have h4 := Int.tmod_add_mul_tdiv n 255
    rw [Int.tmod_eq_emod_of_nonneg (by omega), restN]
    omega
  go_enter Try.func67, Try.ntmps67
  go_wp2
  go_ret
  exact ⟨rfl, rfl⟩

set_option maxHeartbeats 400000 in
theorem each_any (w : World) : Calls Try.prog 68 #[] w fun e w' => e = .returned (.func (.func 71) #[] #[]) ∧ w' = w := by
  go_enter Try.func68, Try.ntmps68
  go_wp2
  go_ret
  exact ⟨rfl, rfl⟩

set_option maxRecDepth 100000 in
set_option maxHeartbeats 2000000 in
theorem each1_in (n : Nat) (l n₀ : Nat) (J Jx : List Nat → World → Prop)
    (hY : ∀ pre x W, J pre W → pre.length < 255 → YieldAt Fence.wide n Try.prog l #[.int .i64 (x : Nat), bV (pw x)] W fun e W' =>
      (e = .returned (.bool true) ∧ J (pre ++ [x]) W' ∧ Below n₀ W W') ∨ (e = .returned (.bool false) ∧ Jx (pre ++ [x]) W'))
    (W : World) (h0 : J [] W) :
    CallsIn Fence.wide (n + 1) Try.prog 71 #[.func (.yield l) #[] #[]] W fun e W' => (∃ v, e = .returned v) ∧
      ((∃ ys, ys = List.range 255 ∧ J ys W') ∨ (∃ pre, pre <+: List.range 255 ∧ Jx pre W')) := by
  refine callsIn_of_wp Try.func71 rfl trivial ?_ rfl
  simp only [Try.ntmps71, List.size_toArray, List.length_cons, List.length_nil, Nat.reduceAdd, Nat.reduceSub, Array.replicate_succ, Array.replicate_zero, List.push_toArray, List.append_toArray, List.nil_append, List.cons_append]
  gi_wp2
  gi_loopw [2, 4] (fun z i wr => ∃ k : Nat, k ≤ 255 ∧ i = .int .i64 k ∧ z = bV (pw k) ∧ J (List.range k) wr ∧ Below n₀ W wr)
    (fun _ i _ => 255 - (intOf i).toNat)
  case atStart => exact ⟨0, Nat.zero_le _, rfl, rfl, h0, Below.refl _ _⟩
  case round =>
    obtain ⟨k, hk, rfl, rfl, hJs, hnx⟩ := hrel
    by_cases hlt : k < 255
    · obtain ⟨fn, tmps, assign, body, hy, hR⟩ := hY _ k wr hJs (by simp; omega)
      rw [← List.range_succ] at hR
      have hpre : List.range (k + 1) <+: List.range 255 := by
        have h := List.prefix_append (List.range (k + 1)) ((List.range (254 - k)).map (k + 1 + ·))
        rwa [← List.range_add, show k + 1 + (254 - k) = 255 by omega] at h
      have hl : decide ((k : Int) < 255) = true := decide_eq_true (by omega)
      have hdb := fun w => double_any (pw k) (pw_lt k) w
      have hpk : dbl (pw k) = pw (k + 1) := rfl
      rw [hpk] at hdb
      have Hpk := Lib.hid hpk
      clear hpk
      generalize pw k = p at *
      gi_wp2
      refine hR.mono ?_
      rintro e W3 (⟨rfl, hJ3, hk3⟩ | ⟨rfl, hJx3⟩)
      · gi_wp2_with (refine ⟨trivial, ?_⟩; gi_at_call 70; refine (callsIn_wide.2 (hdb _)).mono ?_; rintro e w' ⟨rfl, rfl⟩)
        go_roundw
        case rel => exact ⟨k + 1, by omega, by go_num, rfl, hJ3, hnx.trans hk3⟩
        case measure => simp [intOf]; omega
      · gi_wp2
        refine bodyPost_ret (results_none rfl _ _ _) rfl ?_
        exact ⟨⟨_, rfl⟩, .inr ⟨_, hpre, hJx3⟩⟩
    · obtain rfl : k = 255 := by omega
      gi_wp2
      go_end0
      exact ⟨⟨_, rfl⟩, .inl ⟨_, rfl, hJs⟩⟩
theorem each_stops (n n₀ : Nat) (w : World) :
    SeqStopsK Fence.wide (n + 1) Try.prog 71 #[] (fun x : Nat => #[.int .i64 (x : Nat), bV (pw x)]) (Below n₀) (fun ys => ys = List.range 255) (fun pre => pre <+: List.range 255) 255 w := fun l J Jx W _ _ _ hY h0 =>
  each1_in n l n₀ J Jx hY W h0
end Go.Proofs.Ytkldapdebjlfmaa
