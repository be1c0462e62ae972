/- Plain facts on numbers' bits, and the walk of BitsNumbers. -/
import Derived.Test.YtbkmnpagmpkcjaaDoorBtN
import Derived.Test.YtbkmnpagmpkcjaaDoorBtX
namespace Go.Proofs.YtbkmnpagmpkcjaaDoor
open Go.RowKit Go.Shelf
attribute [local go_sem] Oper.semAt_some

theorem bits_oru (n c : Nat) (h : 2 * n + 1 < 2 ^ 64) (hc : c ≤ 1) : bits .or .u64 ((2 * n : Nat) : Int) (c : Int) = ((2 * n + c : Nat) : Int) := by
  have h1 : (BitVec.ofInt IntKind.u64.bits ((2 * n : Nat) : Int) ||| BitVec.ofInt IntKind.u64.bits (c : Int)).toNat = 2 * n + c := by
    rw [BitVec.toNat_or, BitVec.toNat_ofInt, BitVec.toNat_ofInt]
    have e1 : (((2 * n : Nat) : Int) % ((2 ^ IntKind.u64.bits : Nat) : Int)).toNat = 2 * n := by
      show (((2 * n : Nat) : Int) % ((2 ^ 64 : Nat) : Int)).toNat = _
      omega
    have e2 : ((c : Int) % ((2 ^ IntKind.u64.bits : Nat) : Int)).toNat = c := by
      show ((c : Int) % ((2 ^ 64 : Nat) : Int)).toNat = _
      omega
    rw [e1, e2]
    exact (Nat.two_pow_add_eq_or_of_lt (i := 1) (b := c) (by omega) n).symm
  unfold bits
  simp only [h1]
  exact IntWalk.u64_in _ (by omega)
theorem vstep_nat (n : Nat) (c : UInt8) (h : 2 * n + 1 < 2 ^ 64) (hc : c.toNat ≤ 1) : vstep (n : Int) c = ((2 * n + c.toNat : Nat) : Int) := by
  unfold vstep
  rw [IntWalk.u64_in _ (by omega), IntWalk.u64_in _ (by omega), show (n : Int) * 2 = ((2 * n : Nat) : Int) by omega]
  exact bits_oru n c.toNat h hc
theorem vfold_nat : ∀ (bs : List UInt8) (n : Nat), (n + 1) * 2 ^ bs.length ≤ 2 ^ 64 → (∀ b ∈ bs, b.toNat ≤ 1) → bs.foldl vstep (n : Int) = ((bs.foldl (fun y c => 2 * y + c.toNat) n : Nat) : Int) := by
  intro bs
  induction bs with
  | nil => intros; rfl
  | cons c bs ih =>
    intro n hn hb
    have hc : c.toNat ≤ 1 := hb c (by simp)
    have hp : 1 ≤ 2 ^ bs.length := Nat.one_le_two_pow
    have h2 : (n + 1) * 2 * 2 ^ bs.length ≤ 2 ^ 64 := by
      have : (n + 1) * 2 ^ (c :: bs).length = (n + 1) * 2 * 2 ^ bs.length := by rw [List.length_cons, Nat.pow_succ]; simp only [Nat.mul_assoc, Nat.mul_comm]
      omega
    have h3 : (n + 1) * 2 ≤ (n + 1) * 2 * 2 ^ bs.length := Nat.le_mul_of_pos_right _ (by omega)
    rw [List.foldl_cons, vstep_nat n c (by omega) hc, List.foldl_cons]
    refine ih _ (Nat.le_trans (Nat.mul_le_mul_right _ (by omega)) h2) (fun b hb' => hb b (by simp [hb']))
theorem bitAt_toNat (x k : Nat) : (bitAt x k).toNat = x / 2 ^ k % 2 := by
  have : x / 2 ^ k % 2 < 2 := Nat.mod_lt _ (by omega)
  simp only [bitAt]
  generalize x / 2 ^ k % 2 = z at *
  simp; omega
theorem numOf_succ (x m : Nat) : numOf x (m + 1) = bitAt x m :: numOf x m := by
  simp only [numOf, List.range_succ_eq_map, List.map_cons, List.map_map]
  congr 1
  apply List.map_congr_left
  intro j _
  simp only [Function.comp]
  congr 1
  omega
theorem numOf_fold (x : Nat) : ∀ (m y : Nat), (numOf x m).foldl (fun y c => 2 * y + c.toNat) y = y * 2 ^ m + x % 2 ^ m := by
  intro m
  induction m with
  | zero => intro y; simp [numOf, Nat.mod_one]
  | succ m ih =>
    intro y
    rw [numOf_succ, List.foldl_cons, ih, bitAt_toNat, Nat.mod_pow_succ, Nat.pow_succ]
    generalize 2 ^ m = p
    generalize x / p % 2 = z
    generalize x % p = q
    rw [Nat.add_mul, show 2 * y * p = y * (p * 2) by rw [Nat.mul_comm 2 y, Nat.mul_assoc, Nat.mul_comm 2 p], Nat.mul_comm z p]
    omega
theorem numOf_length (x m : Nat) : (numOf x m).length = m := by simp [numOf]
theorem numOf_bits (x m : Nat) : ∀ b ∈ numOf x m, b.toNat ≤ 1 := by
  intro b hb
  simp only [numOf, List.mem_map] at hb
  obtain ⟨j, _, rfl⟩ := hb
  rw [bitAt_toNat]
  have : x / 2 ^ (m - 1 - j) % 2 < 2 := Nat.mod_lt _ (by omega)
  omega
theorem valI_num (x m : Nat) (hm : m ≤ 64) (hx : x < 2 ^ m) : valI (numOf x m) = (x : Int) := by
  have h := vfold_nat (numOf x m) 0 (by rw [numOf_length, Nat.zero_add, Nat.one_mul]; exact Nat.pow_le_pow_right (by omega) hm) (numOf_bits x m)
  unfold valI
  rw [show (0 : Int) = ((0 : Nat) : Int) from rfl, h, numOf_fold, Nat.zero_mul, Nat.zero_add, Nat.mod_eq_of_lt hx]
theorem bitLen_lt (x : Nat) (hx : x < 2 ^ 64) : x < 2 ^ Lib.bitLen x := by
  rcases Nat.lt_or_ge x (2 ^ Lib.bitLen x) with h | h
  · exact h
  exfalso
  have h1 := Lib.bitLen_shift _ x h hx
  have h2 : 0 < x / 2 ^ Lib.bitLen x := Nat.div_pos h (Nat.two_pow_pos _)
  have h3 := Lib.bitLen_half (x / 2 ^ Lib.bitLen x) (by omega) (Nat.lt_of_le_of_lt (Nat.div_le_self _ _) hx)
  omega
theorem bitLen_ge (x : Nat) (hx : x < 2 ^ 64) (h0 : 0 < Lib.bitLen x) : 2 ^ (Lib.bitLen x - 1) ≤ x := by
  rcases Nat.lt_or_ge x (2 ^ (Lib.bitLen x - 1)) with h | h
  · have h64 := Lib.bitLen_le x 64 (by omega) hx
    have := Lib.bitLen_le x _ (by omega) h
    omega
  · exact h
theorem num_high (x m i : Nat) (hx : x < 2 ^ 64) (hi : i < m - Lib.bitLen x) : bitAt x (m - 1 - i) = 0 := by
  apply UInt8.toNat_inj.1
  have h1 := bitLen_lt x hx
  have h2 : 2 ^ Lib.bitLen x ≤ 2 ^ (m - 1 - i) := Nat.pow_le_pow_right (by omega) (by omega)
  rw [bitAt_toNat, Nat.div_eq_of_lt (by omega)]
  rfl
theorem num_top (x m i : Nat) (hx : x < 2 ^ 64) (h0 : 0 < Lib.bitLen x) (hm : Lib.bitLen x ≤ m) (hi : i = m - Lib.bitLen x) : bitAt x (m - 1 - i) = 1 := by
  apply UInt8.toNat_inj.1
  have h1 := bitLen_lt x hx
  have h2 := bitLen_ge x hx h0
  rw [show m - 1 - i = Lib.bitLen x - 1 by omega, bitAt_toNat]
  have h3 : 2 ^ Lib.bitLen x = 2 ^ (Lib.bitLen x - 1) * 2 := by rw [← Nat.pow_succ]; congr 1; omega
  generalize 2 ^ (Lib.bitLen x - 1) = p at *
  have h4 : x / p = 1 := Nat.div_eq_of_lt_le (by omega) (by omega)
  rw [h4]
  rfl

set_option maxRecDepth 100000 in
set_option maxHeartbeats 4000000 in
theorem BitsNumbers_no (x : Nat) (m : Int) (hx : x < 18446744073709551616) (hl : ¬ ((Lib.bitLen x : Int) ≤ m ∧ m ≤ 64)) (w : World) (hT : Tab w) :
    Calls Tryd.prog 5 #[.int .u64 x, .int .i64 m] w fun e w' => e = .returned (.bool true) ∧ Below w.heap.size w w' := by
  have hneed := fun w => need_quiet (x : Int) (by omega) (by omega) w
  simp only [Int.toNat_natCast] at hneed
  go_enter Tryd.func5, Tryd.ntmps5
  go_wp2_with fail
  go_at_call 14
  refine (hneed _).mono ?_
  rintro e w' ⟨rfl, rfl⟩
  go_wp2_with fail
  go_at_call 15
  refine (Number_no x m hx hl _).mono ?_
  rintro e w1 ⟨hB1, rfl⟩
  have hT1 := hT.below hB1
  by_cases h1 : m < Lib.bitLen x
  · have d1 : decide (m < Lib.bitLen x) = true := decide_eq_true h1
    clear hl h1
    go_wp2_with (go_at_call 7; refine (wakes_any _ hT1).mono ?_; rintro e w2 ⟨rfl, hB2⟩)
    go_ret
    exact ⟨rfl, below_trans hB1 hB2⟩
  · have d1 : decide (m < Lib.bitLen x) = false := decide_eq_false h1
    have d2 : decide (64 < m) = true := decide_eq_true (by omega)
    clear hl h1
    go_wp2_with (go_at_call 7; refine (wakes_any _ hT1).mono ?_; rintro e w2 ⟨rfl, hB2⟩)
    go_ret
    exact ⟨rfl, below_trans hB1 hB2⟩

set_option maxRecDepth 100000 in
set_option maxHeartbeats 4000000 in
theorem BitsNumbers_yes (x m : Nat) (hx : x < 18446744073709551616) (hm : m ≤ 64) (hl : Lib.bitLen x ≤ m) (w : World) (hT : Tab w) :
    Calls Tryd.prog 5 #[.int .u64 x, .int .i64 m] w fun e w' => e = .returned (.bool true) ∧ Below w.heap.size w w' := by
  have hneed := fun w => need_quiet (x : Int) (by omega) (by omega) w
  simp only [Int.toNat_natCast] at hneed
  have d1 : decide ((m : Int) < Lib.bitLen x) = false := decide_eq_false (by omega)
  have d1' : decide (m < Lib.bitLen x) = false := decide_eq_false (by omega)
  have d2 : decide ((64 : Int) < m) = false := decide_eq_false (by omega)
  have d3 : decide ((64 : Int) < Lib.bitLen x) = false := decide_eq_false (by omega)
  have hval := Lib.hid (valI_num x m hm (Nat.lt_of_lt_of_le (bitLen_lt x hx) (Nat.pow_le_pow_right (by omega) hl)))
  have hhigh := Lib.hid (fun i => num_high x m i hx)
  have htop := Lib.hid (fun i h0 => num_top x m i hx h0 hl)
  have hbit := Lib.hid (fun i => bitAt_toNat x (m - 1 - i))
  have hnum := Lib.hid (numOf_bits x m)
  have hget := Lib.hid (show ∀ k, k < m → (numOf x m)[k]? = some (bitAt x (m - 1 - k)) by intro k hk; simp [numOf, hk])
  have hno := fun w => Number_yes x m hx hm hl w
  generalize Lib.bitLen x = n at *
  have hlen := Lib.hid (numOf_length x m)
  generalize numOf x m = ns at *
  go_enter Tryd.func5, Tryd.ntmps5
  go_wp2_with fail
  go_at_call 14
  refine (hneed _).mono ?_
  rintro e w' ⟨rfl, rfl⟩
  go_wp2_with fail
  go_at_call 15
  refine (hno _).mono ?_
  rintro e w1 ⟨v, hB1, rfl, hv⟩
  have hT1 := hT.below hB1
  obtain ⟨A, cap, rfl⟩ := hv.len
  rw [hlen.out] at hv ⊢
  go_wp2_with fail
  go_at_call 16
  refine (Value_any _ ns (by rw [hlen.out]; exact hm) hnum.out _ hv hT1).mono ?_
  rintro e w2 ⟨rfl, hB2⟩
  rw [hval.out]
  have hT2 := hT1.below hB2
  have hv2 := hv.next hB2
  have hBw2 := below_trans hB1 hB2
  clear hno hneed hT hT1 hB1 hB2 hv
  go_wp2_with fail
  go_loopw [10] (fun i wr => ∃ k : Nat, k ≤ m ∧ i = .int .i64 k ∧ Below w2.heap.size w2 wr) (fun i _ => m - (intOf i).toNat)
  case atStart => exact ⟨0, Nat.zero_le _, rfl, Below.refl _ _⟩
  case round =>
    obtain ⟨k, hk, rfl, hBr⟩ := hrel
    have hv3 := hv2.next hBr
    have hT3 := hT2.below hBr
    have hBw3 := below_trans hBw2 hBr
    by_cases hlt : k < m
    · obtain ⟨bk, off, rfl, _, hc⟩ := hv3.cell_ (hget.out k hlt)
      have e1 : IntKind.i64.wrap ((m : Int) - n) = ((m - n : Nat) : Int) := by rw [IntWalk.i64_in _ (by omega)]; omega
      rcases Nat.lt_trichotomy k (m - n) with hkn | hkn | hkn
      · have hb0 := hhigh.out k hkn
        rw [hb0] at hc
        clear hv3 hv2 hT2
        simp only [eB, show ((0 : UInt8).toNat : Int) = 0 from rfl] at hc
        have l1 : decide ((k : Int) < ((m - n : Nat) : Int)) = true := decide_eq_true (by omega)
        have l2 : (k == m - n) = false := by simp; omega
        have l3 : ((k : Int) == ((m - n : Nat) : Int)) = false := by simp; omega
        generalize m - n = q at *
        go_wp2
        all_goals exact ⟨⟨k + 1, by omega, by go_num, hBr⟩, by simp [intOf]; omega⟩
      · have hb1 := htop.out k (by omega) hkn
        rw [hb1] at hc
        clear hv3 hv2 hT2
        simp only [eB, show ((1 : UInt8).toNat : Int) = 1 from rfl] at hc
        have l0 : decide ((0 : Int) < (n : Int)) = true := decide_eq_true (by omega)
        have l0' : decide (0 < n) = true := decide_eq_true (by omega)
        have l1 : decide ((k : Int) < ((m - n : Nat) : Int)) = false := decide_eq_false (by omega)
        have l3 : ((k : Int) == ((m - n : Nat) : Int)) = true := by simp; omega
        have l4 : (k == m - n) = true := by simp; omega
        have hkq := Lib.hid hkn
        clear hkn hhigh htop
        generalize m - n = q at *
        go_wp2
        all_goals first
          | exact ⟨⟨k + 1, by omega, by go_num, hBr⟩, by simp [intOf]; omega⟩
          | (exfalso; have := hkq.out; omega)
      · have hb2 := hbit.out k
        have hz2 : x / 2 ^ (m - 1 - k) % 2 < 2 := Nat.mod_lt _ (by omega)
        generalize bitAt x (m - 1 - k) = b at *
        have hb3 : decide ((1 : Int) < (b.toNat : Int)) = false := decide_eq_false (by omega)
        clear hv3 hv2 hT2 hb2 hz2
        have l1 : decide ((k : Int) < ((m - n : Nat) : Int)) = false := decide_eq_false (by omega)
        have l2 : (k == m - n) = false := by simp; omega
        have l3 : ((k : Int) == ((m - n : Nat) : Int)) = false := by simp; omega
        generalize m - n = q at *
        go_wp2
        all_goals exact ⟨⟨k + 1, by omega, by go_num, hBr⟩, by simp [intOf]; omega⟩
    · obtain rfl : k = m := by omega
      go_wp2_with (go_at_call 7; refine (wakes_any _ hT3).mono ?_; rintro e w4 ⟨rfl, hB4⟩)
      go_ret
      exact ⟨rfl, below_trans hBw3 hB4⟩

theorem BitsNumbers_any (x : Nat) (m : Int) (hx : x < 18446744073709551616) (w : World) (hT : Tab w) :
    Calls Tryd.prog 5 #[.int .u64 x, .int .i64 m] w fun e w' => e = .returned (.bool true) ∧ Below w.heap.size w w' := by
  by_cases h : (Lib.bitLen x : Int) ≤ m ∧ m ≤ 64
  · obtain ⟨n, rfl⟩ : ∃ n : Nat, m = n := ⟨m.toNat, by omega⟩
    exact BitsNumbers_yes x n hx (by omega) (by omega) w hT
  · exact BitsNumbers_no x m hx h w hT
end Go.Proofs.YtbkmnpagmpkcjaaDoor
