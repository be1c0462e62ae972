/- The walk of CrcBack. -/
import Derived.Test.YtnnhijfgbdhmiaaCrW
namespace Go.Proofs.Ytnnhijfgbdhmiaa
open Go.RowKit Go.Shelf
attribute [local go_sem] Oper.semAt_some run_store_func

theorem wV_eq (x y : BitVec 32) : ((x.toNat : Int) == (y.toNat : Int)) = decide (x = y) := by
  by_cases e : x = y
  · subst e; simp
  · have h : ¬ (x.toNat : Int) = y.toNat := fun h => e (BitVec.eq_of_toNat_eq (by omega))
    rw [decide_eq_false e]
    exact beq_eq_false_iff_ne.2 h
theorem bV_eq (x y : UInt8) : ((x.toNat : Int) == (y.toNat : Int)) = decide (x = y) := by
  by_cases e : x = y
  · subst e; simp
  · have h : ¬ (x.toNat : Int) = y.toNat := fun h => e (UInt8.toNat_inj.1 (by omega))
    rw [decide_eq_false e]
    exact beq_eq_false_iff_ne.2 h
theorem byteAt_toNat (c : BitVec 32) (k : Nat) : (byteAt c k).toNat = c.toNat / 2 ^ (8 * k) % 256 := by
  have : c.toNat / 2 ^ (8 * k) % 256 < 256 := Nat.mod_lt _ (by omega)
  simp only [byteAt]
  generalize c.toNat / 2 ^ (8 * k) % 256 = z at *
  simp; omega
theorem byteAt_bit (c : BitVec 32) (k i : Nat) : (byteW (byteAt c k)).getLsbD i = (decide (i < 8) && c.getLsbD (8 * k + i)) := by
  rw [byteW, byteAt_toNat, BitVec.getLsbD_ofNat, show (256 : Nat) = 2 ^ 8 from rfl, Nat.testBit_mod_two_pow, Nat.testBit_div_two_pow]
  by_cases h : i < 8
  · rw [decide_eq_true h, decide_eq_true (show i < 32 by omega)]
    simp [BitVec.getLsbD, Nat.add_comm]
  · rw [decide_eq_false h]; simp
theorem four_back (c : BitVec 32) : byteW (byteAt c 0) ||| byteW (byteAt c 1) <<< 8 ||| byteW (byteAt c 2) <<< 16 ||| byteW (byteAt c 3) <<< 24 = c := by
  apply BitVec.eq_of_getLsbD_eq
  intro i hi
  simp only [BitVec.getLsbD_or, BitVec.getLsbD_shiftLeft, byteAt_bit]
  rcases (show i < 8 ∨ (8 ≤ i ∧ i < 16) ∨ (16 ≤ i ∧ i < 24) ∨ 24 ≤ i by omega) with h | h | h | h
  · simp [h, show i < 16 by omega, show i < 24 by omega]
  · simp [show ¬ i < 8 by omega, hi, show i - 8 < 8 by omega, show i < 16 by omega, show i < 24 by omega, show 8 + (i - 8) = i by omega]
  · simp [show ¬ i < 8 by omega, hi, show ¬ i - 8 < 8 by omega, show ¬ i < 16 by omega, show i - 16 < 8 by omega, show i < 24 by omega, show 16 + (i - 16) = i by omega]
  · simp [show ¬ i < 8 by omega, hi, show ¬ i - 8 < 8 by omega, show ¬ i < 16 by omega, show ¬ i - 16 < 8 by omega, show ¬ i < 24 by omega, show i - 24 < 8 by omega, show 24 + (i - 24) = i by omega]

theorem shl_val (x : BitVec 32) (k : Nat) (z : Int) (hz : z = ((2 ^ k : Nat) : Int)) : (x.toNat : Int) * z % 4294967296 = ((x <<< k).toNat : Int) := by
  rw [hz, BitVec.toNat_shiftLeft, Nat.shiftLeft_eq, ← Int.natCast_mul]
  generalize x.toNat * 2 ^ k = y
  omega
theorem four_val (c : BitVec 32) : bits .or .u32 (bits .or .u32 (bits .or .u32 ((byteW (byteAt c 0)).toNat : Int) (((byteW (byteAt c 1)).toNat : Int) * 256 % 4294967296)) (((byteW (byteAt c 2)).toNat : Int) * 65536 % 4294967296)) (((byteW (byteAt c 3)).toNat : Int) * 16777216 % 4294967296) = (c.toNat : Int) := by
  rw [shl_val _ 8 256 (by decide), shl_val _ 16 65536 (by decide), shl_val _ 24 16777216 (by decide), w32_or, w32_or, w32_or, four_back]

set_option maxRecDepth 100000 in
set_option maxHeartbeats 4000000 in
theorem CrcBack_any (c d : BitVec 32) (a b : UInt8) (w : World) :
    Calls Try.prog 4 #[wV c, wV d, eB a, eB b] w fun e w' => e = .returned (.bool true) ∧ Below w.heap.size w w' := by
  obtain ⟨e1, he1⟩ : ∃ e1, decide (a = b) = e1 := ⟨_, rfl⟩
  obtain ⟨e2, he2⟩ : ∃ e2, decide (c = d) = e2 := ⟨_, rfl⟩
  have g1 : ((a.toNat : Int) == (b.toNat : Int)) = e1 := by rw [bV_eq, he1]
  have g2 : ((c.toNat : Int) == (d.toNat : Int)) = e2 := by rw [wV_eq, he2]
  have h1 : (((stepW c a).toNat : Int) == ((stepW c b).toNat : Int)) = e1 := by rw [wV_eq, ← he1]; exact decide_eq_decide.2 (stepW_byte c a b)
  have h2 : (((stepW c a).toNat : Int) == ((stepW d a).toNat : Int)) = e2 := by rw [wV_eq, ← he2]; exact decide_eq_decide.2 (stepW_word c d a)
  have hx1 := w32_xor (stepW c a) (stepW d a)
  have hx2 := w32_xor c d
  rw [stepW_xor c d a a, UInt8.xor_self] at hx1
  have s1 := fun w => Step_any c a w
  have s2 := fun w => Step_any c b w
  have s3 := fun w => Step_any d a w
  have s4 := fun w => Step_any (c ^^^ d) 0 w
  generalize stepW c a = p at *
  generalize stepW c b = q at *
  generalize stepW d a = r at *
  generalize stepW (c ^^^ d) 0 = t at *
  generalize c ^^^ d = u at *
  clear he1 he2
  have hb3 := four_val c
  have hbw := fun k => byteW_val (byteAt c k)
  go_enter Try.func4, Try.ntmps4
  go_wp2_with fail
  go_at_call 9
  refine (s1 _).mono ?_
  rintro e w' ⟨rfl, rfl⟩
  go_wp2_with fail
  go_at_call 9
  refine (s2 _).mono ?_
  rintro e w' ⟨rfl, rfl⟩
  go_wp2_with fail
  go_at_call 9
  refine (s1 _).mono ?_
  rintro e w' ⟨rfl, rfl⟩
  go_wp2_with fail
  go_at_call 9
  refine (s3 _).mono ?_
  rintro e w' ⟨rfl, rfl⟩
  go_wp2_with fail
  go_at_call 8
  refine (Four_any c _).mono ?_
  rintro e w1 ⟨rfl, hB1⟩
  have hA := below_alloc w1 (.cells #[Value.int IntKind.u8 (byteAt c 0).toNat, Value.int IntKind.u8 (byteAt c 1).toNat, Value.int IntKind.u8 (byteAt c 2).toNat, Value.int IntKind.u8 (byteAt c 3).toNat] 27)
  have hBw := below_trans hB1 hA
  clear hB1 hA
  go_wp2_with fail
  generalize w1.alloc _ = w2 at *
  go_at_call 9
  refine (s1 _).mono ?_
  rintro e w' ⟨rfl, rfl⟩
  go_wp2_with fail
  go_at_call 9
  refine (s3 _).mono ?_
  rintro e w' ⟨rfl, rfl⟩
  go_wp2_with fail
  go_at_call 9
  refine (s4 _).mono ?_
  rintro e w' ⟨rfl, rfl⟩
  go_wp2_with (go_at_call 5; refine (wakes_any _).mono ?_; rintro e w3 ⟨rfl, hB3⟩)
  go_ret
  exact ⟨rfl, below_trans hBw hB3⟩
end Go.Proofs.Ytnnhijfgbdhmiaa
