/- Contracts of bits.Number and of its closure. -/
import Derived.Test.YtbkmnpagmpkcjaaDoorBtE
import Derived.StillTailTactics
namespace Go.Proofs.YtbkmnpagmpkcjaaDoor
open Go.RowKit Go.Shelf
attribute [local go_sem] Oper.semAt_some

theorem bits_and1u (n : Nat) : bits .and .u64 (n : Int) 1 = ((n % 2 : Nat) : Int) := by
  have h : (BitVec.ofInt IntKind.u64.bits (n : Int) &&& BitVec.ofInt IntKind.u64.bits 1).toNat = n % 2 := by
    have e : (BitVec.ofInt IntKind.u64.bits 1).toNat = 2 ^ 1 - 1 := by decide
    rw [BitVec.toNat_and, e, Nat.and_two_pow_sub_one_eq_mod, BitVec.toNat_ofInt]
    show ((n : Int) % (2 ^ 64 : Nat)).toNat % 2 = _
    omega
  unfold bits
  simp only [h]
  have h2 : n % 2 < 2 := Nat.mod_lt _ (by omega)
  generalize n % 2 = z at *
  clear h
  rcases (show z = 0 ∨ z = 1 by omega) with rfl | rfl <;> rfl
/-- The bit of x that stands k places from the lowest one. -/
def bitAt (x : Nat) (k : Nat) : UInt8 := UInt8.ofNat (x / 2 ^ k % 2)

set_option maxRecDepth 100000 in
set_option maxHeartbeats 2000000 in
theorem put_any (x : Nat) (many i : Nat) (bx bm bb g : Nat) (v0 : Value) (_hx : x < 18446744073709551616) (hm : many ≤ 64) (hi : i < many) (w : World)
    (hcx : w.cell? ⟨bx, 0, none⟩ = some (.int .u64 x)) (hcm : w.cell? ⟨bm, 0, none⟩ = some (.int .i64 many)) (hcb : w.cell? ⟨bb, 0, none⟩ = some (.slice (some ⟨g, 0, none⟩) many many))
    (hg : w.cell? ⟨g, i, none⟩ = some v0) (hf : w.frozen? ⟨g, i, none⟩ = false) :
    Calls Tryd.prog 22 #[.int .i64 i, .pointer (some ⟨bx, 0, none⟩), .pointer (some ⟨bm, 0, none⟩), .pointer (some ⟨bb, 0, none⟩)] w fun e w' => ∃ nq, (∃ v, e = .returned v) ∧ w' = (w.drewN nq).setCell ⟨g, i, none⟩ (eB (bitAt x (many - 1 - i))) := by
  obtain ⟨k, hk⟩ : ∃ k : Nat, many - 1 - i = k := ⟨_, rfl⟩
  have e1 : IntKind.i64.wrap ((many : Int) - 1) = ((many - 1 : Nat) : Int) := by rw [IntWalk.i64_in _ (by omega)]; omega
  have e2 : IntKind.i64.wrap (((many - 1 : Nat) : Int) - i) = (k : Int) := by rw [IntWalk.i64_in _ (by omega)]; omega
  have hk64 : k < 64 := by omega
  have hiz : (i : Int) < many := by omega
  rw [hk]
  generalize many - 1 = m1 at *
  clear hk
  go_enter Tryd.func22, Tryd.ntmps22
  go_still_tail 11, (by kernel_rfl)
  change wpList _ _ _ _ _ w.drew
  obtain ⟨w2, hw2⟩ : ∃ w2, w.drew = w2 := ⟨_, rfl⟩
  have dx : w2.cell? ⟨bx, 0, none⟩ = some (.int .u64 x) := by rw [← hw2]; exact hcx
  have dm : w2.cell? ⟨bm, 0, none⟩ = some (.int .i64 many) := by rw [← hw2]; exact hcm
  have db : w2.cell? ⟨bb, 0, none⟩ = some (.slice (some ⟨g, 0, none⟩) many many) := by rw [← hw2]; exact hcb
  have dg : w2.cell? ⟨g, i, none⟩ = some v0 := by rw [← hw2]; exact hg
  have df : w2.frozen? ⟨g, i, none⟩ = false := by rw [← hw2]; exact hf
  rw [hw2]
  clear hcx hcm hcb hg hf
  go_wp2_with fail
  have hv : (Value.int IntKind.u8 (bits BinOp.and IntKind.u64 ((x : Int) / 2 ^ k) 1 % 256)) = eB (bitAt x k) := by
    rw [show ((x : Int) / 2 ^ k) = ((x / 2 ^ k : Nat) : Int) by norm_cast, bits_and1u, bitAt, eB]
    have : x / 2 ^ k % 2 < 2 := Nat.mod_lt _ (by omega)
    generalize x / 2 ^ k % 2 = z at *
    have hz : (UInt8.ofNat z).toNat = z := by simp; omega
    rw [hz]
    congr 1
    omega
  rw [hv]
  go_end0
  exact ⟨1, ⟨_, rfl⟩, by rw [← hw2]; rfl⟩
end Go.Proofs.YtbkmnpagmpkcjaaDoor
