/- Mathematics for helixref12.Unpack: the sums that bits tell, out of the one number that all of them are. -/
import Derived.Test.YtheealkoooiloaaDoorSxD
namespace Go.Proofs.YtheealkoooiloaaDoor
open Go.RowKit Go.Shelf

theorem numB_app (l : List UInt8) (p q : Nat) : numB l (p + q) = numB l p * 2 ^ q + numB (l.drop p) q := by
  induction q with
  | zero => simp [numB]
  | succ q ih =>
    rw [← Nat.add_assoc, numB, ih, numB, atB_drop, Nat.pow_succ]
    rw [Nat.add_mul, Nat.mul_assoc, Nat.add_assoc]
theorem numB_drop_lt (l : List UInt8) (o k : Nat) (h : ∀ j, j < o + k → (atB l j).toNat ≤ 1) : numB (l.drop o) k < 2 ^ k :=
  numB_lt _ _ fun j hj => by rw [atB_drop]; exact h _ (by omega)
/-- Where the number of bits is right and each is 0 or 1, the sums that they tell are those of the whole number. -/
theorem unG_ref (l : List UInt8) (n : Nat) (h2 : 2 ≤ n) (h1 : n ≤ 1000) (hl : l.length = longN n) (hb : ∀ k, k < l.length → (atB l k).toNat ≤ 1) :
    unG l n = if rightB (numB l (longN n) / 2 ^ (wb n + 2) : Nat) (numB l (longN n) / 2 ^ wb n % 4 : Nat) (numB l (longN n) % 2 ^ wb n : Nat) n = true then
      some (numB l (longN n) / 2 ^ (wb n + 2), numB l (longN n) / 2 ^ wb n % 4, numB l (longN n) % 2 ^ wb n) else none := by
  have hL : longN n = zb n + tb n + 2 + wb n := rfl
  have hm : mayB n = true := by unfold mayB; rw [decide_eq_true (by omega), decide_eq_true (by omega)]; rfl
  have ht := tb_lt n h2 h1
  have e1 : numB l (longN n) = numB l (zb n + tb n + 2) * 2 ^ wb n + numB (l.drop (zb n + tb n + 2)) (wb n) := by rw [hL, numB_app]
  have e2 : numB l (zb n + tb n + 2) = numB l (zb n + tb n) * 2 ^ 2 + numB (l.drop (zb n + tb n)) 2 := numB_app _ _ _
  have e3 : numB l (zb n + tb n) = numB l (zb n) * 2 ^ tb n + numB (l.drop (zb n)) (tb n) := numB_app _ _ _
  have r1 := numB_drop_lt l (zb n + tb n + 2) (wb n) (fun j hj => hb j (by omega))
  have r2 := numB_drop_lt l (zb n + tb n) 2 (fun j hj => hb j (by omega))
  have r3 := numB_drop_lt l (zb n) (tb n) (fun j hj => hb j (by omega))
  have c1 : numB l (longN n) % 2 ^ wb n = numB (l.drop (zb n + tb n + 2)) (wb n) := by
    rw [e1, Nat.mul_comm, Nat.mul_add_mod, Nat.mod_eq_of_lt r1]
  have c2 : numB l (longN n) / 2 ^ wb n = numB l (zb n + tb n + 2) := by
    rw [e1, Nat.mul_comm, Nat.mul_add_div (Nat.two_pow_pos _), Nat.div_eq_of_lt r1, Nat.add_zero]
  have c3 : numB l (longN n) / 2 ^ (wb n + 2) = numB l (zb n + tb n) := by
    rw [Nat.pow_add, ← Nat.div_div_eq_div_mul, c2, e2]
    omega
  have c4 : numB l (zb n + tb n + 2) % 4 = numB (l.drop (zb n + tb n)) 2 := by
    rw [e2]
    omega
  rw [c3, c2, c1, c4]
  unfold unG
  simp only [Int.toNat_natCast]
  by_cases hz : numB l (zb n) = 0
  · have e4 : numB l (zb n + tb n) = numB (l.drop (zb n)) (tb n) := by rw [e3, hz, Nat.zero_mul, Nat.zero_add]
    rw [e4]
    by_cases hr : rightB (numB (l.drop (zb n)) (tb n)) (numB (l.drop (zb n + tb n)) 2) (numB (l.drop (zb n + tb n + 2)) (wb n)) n = true
    · rw [if_pos hr, if_pos ⟨hm, hl, hb, hz, hr⟩]
    · rw [if_neg hr, if_neg (fun h => hr h.2.2.2.2)]
  · rw [if_neg (fun h => hz h.2.2.2.1), if_neg]
    intro hr
    obtain ⟨a', b', c', n', ea, -, -, en, -, -, hlt, -⟩ := rightB_nat hr
    have hp : 2 ^ tb n ≤ numB l (zb n) * 2 ^ tb n := Nat.le_mul_of_pos_left _ (by omega)
    omega
end Go.Proofs.YtheealkoooiloaaDoor
