/- The sums of a word as one letter after another is left out: from place to place. -/
import Derived.Test.YtpjpfgahjalggaaDoorMG
import Derived.Test.YtpjpfgahjalggaaDoorMS
namespace Go.Proofs.YtpjpfgahjalggaaDoor
open Go.RowKit Go.Shelf

theorem sT_set (x : List UInt8) (p : Nat) (c : UInt8) (hp : p < x.length) (n : Nat) : sT (x.set p c) n - sT x n =
    (if p < n then (p : Int) * (ro (x.set p c) p - ro x p) else 0) + (if p + 1 < n then ((p : Int) + 1) * (ro (x.set p c) (p + 1) - ro x (p + 1)) else 0) := by
  induction n with
  | zero => simp [sT]
  | succ n ih =>
    rw [sT_succ, sT_succ]
    by_cases h1 : n = p
    · subst h1
      rw [if_neg (by omega), if_neg (by omega)] at ih
      rw [if_pos (by omega), if_neg (by omega), Int.mul_sub]
      omega
    · by_cases h2 : n = p + 1
      · subst h2
        rw [if_pos (by omega), if_neg (by omega)] at ih
        rw [if_pos (by omega), if_pos (by omega), Int.mul_sub, Int.mul_sub]
        rw [Int.mul_sub] at ih
        push_cast
        omega
      · have e : ro (x.set p c) n = ro x n := ro_congr (atB_set_other x c (fun e => h1 e.symm)) (fun _ => atB_set_other x c (by omega))
        rw [e]
        by_cases h3 : p < n
        · rw [if_pos h3, if_pos (by omega)] at ih
          rw [if_pos (by omega), if_pos (by omega)]
          omega
        · rw [if_neg h3, if_neg (by omega)] at ih
          rw [if_neg (by omega), if_neg (by omega)]
          omega
/-- What the rises at p, and behind it, are to the sum. -/
def arG (x : List UInt8) (p : Nat) : Int := (p : Int) * ro x p + (if p + 1 < x.length then ((p : Int) + 1) * ro x (p + 1) else 0)
theorem sT_around (x : List UInt8) (p : Nat) (c : UInt8) (hp : p < x.length) : sT (x.set p c) x.length - arG (x.set p c) p = sT x x.length - arG x p := by
  have h := sT_set x p c hp x.length
  rw [if_pos hp] at h
  unfold arG
  rw [List.length_set]
  by_cases h1 : p + 1 < x.length
  · rw [if_pos h1] at h
    rw [if_pos h1, if_pos h1]
    rw [Int.mul_sub, Int.mul_sub] at h
    omega
  · rw [if_neg h1] at h
    rw [if_neg h1, if_neg h1]
    rw [Int.mul_sub] at h
    omega
theorem del_set (y : List UInt8) (p : Nat) (hp : p + 1 < y.length) : delW y (p + 1) = (delW y p).set p (atB y p) := by
  have h1 := delW_length y p (by omega)
  have h2 := delW_length y (p + 1) hp
  refine ext_atB (by simp; omega) fun k hk => ?_
  rw [atB_del y (p + 1) k hp]
  by_cases h : p = k
  · subst h
    rw [if_pos (by omega), atB_set _ _ _ (by omega)]
  · rw [atB_set_other _ _ h, atB_del y p k (by omega)]
    by_cases h3 : k < p
    · rw [if_pos (by omega), if_pos h3]
    · rw [if_neg (by omega), if_neg h3]
theorem step_T (y : List UInt8) (p n : Nat) (hn : n + 1 = y.length) (hp : p + 1 < y.length) : (sT (delW y p) n % n - arG (delW y p) p + arG (delW y (p + 1)) p) % (n : Int) = sT (delW y (p + 1)) n % n := by
  have h1 := delW_length y p (by omega)
  have hl : (delW y p).length = n := by omega
  have h := sT_around (delW y p) p (atB y p) (by omega)
  rw [← del_set y p hp, hl] at h
  rw [show sT (delW y p) n % n - arG (delW y p) p + arG (delW y (p + 1)) p = sT (delW y p) n % n + (arG (delW y (p + 1)) p - arG (delW y p) p) by omega, Int.emod_add_emod]
  congr 1
  omega
theorem step_S (y : List UInt8) (p n : Nat) (hn : n + 1 = y.length) (hp : p + 1 < y.length) : (sS (delW y p) n % 4 + (codeOf (atB y p).toNat - codeOf (atB y (p + 1)).toNat)) % 4 = sS (delW y (p + 1)) n % 4 := by
  have h1 := delW_length y p (by omega)
  have ha : atB (delW y p) p = atB y (p + 1) := by rw [atB_del y p p (by omega), if_neg (by omega)]
  rw [del_set y p hp, sS_set (delW y p) p (atB y p) (by omega) n, if_pos (by omega), ha, Int.emod_add_emod]
theorem step_W (y : List UInt8) (p n : Nat) (hn : n + 1 = y.length) (hp : p + 1 < y.length) : (sW (delW y p) n % (6 * n + 1) + (codeOf (atB y p).toNat - codeOf (atB y (p + 1)).toNat) * ((p : Int) + 1)) % (6 * (n : Int) + 1) = sW (delW y (p + 1)) n % (6 * n + 1) := by
  have h1 := delW_length y p (by omega)
  have ha : atB (delW y p) p = atB y (p + 1) := by rw [atB_del y p p (by omega), if_neg (by omega)]
  rw [del_set y p hp, sW_set (delW y p) p (atB y p) (by omega) n, if_pos (by omega), ha, Int.emod_add_emod]
theorem arG_bound (x : List UInt8) (p : Nat) (hp : p < x.length) : 0 ≤ arG x p ∧ arG x p ≤ 2 * (x.length : Int) := by
  unfold arG
  rcases ro_01 x p with h | h <;> rcases ro_01 x (p + 1) with h2 | h2 <;> rw [h, h2] <;> split <;> omega
end Go.Proofs.YtpjpfgahjalggaaDoor
