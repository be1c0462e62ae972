import Derived.Test.YtcngnjkpnmpcpaaDoorLvAZ
namespace Go.Proofs.YtcngnjkpnmpcpaaDoor
section
variable (e : Nat → Nat → Bool) (la lb : Nat)
def inR (n : Nat) (k : Int) : Prop := -(n : Int) ≤ k ∧ -(la : Int) ≤ k ∧ k ≤ n ∧ k ≤ lb
instance (n : Nat) (k : Int) : Decidable (inR la lb n k) := by unfold inR; infer_instance
def extG : Nat → Int → Int → Int
  | 0, _, i => i
  | f + 1, k, i => if i < la ∧ i + k < lb ∧ e i.toNat (i + k).toNat = true then extG f k (i + 1) else i
def startG (s m g k : Int) : Int := min (min (max (max s m) g) la) (lb - k)
def rch : Nat → Int → Int
  | 0, k => if k = 0 then -1 else -2000
  | n + 1, k => if inR la lb n k then extG e la lb la k (startG la lb (rch n k + 1) (rch n (k - 1)) (rch n (k + 1) + 1) k) else -2000
theorem rch_zero (k : Int) : rch e la lb 0 k = if k = 0 then -1 else -2000 := rfl
theorem rch_out (n : Nat) (k : Int) (h : ¬ inR la lb n k) : rch e la lb (n + 1) k = -2000 := by rw [rch, if_neg h]
theorem rch_in (n : Nat) (k : Int) (h : inR la lb n k) : rch e la lb (n + 1) k = extG e la lb la k (startG la lb (rch e la lb n k + 1) (rch e la lb n (k - 1)) (rch e la lb n (k + 1) + 1) k) := by rw [rch, if_pos h]
def Far (n : Nat) (k v : Int) : Prop := ∃ i j : Nat, v = i ∧ (j : Int) = i + k ∧ i ≤ la ∧ j ≤ lb ∧ lev e i j ≤ n ∧ ∀ i' j' : Nat, (j' : Int) = i' + k → i' ≤ la → j' ≤ lb → lev e i' j' ≤ n → i' ≤ i
theorem ext_spec (k : Int) : ∀ (f i j : Nat), (j : Int) = i + k → i ≤ la → j ≤ lb → la ≤ i + f → ∃ t, extG e la lb f k i = ((i + t : Nat) : Int) ∧ i + t ≤ la ∧ j + t ≤ lb ∧ lev e (i + t) (j + t) = lev e i j ∧ (i + t < la → j + t < lb → e (i + t) (j + t) = false)
 | 0, i, j, hk, hi, hj, hf => ⟨0, rfl, hi, hj, rfl, fun h => by omega⟩
 | f + 1, i, j, hk, hi, hj, hf => by
   rw [extG]
   have e1 : ((i : Int)).toNat = i := by omega
   have e2 : ((i : Int) + k).toNat = j := by omega
   rw [e1, e2]
   by_cases h : (i : Int) < la ∧ (i : Int) + k < lb ∧ e i j = true
   · rw [if_pos h]
     obtain ⟨t, h1, h2, h3, h4, h5⟩ := ext_spec k f (i + 1) (j + 1) (by omega) (by omega) (by omega) (by omega)
     refine ⟨t + 1, ?_, by omega, by omega, ?_, ?_⟩
     · rw [show (i : Int) + 1 = ((i + 1 : Nat) : Int) by omega, h1]
       omega
     · rw [show i + (t + 1) = i + 1 + t by omega, show j + (t + 1) = j + 1 + t by omega, h4, lev_keep e i j h.2.2]
     · rw [show i + (t + 1) = i + 1 + t by omega, show j + (t + 1) = j + 1 + t by omega]
       exact h5
   · rw [if_neg h]
     refine ⟨0, rfl, hi, hj, rfl, fun h1 h2 => ?_⟩
     cases hh : e i j with
     | false => simp
     | true => exact absurd ⟨by omega, by omega, hh⟩ h
theorem start_step (n : Nat) (k : Int) (hk : inR la lb (n + 1) k) (r : Int → Int) (hr : ∀ k', (inR la lb n k' ∧ Far e la lb n k' (r k')) ∨ (¬ inR la lb n k' ∧ r k' = -2000)) :
    ∃ i j : Nat, startG la lb (r k + 1) (r (k - 1)) (r (k + 1) + 1) k = i ∧ (j : Int) = i + k ∧ i ≤ la ∧ j ≤ lb ∧ lev e i j ≤ n + 1 := by
  obtain ⟨k1, k2, k3, k4⟩ := hk
  have hv : ∃ i j : Nat, max (max (r k + 1) (r (k - 1))) (r (k + 1) + 1) = i ∧ (j : Int) = i + k ∧ lev e i j ≤ n + 1 := by
   have c1 : (∃ i j : Nat, r k + 1 = i ∧ (j : Int) = i + k ∧ lev e i j ≤ n + 1) ∨ (¬ inR la lb n k ∧ r k = -2000) := by
    rcases hr k with ⟨-, i, j, h1, h2, h3, h4, h5, -⟩ | h
    · exact .inl ⟨i + 1, j + 1, by omega, by omega, by have := lev_swap e i j; omega⟩
    · exact .inr h
   have c2 : (∃ i j : Nat, r (k - 1) = i ∧ (j : Int) = i + k ∧ lev e i j ≤ n + 1) ∨ (¬ inR la lb n (k - 1) ∧ r (k - 1) = -2000) := by
    rcases hr (k - 1) with ⟨-, i, j, h1, h2, h3, h4, h5, -⟩ | h
    · exact .inl ⟨i, j + 1, by omega, by omega, by have := lev_on e i j; omega⟩
    · exact .inr h
   have c3 : (∃ i j : Nat, r (k + 1) + 1 = i ∧ (j : Int) = i + k ∧ lev e i j ≤ n + 1) ∨ (¬ inR la lb n (k + 1) ∧ r (k + 1) = -2000) := by
    rcases hr (k + 1) with ⟨-, i, j, h1, h2, h3, h4, h5, -⟩ | h
    · exact .inl ⟨i + 1, j, by omega, by omega, by have := lev_up e i j; omega⟩
    · exact .inr h
   have hin : inR la lb n k ∨ inR la lb n (k - 1) ∨ inR la lb n (k + 1) := by
    unfold inR
    by_cases h1 : k = (n : Int) + 1
    · right; left; omega
    · by_cases h2 : k = -((n : Int) + 1)
      · right; right; omega
      · left; omega
   have pick : ∀ x y z : Int, max (max x y) z = x ∨ max (max x y) z = y ∨ max (max x y) z = z := by omega
   rcases pick (r k + 1) (r (k - 1)) (r (k + 1) + 1) with hm | hm | hm
   · rw [hm]
     rcases c1 with h | ⟨h1, h2⟩
     · exact h
     · exfalso
       rcases hin with h | h | h
       · exact h1 h
       · rcases c2 with ⟨i, j, h3, -⟩ | ⟨h3, -⟩
         · omega
         · exact h3 h
       · rcases c3 with ⟨i, j, h3, -⟩ | ⟨h3, -⟩
         · omega
         · exact h3 h
   · rw [hm]
     rcases c2 with h | ⟨h1, h2⟩
     · exact h
     · exfalso
       rcases hin with h | h | h
       · rcases c1 with ⟨i, j, h3, -⟩ | ⟨h3, -⟩
         · omega
         · exact h3 h
       · exact h1 h
       · rcases c3 with ⟨i, j, h3, -⟩ | ⟨h3, -⟩
         · omega
         · exact h3 h
   · rw [hm]
     rcases c3 with h | ⟨h1, h2⟩
     · exact h
     · exfalso
       rcases hin with h | h | h
       · rcases c1 with ⟨i, j, h3, -⟩ | ⟨h3, -⟩
         · omega
         · exact h3 h
       · rcases c2 with ⟨i, j, h3, -⟩ | ⟨h3, -⟩
         · omega
         · exact h3 h
       · exact h1 h
  obtain ⟨i, j, h1, h2, h3⟩ := hv
  unfold startG
  rw [h1]
  by_cases hle : (i : Int) ≤ la ∧ (i : Int) ≤ lb - k
  · exact ⟨i, j, by omega, h2, by omega, by omega, h3⟩
  · -- down the diagonal
    obtain ⟨i0, hi0⟩ : ∃ i0 : Nat, min (min (i : Int) la) (lb - k) = i0 := ⟨(min (min (i : Int) la) (lb - k)).toNat, by omega⟩
    obtain ⟨j0, hj0⟩ : ∃ j0 : Nat, (j0 : Int) = i0 + k := ⟨((i0 : Int) + k).toNat, by omega⟩
    refine ⟨i0, j0, hi0, hj0, by omega, by omega, ?_⟩
    have := lev_diag_le e i0 j0 (i - i0)
    rw [show i0 + (i - i0) = i by omega, show j0 + (i - i0) = j by omega] at this
    omega
theorem far_step (n : Nat) (k : Int) (hk : inR la lb (n + 1) k) (r : Int → Int) (hr : ∀ k', (inR la lb n k' ∧ Far e la lb n k' (r k')) ∨ (¬ inR la lb n k' ∧ r k' = -2000)) :
    Far e la lb (n + 1) k (extG e la lb la k (startG la lb (r k + 1) (r (k - 1)) (r (k + 1) + 1) k)) := by
  have hb := start_step e la lb n k hk r hr
  obtain ⟨k1, k2, k3, k4⟩ := hk
  obtain ⟨i, j, h1, h2, h3, h4, h5⟩ := hb
  have hs := h1
  rw [h1]
  obtain ⟨t, e1, e2, e3, e4, e5⟩ := ext_spec e la lb k la i j h2 h3 h4 (by omega)
  rw [e1]
  refine ⟨i + t, j + t, rfl, by omega, e2, e3, by omega, fun i' j' f1 f2 f3 f4 => ?_⟩
  refine Decidable.byContradiction fun hlt => ?_
  have hd : lev e (i + t + 1) (j + t + 1) ≤ n + 1 := by
   have := lev_diag_le e (i + t + 1) (j + t + 1) (i' - (i + t + 1))
   rw [show i + t + 1 + (i' - (i + t + 1)) = i' by omega, show j + t + 1 + (i' - (i + t + 1)) = j' by omega] at this
   omega
  have hne := e5 (by omega) (by omega)
  rw [lev_step, if_neg (by rw [hne]; simp)] at hd
  have ap := lev_apart e
  unfold startG at hs
  by_cases g1 : lev e (i + t) (j + t + 1) ≤ n
  · have a1 := ap (i + t) (j + t + 1)
    rcases hr (k + 1) with ⟨-, i2, j2, q1, q2, q3, q4, q5, q6⟩ | ⟨q1, -⟩
    · have := q6 (i + t) (j + t + 1) (by omega) (by omega) (by omega) g1
      omega
    · exact q1 ⟨by omega, by omega, by omega, by omega⟩
  · by_cases g2 : lev e (i + t + 1) (j + t) ≤ n
    · have a1 := ap (i + t + 1) (j + t)
      rcases hr (k - 1) with ⟨-, i2, j2, q1, q2, q3, q4, q5, q6⟩ | ⟨q1, -⟩
      · have := q6 (i + t + 1) (j + t) (by omega) (by omega) (by omega) g2
        omega
      · exact q1 ⟨by omega, by omega, by omega, by omega⟩
    · have g3 : lev e (i + t) (j + t) ≤ n := by omega
      have a1 := ap (i + t) (j + t)
      rcases hr k with ⟨-, i2, j2, q1, q2, q3, q4, q5, q6⟩ | ⟨q1, -⟩
      · have := q6 (i + t) (j + t) (by omega) (by omega) (by omega) g3
        omega
      · exact q1 ⟨by omega, by omega, by omega, by omega⟩
theorem far_first (k : Int) (hk : inR la lb 0 k) : Far e la lb 0 k (rch e la lb 1 k) := by
 obtain ⟨k1, k2, k3, k4⟩ := hk
 obtain rfl : k = 0 := by omega
 rw [rch_in e la lb 0 0 ⟨by omega, by omega, by omega, by omega⟩, rch_zero, rch_zero, rch_zero, if_pos rfl, if_neg (by omega), if_neg (by omega)]
 have hs : startG la lb (-1 + 1) (-2000) (-2000 + 1) 0 = ((0 : Nat) : Int) := by unfold startG; omega
 rw [hs]
 obtain ⟨t, e1, e2, e3, e4, e5⟩ := ext_spec e la lb 0 la 0 0 (by omega) (by omega) (by omega) (by omega)
 rw [e1]
 refine ⟨0 + t, 0 + t, rfl, by omega, e2, e3, by rw [e4, lev_zero]; omega, fun i' j' f1 f2 f3 f4 => ?_⟩
 refine Decidable.byContradiction fun hlt => ?_
 have hd : lev e (0 + t + 1) (0 + t + 1) ≤ 0 := by
  have := lev_diag_le e (0 + t + 1) (0 + t + 1) (i' - (0 + t + 1))
  rw [show 0 + t + 1 + (i' - (0 + t + 1)) = i' by omega] at this
  obtain rfl : j' = i' := by omega
  omega
 have hne := e5 (by omega) (by omega)
 rw [lev_step, if_neg (by rw [hne]; simp)] at hd
 omega
theorem rch_far : ∀ n k, inR la lb n k → Far e la lb n k (rch e la lb (n + 1) k)
 | 0, k, hk => far_first e la lb k hk
 | n + 1, k, hk => by
   rw [rch_in e la lb (n + 1) k hk]
   refine far_step e la lb n k hk (rch e la lb (n + 1)) fun k' => ?_
   by_cases h : inR la lb n k'
   · exact .inl ⟨h, rch_far n k' h⟩
   · exact .inr ⟨h, rch_out e la lb n k' h⟩
theorem start_rch (n : Nat) (k : Int) (hk : inR la lb n k) : ∃ i j : Nat, startG la lb (rch e la lb n k + 1) (rch e la lb n (k - 1)) (rch e la lb n (k + 1) + 1) k = i ∧ (j : Int) = i + k ∧ i ≤ la ∧ j ≤ lb := by
 cases n with
 | zero =>
   obtain ⟨k1, k2, k3, k4⟩ := hk
   obtain rfl : k = 0 := by omega
   rw [rch_zero, rch_zero, rch_zero, if_pos rfl, if_neg (by omega), if_neg (by omega)]
   exact ⟨0, 0, by unfold startG; omega, by omega, by omega, by omega⟩
 | succ n =>
   obtain ⟨i, j, h1, h2, h3, h4, -⟩ := start_step e la lb n k hk (rch e la lb (n + 1)) fun k' => by
    by_cases h : inR la lb n k'
    · exact .inl ⟨h, rch_far e la lb n k' h⟩
    · exact .inr ⟨h, rch_out e la lb n k' h⟩
   exact ⟨i, j, h1, h2, h3, h4⟩
theorem reach_all (n : Nat) : (∃ k, inR la lb n k ∧ rch e la lb (n + 1) k = la ∧ rch e la lb (n + 1) k + k = lb) ↔ lev e la lb ≤ n := by
 constructor
 · rintro ⟨k, hk, h1, h2⟩
   obtain ⟨i, j, q1, q2, q3, q4, q5, q6⟩ := rch_far e la lb n k hk
   obtain rfl : i = la := by omega
   obtain rfl : j = lb := by omega
   exact q5
 · intro h
   have a1 := lev_apart e la lb
   have hk : inR la lb n ((lb : Int) - la) := ⟨by omega, by omega, by omega, by omega⟩
   obtain ⟨i, j, q1, q2, q3, q4, q5, q6⟩ := rch_far e la lb n _ hk
   have := q6 la lb (by omega) (Nat.le_refl _) (Nat.le_refl _) h
   exact ⟨_, hk, by omega, by omega⟩
theorem reach_row (n : Nat) : (∃ k, inR la lb n k ∧ rch e la lb (n + 1) k = la) ↔ ∃ j, j ≤ lb ∧ lev e la j ≤ n := by
 constructor
 · rintro ⟨k, hk, h1⟩
   obtain ⟨i, j, q1, q2, q3, q4, q5, q6⟩ := rch_far e la lb n k hk
   obtain rfl : i = la := by omega
   exact ⟨j, q4, q5⟩
 · rintro ⟨j0, hj, h⟩
   have a1 := lev_apart e la j0
   have hk : inR la lb n ((j0 : Int) - la) := ⟨by omega, by omega, by omega, by omega⟩
   obtain ⟨i, j, q1, q2, q3, q4, q5, q6⟩ := rch_far e la lb n _ hk
   have := q6 la j0 (by omega) (Nat.le_refl _) hj h
   exact ⟨_, hk, by omega⟩
theorem rch_bound (n : Nat) (k : Int) : -2000 ≤ rch e la lb n k ∧ rch e la lb n k ≤ la := by
 cases n with
 | zero => rw [rch_zero]; split <;> omega
 | succ n =>
   by_cases h : inR la lb n k
   · obtain ⟨i, j, q1, q2, q3, q4, q5, q6⟩ := rch_far e la lb n k h
     omega
   · rw [rch_out e la lb n k h]; omega
end
end Go.Proofs.YtcngnjkpnmpcpaaDoor
