/- Mathematics of groups and pieces. -/
import Derived.Test.YtjfhbhidnlgabaaDoorShW
namespace Go.Proofs.YtjfhbhidnlgabaaDoor

theorem take_sum (l : List Nat) (j : Nat) (h : j < l.length) : (l.take (j + 1)).sum = (l.take j).sum + l[j] := by
  rw [List.take_succ_eq_append_getElem h, List.sum_append]; simp
theorem grp_get (m d j : Nat) (h : j < cntOf m d) : (grp m d)[j]'(by rw [grp_length]; exact h) = min (m - j * d) d := by simp [grp]
/-- The first groups have all pieces, or are full. -/
theorem grp_sum (m d j : Nat) (hd : 0 < d) (h : j ≤ cntOf m d) : ((grp m d).take j).sum = min m (j * d) := by
  induction j with
  | zero => simp
  | succ j ih =>
    rw [take_sum _ _ (by rw [grp_length]; omega), ih (by omega), grp_get m d j (by omega)]
    have h1 := (cnt_iff m d j hd).1 (by omega)
    rw [Nat.add_mul, Nat.one_mul]
    omega
theorem cnt_all (m d : Nat) (hd : 0 < d) : m ≤ cntOf m d * d := by
  have := mt (cnt_iff m d (cntOf m d) hd).2 (Nat.lt_irrefl _)
  omega
theorem sumW_take (r m d j : Nat) (hd : 0 < d) (hm : m ≤ 4100) (hr : r ≤ 300) (h : j ≤ cntOf m d) : sumW r ((grp m d).take j) = ((min m (j * d) + j * r : Nat) : Int) := by
  have hc := cnt_le m d hd
  induction j with
  | zero => simp [sumW]
  | succ j ih =>
    have e := List.take_succ_eq_append_getElem (l := grp m d) (i := j) (by rw [grp_length]; omega)
    rw [e, sumW_snoc, ih (by omega), grp_get m d j (by omega)]
    have h1 := (cnt_iff m d j hd).1 (by omega)
    have hj : j * r ≤ 4100 * 300 := Nat.mul_le_mul (by omega) hr
    rw [Nat.add_mul, Nat.one_mul, Nat.add_mul, Nat.one_mul]
    generalize j * d = x at *
    generalize j * r = y at *
    rw [IntWalk.wrap64_in (((min (m - x) d : Nat) : Int) + (r : Int)) (by omega), IntWalk.wrap64_in _ (by omega)]
    omega
/-- All strands: the pieces, and the parity of each group. -/
theorem sumW_all (r m d : Nat) (hd : 0 < d) (hm : m ≤ 4100) (hr : r ≤ 300) : sumW r (grp m d) = ((m + cntOf m d * r : Nat) : Int) := by
  have h := sumW_take r m d (cntOf m d) hd hm hr (Nat.le_refl _)
  rw [List.take_of_length_le (by rw [grp_length]; exact Nat.le_refl _), Nat.min_eq_left (cnt_all m d hd)] at h
  exact h
theorem cnt_mono (m m' d : Nat) (h : m ≤ m') : cntOf m d ≤ cntOf m' d := Nat.div_le_div_right (by omega)
theorem pcs_mono (m m' d : Nat) (G : Int) (h : m ≤ m') : pcs m d G ≤ pcs m' d G := by
  have hc := cnt_mono m m' d h
  unfold pcs
  split
  · rename_i h1
    rw [if_pos ⟨h1.1, by omega⟩]
    generalize G.toNat * d = x
    omega
  · omega
/-- How many pieces a file has. -/
def pieces (n p : Nat) : Nat := (n + p - 1) / p
theorem pieces_le (n p : Nat) (hp : 0 < p) : pieces n p ≤ n := by
  unfold pieces
  rcases Nat.eq_zero_or_pos n with rfl | hn
  · rw [Nat.div_eq_of_lt (by omega)]; exact Nat.le_refl _
  · have h : (n + p - 1) / p < n + 1 := by
      rw [Nat.div_lt_iff_lt_mul hp, Nat.add_mul]
      have := Nat.le_mul_of_pos_right n hp
      omega
    omega
theorem pieces_mono (n n' p : Nat) (h : n ≤ n') : pieces n p ≤ pieces n' p := Nat.div_le_div_right (by omega)
/-- All pieces hold the file, and one fewer does not. -/
theorem pieces_hold (n p : Nat) (hp : 0 < p) : n ≤ pieces n p * p ∧ (0 < n → (pieces n p - 1) * p < n ∧ 0 < pieces n p) ∧ (n = 0 → pieces n p = 0) := by
  have h1 := Nat.div_add_mod (n + p - 1) p
  have h2 := Nat.mod_lt (n + p - 1) hp
  have h3 : p * ((n + p - 1) / p) = pieces n p * p := Nat.mul_comm _ _
  rw [h3] at h1
  refine ⟨by omega, fun hn => ?_, fun hn => ?_⟩
  · have h4 : 0 < pieces n p := by
      rcases Nat.eq_zero_or_pos (pieces n p) with h | h
      · rw [h] at h1; omega
      · exact h
    refine ⟨?_, h4⟩
    rw [Nat.sub_mul, Nat.one_mul]
    omega
  · subst hn
    exact Nat.div_eq_of_lt (by omega)
end Go.Proofs.YtjfhbhidnlgabaaDoor
