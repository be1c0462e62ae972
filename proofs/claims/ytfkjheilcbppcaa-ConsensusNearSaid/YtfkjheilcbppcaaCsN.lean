/- Mathematics of consensus's laws. Of no program. -/
import Derived.Test.YtfkjheilcbppcaaCsM
namespace Go.Proofs.Ytfkjheilcbppcaa
open Go.RowKit

/-- One that is counted more often than every other one is told. -/
theorem mostF_one (keys : List Nat) (f : Nat → Nat) (k : Nat) (hk : k ∈ keys) (h0 : 0 < f k) (h : ∀ j ∈ keys, j ≠ k → f j < f k) : mostF (keys.map fun c => (c, f c)) (0, 0) = (k, f k) := by
  have h1 := (mostF_le (keys.map fun c => (c, f c)) (0, 0)).2 (k, f k) (List.mem_map.2 ⟨k, hk, rfl⟩)
  rcases mostF_mem (keys.map fun c => (c, f c)) (0, 0) with e | e
  · rw [e] at h1
    exact absurd h1 (by show ¬ f k ≤ 0; omega)
  · obtain ⟨j, hj, he⟩ := List.mem_map.1 e
    by_cases hjk : j = k
    · rw [← he, hjk]
    · have := h j hj hjk
      rw [← he] at h1
      exact absurd h1 (by show ¬ f k ≤ f j; omega)
theorem colG_le (L : List (List UInt8)) (i c : Nat) (hc : c < 256) : cntC L (lenG L).1 i c ≤ (colG L i).2 :=
  (mostF_le ((List.range 256).map fun c => (c, cntC L (lenG L).1 i c)) (0, 0)).2 (c, _) (List.mem_map.2 ⟨c, List.mem_range.2 hc, rfl⟩)
theorem cntC_pos {L : List (List UInt8)} {n i c : Nat} : 0 < cntC L n i c ↔ ∃ r ∈ L, r.length = n ∧ ((r[i]?).getD 0).toNat = c := by
  unfold cntC
  rw [List.countP_pos_iff]
  simp
theorem cntC_le (L : List (List UInt8)) (n i c : Nat) : cntC L n i c ≤ cntL L n := by
  unfold cntC cntL
  refine List.countP_mono_left fun r _ h => ?_
  rw [Bool.and_eq_true] at h
  exact h.1
theorem colG_is (L : List (List UInt8)) (hne : L ≠ []) (i : Nat) : (colG L i).1 < 256 ∧ 0 < (colG L i).2 ∧ (colG L i).2 = cntC L (lenG L).1 i (colG L i).1 := by
  obtain ⟨p1, p2⟩ := lenG_is L hne
  obtain ⟨r, hr, hl⟩ := cntL_pos.1 (show 0 < cntL L (lenG L).1 by omega)
  have h1 := colG_le L i ((r[i]?).getD 0).toNat ((r[i]?).getD 0).toNat_lt
  have h2 : 0 < cntC L (lenG L).1 i ((r[i]?).getD 0).toNat := cntC_pos.2 ⟨r, hr, hl, rfl⟩
  rcases mostF_mem ((List.range 256).map fun c => (c, cntC L (lenG L).1 i c)) (0, 0) with e | e
  · have : colG L i = (0, 0) := e
    rw [this] at h1
    exact absurd h1 (by show ¬ _ ≤ 0; omega)
  · obtain ⟨c, hc, he⟩ := List.mem_map.1 e
    have he : colG L i = (c, cntC L (lenG L).1 i c) := he.symm
    rw [he] at h1 ⊢
    exact ⟨List.mem_range.1 hc, by show 0 < cntC L (lenG L).1 i c; have h1 : cntC L (lenG L).1 i ((r[i]?).getD 0).toNat ≤ cntC L (lenG L).1 i c := h1; omega, rfl⟩
theorem ofG_at (L : List (List UInt8)) (hne : L ≠ []) (i : Nat) (h : i < (lenG L).1) : (ofG L)[i]? = some (UInt8.ofNat (colG L i).1) ∧ (UInt8.ofNat (colG L i).1).toNat = (colG L i).1 := by
  refine ⟨by simp [ofG, h], ?_⟩
  have := (colG_is L hne i).1
  rw [UInt8.toNat_ofNat']
  exact Nat.mod_eq_of_lt this
-- More than half of the rows are s.
theorem cnt_rep (p : List UInt8 → Bool) (s : List UInt8) (m : Nat) : (List.replicate m s).countP p = if p s = true then m else 0 := by
  induction m with
  | zero => simp
  | succ m ih => rw [List.replicate_succ, List.countP_cons, ih]; split <;> simp_all
theorem most_len {L : List (List UInt8)} {s : List UInt8} {m : Nat} {o : List (List UInt8)} (hp : L.Perm (List.replicate m s ++ o)) (hm : o.length < m) : lenG L = (s.length, cntL L s.length) := by
  have h1 : m ≤ cntL L s.length := by
    rw [cntL_perm hp]
    unfold cntL
    rw [List.countP_append, cnt_rep, if_pos (by simp)]
    omega
  have h2 : ∀ n, n ≠ s.length → cntL L n < m := by
    intro n hn
    rw [cntL_perm hp]
    unfold cntL
    rw [List.countP_append, cnt_rep, if_neg (by simpa using fun h => hn h.symm)]
    have := List.countP_le_length (p := fun r : List UInt8 => r.length == n) (l := o)
    omega
  refine lenG_eq (by omega) rfl (fun n => ?_) (fun n hn => ?_)
  · by_cases e : n = s.length
    · rw [e]; exact Nat.le_refl _
    · have := h2 n e; omega
  · by_cases e : n = s.length
    · omega
    · have := h2 n e; omega
theorem most_of {L : List (List UInt8)} {s : List UInt8} {m : Nat} {o : List (List UInt8)} (hp : L.Perm (List.replicate m s ++ o)) (hm : o.length < m) : ofG L = s := by
  have hl := most_len hp hm
  have hl1 : (lenG L).1 = s.length := by rw [hl]
  refine List.ext_getElem (by rw [ofG_length, hl1]) fun i h1 h2 => ?_
  have hc : colG L i = (s[i].toNat, cntC L s.length i s[i].toNat) := by
    unfold colG
    rw [hl1]
    have hsi : ((s[i]?).getD 0) = s[i] := by simp [h2]
    have g1 : m ≤ cntC L s.length i s[i].toNat := by
      rw [cntC_perm hp]
      unfold cntC
      rw [List.countP_append, cnt_rep, if_pos (by simp [hsi])]
      omega
    refine mostF_one _ _ _ (List.mem_range.2 s[i].toNat_lt) (by omega) fun c _ hcne => ?_
    have : cntC L s.length i c ≤ o.length := by
      rw [cntC_perm hp]
      unfold cntC
      rw [List.countP_append, cnt_rep, if_neg (by simp [hsi]; exact fun h => hcne h.symm)]
      have := List.countP_le_length (p := fun r : List UInt8 => r.length == s.length && ((r[i]?).getD 0).toNat == c) (l := o)
      omega
    omega
  have e : (ofG L)[i] = UInt8.ofNat (colG L i).1 := by simp [ofG]
  rw [e, hc]
  exact UInt8.toNat_inj.1 (by rw [UInt8.toNat_ofNat']; exact Nat.mod_eq_of_lt s[i].toNat_lt)
-- How far rows are apart.
/-- At how many places of n two rows differ. -/
def diffG (r y : List UInt8) (n : Nat) : Nat := (List.range n).countP fun i => !((r[i]?).getD 0 == (y[i]?).getD 0)
def apartG (L : List (List UInt8)) (y : List UInt8) : Nat := (L.map fun r => if r.length = y.length then diffG r y y.length else 0).sum
theorem diffG_succ (r y : List UInt8) (n : Nat) : diffG r y (n + 1) = diffG r y n + if (r[n]?).getD 0 = (y[n]?).getD 0 then 0 else 1 := by
  unfold diffG
  rw [List.range_succ, List.countP_append, List.countP_singleton]
  by_cases h : (r[n]?).getD 0 = (y[n]?).getD 0
  · simp [h]
  · rw [if_neg h]
    simp [h]
/-- Up to k places: what is apart, and what is the same, are all rows at each place. -/
def apartK (L : List (List UInt8)) (n : Nat) (y : List UInt8) (k : Nat) : Nat := (L.map fun r => if r.length = n then diffG r y k else 0).sum
theorem apart_step (L : List (List UInt8)) (n : Nat) (y : List UInt8) (k : Nat) : apartK L n y (k + 1) + cntC L n k ((y[k]?).getD 0).toNat = apartK L n y k + cntL L n := by
  unfold apartK cntC cntL
  induction L with
  | nil => rfl
  | cons r L ih =>
    rw [List.map_cons, List.sum_cons, List.map_cons, List.sum_cons, List.countP_cons, List.countP_cons]
    by_cases hr : r.length = n
    · rw [if_pos hr, if_pos hr, diffG_succ]
      by_cases h : (r[k]?).getD 0 = (y[k]?).getD 0
      · rw [if_pos h, if_pos (by simp [hr, h]), if_pos (by simp [hr])]
        omega
      · have h' : ¬ ((r[k]?).getD 0).toNat = ((y[k]?).getD 0).toNat := fun e => h (UInt8.toNat_inj.1 e)
        rw [if_neg h, if_neg (by simp [hr, h']), if_pos (by simp [hr])]
        omega
    · rw [if_neg hr, if_neg hr, if_neg (by simp [hr]), if_neg (by simp [hr])]
      omega
theorem apart_near (L : List (List UInt8)) (hne : L ≠ []) (y : List UInt8) : ∀ k, k ≤ (lenG L).1 → apartK L (lenG L).1 (ofG L) k ≤ apartK L (lenG L).1 y k := by
  intro k
  induction k with
  | zero =>
    intro _
    have e : ∀ z, apartK L (lenG L).1 z 0 = 0 := by
      intro z
      unfold apartK
      have : (fun r : List UInt8 => if r.length = (lenG L).1 then diffG r z 0 else 0) = fun _ => 0 := by
        funext r
        split <;> rfl
      rw [this]
      have hs : ∀ M : List (List UInt8), (M.map fun _ => 0).sum = 0 := by
        intro M
        induction M with
        | nil => rfl
        | cons r M ih => rw [List.map_cons, List.sum_cons, ih]
      exact hs L
    rw [e, e]
    exact Nat.le_refl _
  | succ k ih =>
    intro hk
    have h0 := ih (by omega)
    have h1 := apart_step L (lenG L).1 (ofG L) k
    have h2 := apart_step L (lenG L).1 y k
    obtain ⟨h3, h4⟩ := ofG_at L hne k (by omega)
    obtain ⟨h5, h6, h7⟩ := colG_is L hne k
    rw [h3, Option.getD_some, h4, ← h7] at h1
    have h8 := colG_le L k ((y[k]?).getD 0).toNat ((y[k]?).getD 0).toNat_lt
    omega
theorem near_least {L : List (List UInt8)} (hne : L ≠ []) {y : List UInt8} (hy : y.length = (lenG L).1) : apartG L (ofG L) ≤ apartG L y := by
  have h := apart_near L hne y (lenG L).1 (Nat.le_refl _)
  unfold apartK at h
  unfold apartG
  rw [ofG_length, hy]
  exact h
-- Twice as many rows; other rows.
theorem cntL_twice (L : List (List UInt8)) (n : Nat) : cntL (L ++ L) n = 2 * cntL L n := by unfold cntL; rw [List.countP_append]; omega
theorem cntC_twice (L : List (List UInt8)) (n i c : Nat) : cntC (L ++ L) n i c = 2 * cntC L n i c := by unfold cntC; rw [List.countP_append]; omega
theorem mostF_twice (keys : List Nat) (f : Nat → Nat) : ∀ s : Nat × Nat, (mostF (keys.map fun c => (c, 2 * f c)) (s.1, 2 * s.2)) = ((mostF (keys.map fun c => (c, f c)) s).1, 2 * (mostF (keys.map fun c => (c, f c)) s).2) := by
  induction keys with
  | nil => intro s; rfl
  | cons k keys ih =>
    intro s
    rw [List.map_cons, List.map_cons, mostF_cons, mostF_cons]
    by_cases h : s.2 < f k
    · rw [if_pos (show 2 * s.2 < 2 * f k by omega), if_pos h]
      exact ih (k, f k)
    · rw [if_neg (show ¬ 2 * s.2 < 2 * f k by omega), if_neg h]
      exact ih s
theorem maxL_twice (L : List (List UInt8)) : ∀ M, maxL (L ++ M) = max (maxL L) (maxL M) := by
  intro M
  induction L with
  | nil => show maxL M = max 0 (maxL M); omega
  | cons r L ih => show max r.length (maxL (L ++ M)) = max (max r.length (maxL L)) (maxL M); omega
theorem lenG_twice (L : List (List UInt8)) : lenG (L ++ L) = ((lenG L).1, 2 * (lenG L).2) := by
  have h := mostF_twice (List.range (maxL L + 1)) (cntL L) (0, 0)
  unfold lenG
  rw [maxL_twice, Nat.max_self]
  simp only [cntL_twice]
  exact h
theorem ofG_twice (L : List (List UInt8)) : ofG (L ++ L) = ofG L := by
  have hl : (lenG (L ++ L)).1 = (lenG L).1 := by rw [lenG_twice]
  have hc : ∀ i, (colG (L ++ L) i).1 = (colG L i).1 := by
    intro i
    have h := mostF_twice (List.range 256) (cntC L (lenG L).1 i) (0, 0)
    unfold colG
    rw [hl]
    simp only [cntC_twice]
    exact congrArg (·.1) h
  unfold ofG
  rw [hl]
  simp only [hc]
theorem ofG_more {L o : List (List UInt8)} (ho : ∀ r ∈ o, r.length ≠ (lenG L).1) (hm : (lenG (L ++ o)).1 = (lenG L).1) : ofG (L ++ o) = ofG L := by
  have hc : ∀ i c, cntC (L ++ o) (lenG L).1 i c = cntC L (lenG L).1 i c := by
    intro i c
    unfold cntC
    rw [List.countP_append]
    have : o.countP (fun r => r.length == (lenG L).1 && ((r[i]?).getD 0).toNat == c) = 0 := by
      rw [List.countP_eq_zero]
      intro r hr
      simp [ho r hr]
    omega
  unfold ofG colG
  rw [hm]
  simp only [hc]
end Go.Proofs.Ytfkjheilcbppcaa
