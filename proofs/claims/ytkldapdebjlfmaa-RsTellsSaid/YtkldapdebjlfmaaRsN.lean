/- Mathematics: few errors in a right word are none. -/
import Derived.Test.YtkldapdebjlfmaaRsM
namespace Go.Proofs.Ytkldapdebjlfmaa

theorem RT_value (l : List UInt8) (r x : UInt8) : ev (RT (l ++ [r])) x = ma (ev (RT l) x) (r ^^^ x) := by
  have e2 : ev [r, 1] x = r ^^^ x := by simp only [ev, zero_ma, zero_x, one_ma]; exact x_comm _ _
  rw [RT_snoc, ← e2, ← ev_mulR]
  refine ev_congr ?_ _
  rw [C_mulR]
  exact C_tr _ _ (fun j hj => PM_big' (RT l) [r, 1] j hj)
theorem RT_iff (l : List UInt8) (x : UInt8) : ev (RT l) x = 0 ↔ x ∈ l := by
  have key : ∀ k, k ≤ l.length → (ev (RT (l.take k)) x = 0 ↔ x ∈ l.take k) := by
    intro k
    induction k with
    | zero =>
      intro _
      have : ev (RT []) x = 1 := by simp [RT, ev, zero_ma]
      simp [this]
    | succ k ih =>
      intro hk
      rw [List.take_succ_eq_append_getElem (by omega : k < l.length), RT_value, List.mem_append, List.mem_singleton]
      constructor
      · intro h
        by_cases h1 : ev (RT (l.take k)) x = 0
        · exact .inl ((ih (by omega)).1 h1)
        · by_cases h2 : l[k] ^^^ x = 0
          · exact .inr ((x_eq_zero _ _).1 h2).symm
          · exact absurd h (ma_ne _ _ h1 h2)
      · rintro (h | h)
        · rw [(ih (by omega)).2 h, zero_ma]
        · rw [h, x_self, ma_zero]
  have h := key l.length (Nat.le_refl _)
  rwa [List.take_length] at h

/-- Put together, one behind the other. -/
def sumF (h : Nat → UInt8) : Nat → UInt8
  | 0 => 0
  | n + 1 => sumF h n ^^^ h n
theorem sumF_congr {f g : Nat → UInt8} (n : Nat) (h : ∀ k, k < n → f k = g k) : sumF f n = sumF g n := by
  induction n with
  | zero => rfl
  | succ n ih => simp only [sumF]; rw [ih (fun k hk => h k (by omega)), h n (by omega)]
theorem sumF_xor (f g : Nat → UInt8) (n : Nat) : sumF (fun k => f k ^^^ g k) n = sumF f n ^^^ sumF g n := by
  induction n with
  | zero => exact (x_self 0).symm
  | succ n ih => simp only [sumF]; rw [ih]; exact x_four _ _ _ _
theorem sumF_ma (c : UInt8) (f : Nat → UInt8) (n : Nat) : sumF (fun k => ma c (f k)) n = ma c (sumF f n) := by
  induction n with
  | zero => exact (ma_zero c).symm
  | succ n ih => simp only [sumF]; rw [ih, ma_xor]
theorem sumF_zero (f : Nat → UInt8) (n : Nat) (h : ∀ k, k < n → f k = 0) : sumF f n = 0 := by
  induction n with
  | zero => rfl
  | succ n ih => simp only [sumF]; rw [ih (fun k hk => h k (by omega)), h n (by omega), x_self]
theorem sumF_single (f : Nat → UInt8) (n k0 : Nat) (hk : k0 < n) (h : ∀ k, k < n → k ≠ k0 → f k = 0) : sumF f n = f k0 := by
  induction n with
  | zero => omega
  | succ n ih =>
    simp only [sumF]
    by_cases e : k0 = n
    · subst e
      rw [sumF_zero f k0 (fun k hk => h k (by omega) (by omega)), zero_x]
    · rw [ih (by omega) (fun k hk => h k (by omega)), h n (by omega) (fun h => e h.symm), x_zero]
theorem hvF_sum (x : UInt8) (e : Nat → UInt8) (n : Nat) : hvF x e n = sumF (fun k => ma (e k) (xp x (n - 1 - k))) n := by
  induction n with
  | zero => rfl
  | succ n ih =>
    show ma (hvF x e n) x ^^^ e n = sumF (fun k => ma (e k) (xp x (n + 1 - 1 - k))) n ^^^ ma (e n) (xp x (n + 1 - 1 - n))
    rw [show n + 1 - 1 - n = 0 by omega]
    show _ = _ ^^^ ma (e n) 1
    rw [ma_one, ih, ma_comm, ← sumF_ma]
    congr 1
    refine sumF_congr n fun k hk => ?_
    rw [show n + 1 - 1 - k = (n - 1 - k) + 1 by omega]
    show ma x (ma (e k) (xp x (n - 1 - k))) = ma (e k) (ma (xp x (n - 1 - k)) x)
    rw [ma_comm, ma_assoc]

theorem g2_mul (a b : Nat) : ma (g2 a) (g2 b) = g2 (a + b) := b_ext (by rw [ma_toNat, g2_toNat, g2_toNat, g2_toNat, pw_mul])
theorem xp_g2 (a n : Nat) : xp (g2 a) n = g2 (a * n) := by
  induction n with
  | zero => rfl
  | succ n ih =>
    show ma (xp (g2 a) n) (g2 a) = _
    rw [ih, g2_mul]
    rfl
theorem g2_inj (a b : Nat) (ha : a < 255) (hb : b < 255) (h : g2 a = g2 b) : a = b := by
  refine pw_inj a b ha hb ?_
  rw [← g2_toNat, ← g2_toNat, h]
/-- All sums by a row of at most p factors are nought. -/
theorem moments (N : Nat) (e : Nat → UInt8) (X : Nat → UInt8) (p : Nat) (hS : ∀ i, i < p → sumF (fun k => ma (e k) (xp (X k) i)) N = 0) :
    ∀ (L : List UInt8) (i : Nat), i + L.length ≤ p → sumF (fun k => ma (ma (e k) (xp (X k) i)) (ev L (X k))) N = 0 := by
  intro L
  induction L with
  | nil => intro i _; exact sumF_zero _ _ fun k _ => by rw [show ev [] (X k) = 0 from rfl, ma_zero]
  | cons c L ih =>
    intro i hi
    rw [List.length_cons] at hi
    have h1 := ih (i + 1) (by omega)
    have h2 : sumF (fun k => ma (ma (e k) (xp (X k) i)) (ev (c :: L) (X k))) N = sumF (fun k => ma (ma (e k) (xp (X k) (i + 1))) (ev L (X k)) ^^^ ma c (ma (e k) (xp (X k) i))) N := by
      refine sumF_congr N fun k _ => ?_
      show ma (ma (e k) (xp (X k) i)) (ma (ev L (X k)) (X k) ^^^ c) = ma (ma (e k) (ma (xp (X k) i) (X k))) (ev L (X k)) ^^^ ma c (ma (e k) (xp (X k) i))
      rw [ma_xor, ma_comm _ c]
      congr 1
      rw [ma_comm (ev L (X k)), ← ma_assoc, ma_assoc (e k)]
    rw [h2, sumF_xor, h1, sumF_ma, hS i (by omega), ma_zero, x_self]
/-- Few errors are none. -/
theorem few (N p : Nat) (hN : N ≤ 255) (e : Nat → UInt8) (hw : ((List.range N).filter fun k => e k ≠ 0).length ≤ p) (hs : ∀ i, i < p → hvF (g2 i) e N = 0) : ∀ k, k < N → e k = 0 := by
  intro k0 hk0
  apply Classical.byContradiction
  intro hne
  obtain ⟨nz, hnz⟩ : ∃ nz, (List.range N).filter (fun k => e k ≠ 0) = nz := ⟨_, rfl⟩
  rw [hnz] at hw
  have hmem : ∀ k, k ∈ nz ↔ k < N ∧ e k ≠ 0 := fun k => by rw [← hnz]; simp
  have hnd : nz.Nodup := by rw [← hnz]; exact List.nodup_range.filter _
  have hk0m : k0 ∈ nz := (hmem k0).2 ⟨hk0, hne⟩
  have hlen := List.length_erase_of_mem hk0m
  have hpos : 0 < nz.length := List.length_pos_of_mem hk0m
  have hS : ∀ i, i < p → sumF (fun k => ma (e k) (xp (g2 (N - 1 - k)) i)) N = 0 := by
    intro i hi
    rw [← hs i hi, hvF_sum]
    refine sumF_congr N fun k _ => ?_
    rw [xp_g2, xp_g2, Nat.mul_comm]
  have hm := moments N e (fun k => g2 (N - 1 - k)) p hS (RT ((nz.erase k0).map fun k => g2 (N - 1 - k))) 0 (by rw [(RT_monic _).1, List.length_map]; omega)
  rw [sumF_single _ N k0 hk0 ?_] at hm
  · refine absurd hm (ma_ne _ _ ?_ ?_)
    · show ma (e k0) 1 ≠ 0
      rw [ma_one]; exact hne
    · intro h
      have h1 := (RT_iff _ _).1 h
      obtain ⟨j, hj, hjx⟩ := List.mem_map.1 h1
      have hj2 := (hmem j).1 (List.mem_of_mem_erase hj)
      have h3 := g2_inj _ _ (by omega) (by omega) hjx
      have : j = k0 := by omega
      subst this
      exact hnd.not_mem_erase hj
  · intro k hk hkne
    by_cases hz : e k = 0
    · rw [hz, zero_ma, zero_ma]
    · have hin : k ∈ nz.erase k0 := (List.mem_erase_of_ne hkne).2 ((hmem k).2 ⟨hk, hz⟩)
      have h4 : ev (RT ((nz.erase k0).map fun k => g2 (N - 1 - k))) (g2 (N - 1 - k)) = 0 := (RT_iff _ _).2 (List.mem_map.2 ⟨k, hin, rfl⟩)
      rw [h4, ma_zero]
end Go.Proofs.Ytkldapdebjlfmaa
