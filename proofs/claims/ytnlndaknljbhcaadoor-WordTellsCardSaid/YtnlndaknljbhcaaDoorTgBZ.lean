/- Mathematics: words with the same sums that differ in two letters at most. -/
import Derived.Test.YtnlndaknljbhcaaDoorSuRbZ
namespace Go.Proofs.YtnlndaknljbhcaaDoor
open Go.RowKit Go.Shelf

theorem atB_set_other (l : List UInt8) {p q : Nat} (y : UInt8) (h : p ≠ q) : atB (l.set p y) q = atB l q := by
  simp [atB, List.getElem?_set_ne h]
theorem sS_set (l : List UInt8) (p : Nat) (y : UInt8) (hp : p < l.length) (n : Nat) : sS (l.set p y) n = sS l n + if p < n then codeOf y.toNat - codeOf (atB l p).toNat else 0 := by
  induction n with
  | zero => simp [sS]
  | succ n ih =>
    rw [sS, sS, ih]
    by_cases e : p = n
    · subst e
      rw [atB_set l p y hp, if_neg (by omega), if_pos (by omega)]
      omega
    · rw [atB_set_other l y e]
      by_cases h : p < n
      · rw [if_pos h, if_pos (by omega)]; omega
      · rw [if_neg h, if_neg (by omega)]; omega
theorem sW_set (l : List UInt8) (p : Nat) (y : UInt8) (hp : p < l.length) (n : Nat) : sW (l.set p y) n = sW l n + if p < n then (codeOf y.toNat - codeOf (atB l p).toNat) * ((p : Int) + 1) else 0 := by
  induction n with
  | zero => simp [sW]
  | succ n ih =>
    rw [sW, sW, ih]
    by_cases e : p = n
    · subst e
      rw [atB_set l p y hp, if_neg (by omega), if_pos (by omega), Int.sub_mul]
      omega
    · rw [atB_set_other l y e]
      by_cases h : p < n
      · rw [if_pos h, if_pos (by omega)]; omega
      · rw [if_neg h, if_neg (by omega)]; omega
theorem code_inj {a b : UInt8} (h : codeOf a.toNat = codeOf b.toNat) (ha : codeOf a.toNat ≠ -1) : a = b := by
  have hb : codeOf b.toNat ≠ -1 := by rw [← h]; exact ha
  rcases code_four ha with rfl | rfl | rfl | rfl <;> rcases code_four hb with rfl | rfl | rfl | rfl <;> first | rfl | exact absurd h (by decide)
theorem mod_zero {A E m : Int} (h : (A + E) % m = A % m) (hm : 0 < m) (h1 : -m < E) (h2 : E < m) : E = 0 := by
  have h3 : E % m = 0 := by
    have := Int.emod_emod_of_dvd (A + E - A) (Int.dvd_refl m)
    have h4 : (A + E - A) % m = 0 := by rw [Int.sub_emod, h, Int.sub_self, Int.zero_emod]
    rwa [show A + E - A = E by omega] at h4
  obtain ⟨k, hk⟩ := Int.dvd_of_emod_eq_zero h3
  have hk0 : k = 0 := by
    apply Classical.byContradiction
    intro hne
    rcases (show k ≤ -1 ∨ 1 ≤ k by omega) with hh | hh
    · have : m * k ≤ m * (-1) := Int.mul_le_mul_of_nonneg_left hh (by omega)
      omega
    · have : m * 1 ≤ m * k := Int.mul_le_mul_of_nonneg_left hh (by omega)
      omega
  rw [hk, hk0, Int.mul_zero]
theorem set_same (l : List UInt8) (p : Nat) (hp : p < l.length) : l.set p (atB l p) = l := by
  have : atB l p = l[p] := by simp [atB, hp]
  rw [this]
  exact List.set_getElem_self hp
theorem code_bound {c : UInt8} (h : codeOf c.toNat ≠ -1) : 0 ≤ codeOf c.toNat ∧ codeOf c.toNat ≤ 3 := by
  have := codeOf_range c.toNat
  omega
theorem swap_same (x : List UInt8) (p q : Nat) (b c : UInt8) (hn : 2 ≤ x.length) (hp : p < x.length) (hq : q < x.length) (hx : ∀ k, k < x.length → codeOf (atB x k).toNat ≠ -1) (hy : ∀ k, k < x.length → codeOf (atB ((x.set p b).set q c) k).toNat ≠ -1)
    (eS : sS ((x.set p b).set q c) x.length % 4 = sS x x.length % 4) (eW : sW ((x.set p b).set q c) x.length % (6 * x.length + 1) = sW x x.length % (6 * x.length + 1)) : (x.set p b).set q c = x := by
  have hl : (x.set p b).length = x.length := by simp
  have hyq := hy q hq
  rw [atB_set _ q c (by rw [hl]; exact hq)] at hyq
  by_cases e : p = q
  · subst e
    rw [List.set_set] at eS eW ⊢
    rw [sS_set x p c hp, if_pos hp] at eS
    have h1 := code_bound (hx p hp)
    have h2 := code_bound hyq
    have h3 := mod_zero eS (by omega) (by omega) (by omega)
    have h4 : c = atB x p := code_inj (by omega) hyq
    rw [h4]
    exact set_same x p hp
  · have hyp := hy p hp
    rw [atB_set_other _ c (fun h => e h.symm), atB_set x p b hp] at hyp
    rw [sS_set _ q c (by rw [hl]; exact hq), if_pos hq, sS_set x p b hp, if_pos hp, atB_set_other x b e] at eS
    rw [sW_set _ q c (by rw [hl]; exact hq), if_pos hq, sW_set x p b hp, if_pos hp, atB_set_other x b e, Int.add_assoc] at eW
    rw [Int.add_assoc] at eS
    have h1 := code_bound (hx p hp)
    have h2 := code_bound (hx q hq)
    have h3 := code_bound hyp
    have h4 := code_bound hyq
    obtain ⟨d1, hd1⟩ : ∃ d, codeOf b.toNat - codeOf (atB x p).toNat = d := ⟨_, rfl⟩
    obtain ⟨d2, hd2⟩ : ∃ d, codeOf c.toNat - codeOf (atB x q).toNat = d := ⟨_, rfl⟩
    rw [hd1, hd2] at eS eW
    have b1 : -3 ≤ d1 ∧ d1 ≤ 3 := by omega
    have b2 : -3 ≤ d2 ∧ d2 ≤ 3 := by omega
    have hE : d1 * ((p : Int) + 1) + d2 * ((q : Int) + 1) = 0 := by
      have c1 : d1 = -3 ∨ d1 = -2 ∨ d1 = -1 ∨ d1 = 0 ∨ d1 = 1 ∨ d1 = 2 ∨ d1 = 3 := by omega
      have c2 : d2 = -3 ∨ d2 = -2 ∨ d2 = -1 ∨ d2 = 0 ∨ d2 = 1 ∨ d2 = 2 ∨ d2 = 3 := by omega
      have u1 : -3 * (x.length : Int) ≤ d1 * ((p : Int) + 1) ∧ d1 * ((p : Int) + 1) ≤ 3 * x.length := by rcases c1 with r | r | r | r | r | r | r <;> rw [r] <;> omega
      have u2 : -3 * (x.length : Int) ≤ d2 * ((q : Int) + 1) ∧ d2 * ((q : Int) + 1) ≤ 3 * x.length := by rcases c2 with r | r | r | r | r | r | r <;> rw [r] <;> omega
      exact mod_zero eW (by omega) (by omega) (by omega)
    have hS4 : (d1 + d2) % 4 = 0 := by
      have h5 : (sS x x.length + (d1 + d2) - sS x x.length) % 4 = 0 := by rw [Int.sub_emod, eS, Int.sub_self, Int.zero_emod]
      rwa [show sS x x.length + (d1 + d2) - sS x x.length = d1 + d2 by omega] at h5
    have hz : d1 = 0 ∧ d2 = 0 := by
      have c1 : d1 = -3 ∨ d1 = -2 ∨ d1 = -1 ∨ d1 = 0 ∨ d1 = 1 ∨ d1 = 2 ∨ d1 = 3 := by omega
      have c2 : d2 = -3 ∨ d2 = -2 ∨ d2 = -1 ∨ d2 = 0 ∨ d2 = 1 ∨ d2 = 2 ∨ d2 = 3 := by omega
      clear eS eW hd1 hd2 h1 h2 h3 h4
      rcases c1 with r | r | r | r | r | r | r <;> rcases c2 with r' | r' | r' | r' | r' | r' | r' <;> subst r <;> subst r' <;> first | exact ⟨rfl, rfl⟩ | (exfalso; omega)
    have f1 : b = atB x p := code_inj (by omega) hyp
    have f2 : c = atB x q := code_inj (by omega) hyq
    rw [f1, set_same x p hp, f2, set_same x q hq]
end Go.Proofs.YtnlndaknljbhcaaDoor
/- Mathematics of rises: a letter that stands at two places of one word (Tenengolts). -/
namespace Go.Proofs.YtnlndaknljbhcaaDoor
open Go.RowKit Go.Shelf

/-- Whether x rises at k, as a number. -/
def ro (x : List UInt8) (k : Nat) : Int := if riseB x k then 1 else 0
theorem ro_01 (x : List UInt8) (k : Nat) : ro x k = 0 ∨ ro x k = 1 := by unfold ro; split <;> simp
theorem sT_succ (x : List UInt8) (k : Nat) : sT x (k + 1) = sT x k + (k : Int) * ro x k := by
  rw [sT, ro]; split <;> simp
theorem ro_pos (x : List UInt8) (k : Nat) (hk : 0 < k) : ro x k = if (atB x (k - 1)).toNat ≤ (atB x k).toNat then 1 else 0 := by
  unfold ro riseB
  simp [hk]
theorem ro_zero (x : List UInt8) : ro x 0 = 0 := by simp [ro, riseB]
theorem ro_congr {x y : List UInt8} {k : Nat} (h1 : atB x k = atB y k) (h2 : 0 < k → atB x (k - 1) = atB y (k - 1)) : ro x k = ro y k := by
  by_cases hk : 0 < k
  · rw [ro_pos x k hk, ro_pos y k hk, h1, h2 hk]
  · obtain rfl : k = 0 := by omega
    rw [ro_zero, ro_zero]
/-- How often y rises between. -/
def cnt (y : List UInt8) (i : Nat) : Nat → Int
  | 0 => 0
  | s + 1 => cnt y i s + ro y (i + (s + 1))
theorem cnt_range (y : List UInt8) (i s : Nat) : 0 ≤ cnt y i s ∧ cnt y i s ≤ s := by
  induction s with
  | zero => simp [cnt]
  | succ s ih =>
    have := ro_01 y (i + (s + 1))
    rw [cnt]
    omega
theorem cnt_all (y : List UInt8) (i s : Nat) (h : cnt y i s = s) : ∀ t, t < s → ro y (i + (t + 1)) = 1 := by
  induction s with
  | zero => intro t ht; omega
  | succ s ih =>
    have h1 := ro_01 y (i + (s + 1))
    have h2 := cnt_range y i s
    rw [cnt] at h
    intro t ht
    by_cases e : t = s
    · subst e; omega
    · exact ih (by omega) t (by omega)
theorem cnt_none (y : List UInt8) (i s : Nat) (h : cnt y i s = 0) : ∀ t, t < s → ro y (i + (t + 1)) = 0 := by
  induction s with
  | zero => intro t ht; omega
  | succ s ih =>
    have h1 := ro_01 y (i + (s + 1))
    have h2 := cnt_range y i s
    rw [cnt] at h
    intro t ht
    by_cases e : t = s
    · subst e; omega
    · exact ih (by omega) t (by omega)
/-- x has at i what y has at j; between, x is y shifted by one. -/
structure Shifted (x y : List UInt8) (i j : Nat) : Prop where
  lt : i < j
  before : ∀ k, k < i → atB x k = atB y k
  behind : ∀ k, j < k → atB x k = atB y k
  mid : ∀ k, i ≤ k → k < j → atB x (k + 1) = atB y k
  ends : atB x i = atB y j
theorem diff_before {x y : List UInt8} {i j : Nat} (h : Shifted x y i j) (p : Nat) (hp : p ≤ i) : sT y p = sT x p := by
  induction p with
  | zero => rfl
  | succ p ih =>
    rw [sT_succ, sT_succ, ih (by omega), ro_congr (x := x) (y := y) (h.before p (by omega)) (fun _ => h.before (p - 1) (by omega))]
theorem diff_mid {x y : List UInt8} {i j : Nat} (h : Shifted x y i j) (s : Nat) (hs : i + (s + 1) ≤ j) :
    sT y (i + 1 + (s + 1)) - sT x (i + 1 + (s + 1)) = (i : Int) * (ro y i - ro x i) - ((i : Int) + 1) * ro x (i + 1) - cnt y i s + ((i : Int) + (s + 1)) * ro y (i + (s + 1)) := by
  induction s with
  | zero =>
    have h0 := diff_before h i (Nat.le_refl _)
    rw [show i + 1 + (0 + 1) = (i + 1) + 1 from rfl, sT_succ, sT_succ, sT_succ, sT_succ, h0, cnt]
    rw [show i + (0 + 1) = i + 1 from rfl]
    push_cast
    simp only [Int.mul_sub, Int.add_mul]
    omega
  | succ s ih =>
    have ih := ih (by omega)
    have hr : ro x (i + 1 + (s + 1)) = ro y (i + (s + 1)) := by
      rw [ro_pos x _ (by omega), ro_pos y _ (by omega)]
      have e1 := h.mid (i + (s + 1)) (by omega) (by omega)
      have e2 := h.mid (i + s) (by omega) (by omega)
      rw [show i + 1 + (s + 1) = i + (s + 1) + 1 by omega, e1, show i + (s + 1) + 1 - 1 = i + s + 1 by omega, e2, show i + (s + 1) - 1 = i + s by omega]
    rw [show i + 1 + (s + 1 + 1) = i + 1 + (s + 1) + 1 by omega, sT_succ, sT_succ, hr, cnt]
    rw [show i + (s + 1 + 1) = i + 1 + (s + 1) by omega]
    have e3 : (((i + 1 + (s + 1) : Nat) : Int)) = (i : Int) + ((s : Int) + 1) + 1 := by push_cast; omega
    have e4 : ((i : Int) + (((s + 1 : Nat) : Int) + 1)) = (i : Int) + ((s : Int) + 1) + 1 := by push_cast; omega
    rw [e3, e4]
    generalize ro y (i + 1 + (s + 1)) = r1 at *
    generalize ro y (i + (s + 1)) = r2 at *
    generalize (i : Int) + ((s : Int) + 1) = k at *
    rw [Int.add_mul, Int.add_mul, Int.one_mul, Int.one_mul]
    omega
theorem diff_behind {x y : List UInt8} {i j : Nat} (h : Shifted x y i j) (n : Nat) (hn : j + 1 < n) : sT y n - sT x n = sT y (j + 1) - sT x (j + 1) + ((j : Int) + 1) * (ro y (j + 1) - ro x (j + 1)) := by
  obtain ⟨d, rfl⟩ : ∃ d, n = j + 2 + d := ⟨n - (j + 2), by omega⟩
  clear hn
  induction d with
  | zero =>
    rw [show j + 2 + 0 = j + 1 + 1 from rfl, sT_succ y (j + 1), sT_succ x (j + 1), Int.mul_sub]
    push_cast
    omega
  | succ d ih =>
    have hr : ro x (j + 2 + d) = ro y (j + 2 + d) := ro_congr (h.behind _ (by omega)) (fun _ => h.behind _ (by omega))
    rw [show j + 2 + (d + 1) = j + 2 + d + 1 from rfl, sT_succ, sT_succ, hr]
    omega
theorem chain_up (y : List UInt8) (i m : Nat) (h : ∀ t, t < m → ro y (i + (t + 1)) = 1) : ∀ t u, t ≤ u → u ≤ m → (atB y (i + t)).toNat ≤ (atB y (i + u)).toNat := by
  intro t u htu hu
  induction u with
  | zero => obtain rfl : t = 0 := by omega
            exact Nat.le_refl _
  | succ u ih =>
    by_cases e : t = u + 1
    · subst e; exact Nat.le_refl _
    · have h1 := ih (by omega) (by omega)
      have h2 := h u (by omega)
      rw [ro_pos y _ (by omega), show i + (u + 1) - 1 = i + u by omega] at h2
      split at h2
      · omega
      · omega
theorem chain_down (y : List UInt8) (i m : Nat) (h : ∀ t, t < m → ro y (i + (t + 1)) = 0) : ∀ u, u ≤ m → (atB y (i + u)).toNat ≤ (atB y i).toNat := by
  intro u hu
  induction u with
  | zero => exact Nat.le_refl _
  | succ u ih =>
    have h1 := ih (by omega)
    have h2 := h u (by omega)
    rw [ro_pos y _ (by omega), show i + (u + 1) - 1 = i + u by omega] at h2
    split at h2
    · omega
    · omega
theorem case_all (i j n s C r1 r2 B D e1 e2 a u v wb f : Int) (hs : i + s + 1 = j) (hs0 : 0 ≤ s) (hC : 0 ≤ C) (hC2 : C ≤ s)
    (hB : (B = 1 ∧ a ≤ u) ∨ (B = 0 ∧ u < a)) (hD : (D = 1 ∧ v ≤ a) ∨ (D = 0 ∧ a < v))
    (hA : (i = 0 ∧ r1 = 0 ∧ r2 = 0) ∨ (0 < i ∧ ((r1 = 1 ∧ wb ≤ u) ∨ (r1 = 0 ∧ u < wb)) ∧ ((r2 = 1 ∧ wb ≤ a) ∨ (r2 = 0 ∧ a < wb))))
    (hE : (j + 1 = n ∧ e1 = 0 ∧ e2 = 0) ∨ (j + 1 < n ∧ ((e2 = 1 ∧ a ≤ f) ∨ (e2 = 0 ∧ f < a)) ∧ ((e1 = 1 ∧ v ≤ f) ∨ (e1 = 0 ∧ f < v)))) :
    -n < i * (r1 - r2) - (i + 1) * B - C + j * D + (j + 1) * (e2 - e1) ∧ i * (r1 - r2) - (i + 1) * B - C + j * D + (j + 1) * (e2 - e1) < n ∧
      (i * (r1 - r2) - (i + 1) * B - C + j * D + (j + 1) * (e2 - e1) = 0 → (B = 1 ∧ D = 1 ∧ C = s) ∨ (B = 0 ∧ D = 0 ∧ C = 0)) := by
  rcases hB with ⟨rfl, hB⟩ | ⟨rfl, hB⟩ <;> rcases hD with ⟨rfl, hD⟩ | ⟨rfl, hD⟩ <;> rcases hA with ⟨hA, rfl, rfl⟩ | ⟨hA, ⟨rfl, hA1⟩ | ⟨rfl, hA1⟩, ⟨rfl, hA2⟩ | ⟨rfl, hA2⟩⟩ <;>
    rcases hE with ⟨hE, rfl, rfl⟩ | ⟨hE, ⟨rfl, hE1⟩ | ⟨rfl, hE1⟩, ⟨rfl, hE2⟩ | ⟨rfl, hE2⟩⟩
  all_goals (refine ⟨?_, ?_, fun h => ?_⟩ <;> omega)
theorem ro_is (x : List UInt8) (k : Nat) (hk : 0 < k) : (ro x k = 1 ∧ ((atB x (k - 1)).toNat : Int) ≤ ((atB x k).toNat : Int)) ∨ (ro x k = 0 ∧ ((atB x k).toNat : Int) < ((atB x (k - 1)).toNat : Int)) := by
  rw [ro_pos x k hk]
  split
  · exact .inl ⟨rfl, by omega⟩
  · exact .inr ⟨rfl, by omega⟩
theorem shifted_same {x y : List UInt8} {i j : Nat} (h : Shifted x y i j) (n : Nat) (hj : j < n) (hT : sT y n % n = sT x n % n) : ∀ k, i ≤ k → k < j → atB y k = atB x i := by
  have hlt := h.lt
  obtain ⟨s, hs⟩ : ∃ s, j = i + (s + 1) := ⟨j - i - 1, by omega⟩
  have hmid := diff_mid h s (by omega)
  rw [show i + 1 + (s + 1) = j + 1 by omega, ← hs] at hmid
  have hci := cnt_range y i s
  obtain ⟨e1, e2, hE, hd⟩ : ∃ e1 e2 : Int, (((j : Int) + 1 = n ∧ e1 = 0 ∧ e2 = 0) ∨ ((j : Int) + 1 < n ∧ ((e2 = 1 ∧ ((atB x i).toNat : Int) ≤ ((atB y (j + 1)).toNat : Int)) ∨ (e2 = 0 ∧ ((atB y (j + 1)).toNat : Int) < ((atB x i).toNat : Int))) ∧
      ((e1 = 1 ∧ ((atB y (j - 1)).toNat : Int) ≤ ((atB y (j + 1)).toNat : Int)) ∨ (e1 = 0 ∧ ((atB y (j + 1)).toNat : Int) < ((atB y (j - 1)).toNat : Int))))) ∧
      sT y n - sT x n = sT y (j + 1) - sT x (j + 1) + ((j : Int) + 1) * (e2 - e1) := by
    by_cases hjn : j + 1 = n
    · exact ⟨0, 0, .inl ⟨by omega, rfl, rfl⟩, by rw [← hjn]; simp⟩
    · refine ⟨ro x (j + 1), ro y (j + 1), .inr ⟨by omega, ?_, ?_⟩, diff_behind h n (by omega)⟩
      · have := ro_is y (j + 1) (by omega)
        rw [Nat.add_sub_cancel, ← h.ends] at this
        exact this
      · have := ro_is x (j + 1) (by omega)
        rw [Nat.add_sub_cancel, h.behind (j + 1) (by omega)] at this
        have e := h.mid (j - 1) (by omega) (by omega)
        rw [show j - 1 + 1 = j by omega] at e
        rw [e] at this
        exact this
  have hB := ro_is x (i + 1) (by omega)
  rw [Nat.add_sub_cancel, h.mid i (Nat.le_refl _) hlt] at hB
  have hD := ro_is y j (by omega)
  rw [← h.ends] at hD
  have hA : ((i : Int) = 0 ∧ ro y i = 0 ∧ ro x i = 0) ∨ (0 < (i : Int) ∧ ((ro y i = 1 ∧ ((atB y (i - 1)).toNat : Int) ≤ ((atB y i).toNat : Int)) ∨ (ro y i = 0 ∧ ((atB y i).toNat : Int) < ((atB y (i - 1)).toNat : Int))) ∧
      ((ro x i = 1 ∧ ((atB y (i - 1)).toNat : Int) ≤ ((atB x i).toNat : Int)) ∨ (ro x i = 0 ∧ ((atB x i).toNat : Int) < ((atB y (i - 1)).toNat : Int)))) := by
    by_cases hi : i = 0
    · subst hi
      exact .inl ⟨rfl, ro_zero y, ro_zero x⟩
    · refine .inr ⟨by omega, ro_is y i (by omega), ?_⟩
      have := ro_is x i (by omega)
      rw [h.before (i - 1) (by omega)] at this
      exact this
  have hc := case_all i j n s (cnt y i s) (ro y i) (ro x i) (ro x (i + 1)) (ro y j) e1 e2 _ _ _ _ _ (by omega) (by omega) hci.1 hci.2 hB hD hA hE
  have hjs : ((i : Int) + ((s : Int) + 1)) = (j : Int) := by omega
  rw [hjs] at hmid
  rw [hmid] at hd
  have hd0 := mod_zero (A := sT x n) (E := sT y n - sT x n) (m := n) (by rw [show sT x n + (sT y n - sT x n) = sT y n by omega]; exact hT) (by omega) (by rw [hd]; exact hc.1) (by rw [hd]; exact hc.2.1)
  have hfin := hc.2.2 (by rw [← hd]; exact hd0)
  rcases hfin with ⟨f1, f2, f3⟩ | ⟨f1, f2, f3⟩
  · have hall := cnt_all y i s f3
    have up := chain_up y i s hall
    have hb : ((atB x i).toNat : Int) ≤ ((atB y i).toNat : Int) := by rcases hB with ⟨_, hB⟩ | ⟨hB, _⟩ <;> omega
    have hd' : ((atB y (j - 1)).toNat : Int) ≤ ((atB x i).toNat : Int) := by rcases hD with ⟨_, hD⟩ | ⟨hD, _⟩ <;> omega
    intro k hik hkj
    have u1 := up 0 (k - i) (by omega) (by omega)
    have u2 := up (k - i) s (by omega) (Nat.le_refl _)
    rw [Nat.add_zero, show i + (k - i) = k by omega] at u1
    rw [show i + (k - i) = k by omega, show i + s = j - 1 by omega] at u2
    exact UInt8.toNat_inj.1 (by omega)
  · exfalso
    have hall := cnt_none y i s f3
    have dn := chain_down y i s hall s (Nat.le_refl _)
    rw [show i + s = j - 1 by omega] at dn
    have hb : ((atB y i).toNat : Int) < ((atB x i).toNat : Int) := by rcases hB with ⟨hB, _⟩ | ⟨_, hB⟩ <;> omega
    have hd' : ((atB x i).toNat : Int) < ((atB y (j - 1)).toNat : Int) := by rcases hD with ⟨hD, _⟩ | ⟨_, hD⟩ <;> omega
    omega
theorem shifted_eq {x y : List UInt8} {i j : Nat} (h : Shifted x y i j) (n : Nat) (hx : x.length = n) (hy : y.length = n) (hj : j < n) (hT : sT y n % n = sT x n % n) : y = x := by
  have hs := shifted_same h n hj hT
  have hlt := h.lt
  have hat : ∀ k, atB y k = atB x k := by
    intro k
    by_cases h1 : k < i
    · exact (h.before k h1).symm
    · by_cases h2 : j < k
      · exact (h.behind k h2).symm
      · have hyk : atB y k = atB x i := by
          by_cases e : k = j
          · rw [e, h.ends]
          · exact hs k (by omega) (by omega)
        have hxk : atB x k = atB x i := by
          by_cases e : k = i
          · rw [e]
          · have := h.mid (k - 1) (by omega) (by omega)
            rw [show k - 1 + 1 = k by omega] at this
            rw [this]
            exact hs (k - 1) (by omega) (by omega)
        rw [hyk, hxk]
  apply List.ext_getElem (by omega)
  intro k h1 h2
  have := hat k
  simp only [atB, List.getElem?_eq_getElem h1, List.getElem?_eq_getElem h2, Option.getD_some] at this
  exact this
end Go.Proofs.YtnlndaknljbhcaaDoor
/- Mathematics: of words with the same sums none two have a word in common that each has with one letter left out. -/
namespace Go.Proofs.YtnlndaknljbhcaaDoor
open Go.RowKit Go.Shelf

/-- A word without a letter; with one more. -/
def delW (x : List UInt8) (i : Nat) : List UInt8 := x.take i ++ x.drop (i + 1)
def insW (z : List UInt8) (t : Nat) (b : UInt8) : List UInt8 := z.take t ++ [b] ++ z.drop t
theorem delW_length (x : List UInt8) (i : Nat) (h : i < x.length) : (delW x i).length + 1 = x.length := by simp [delW]; omega
theorem insW_length (z : List UInt8) (t : Nat) (b : UInt8) (h : t ≤ z.length) : (insW z t b).length = z.length + 1 := by simp [insW]; omega
theorem atB_del (x : List UInt8) (i k : Nat) (h : i < x.length) : atB (delW x i) k = if k < i then atB x k else atB x (k + 1) := by
  have hl : (x.take i).length = i := by simp; omega
  unfold delW
  split
  · rename_i hk
    rw [atB_append_left _ _ (by omega)]
    simp only [atB, List.getElem?_take, if_pos hk]
  · rw [atB_append_right _ _ (by omega), hl, atB_drop, show i + 1 + (k - i) = k + 1 by omega]
theorem atB_ins (z : List UInt8) (t k : Nat) (b : UInt8) (h : t ≤ z.length) : atB (insW z t b) k = if k < t then atB z k else if k = t then b else atB z (k - 1) := by
  have hl : (z.take t).length = t := by simp; omega
  unfold insW
  rw [List.append_assoc]
  split
  · rename_i hk
    rw [atB_append_left _ _ (by omega)]
    simp only [atB, List.getElem?_take, if_pos hk]
  · rw [atB_append_right _ _ (by omega), hl]
    split
    · rename_i e
      rw [e, Nat.sub_self]
      rfl
    · rw [atB_append_right _ _ (by simp; omega), atB_drop]
      congr 1
      simp
      omega
/-- The sum of a word's codes. -/
def csum (l : List UInt8) : Int := (l.map fun c => codeOf c.toNat).sum
theorem csum_app (l r : List UInt8) : csum (l ++ r) = csum l + csum r := by simp [csum]
theorem csum_one (b : UInt8) : csum [b] = codeOf b.toNat := by simp [csum]
theorem sS_take (l : List UInt8) (k : Nat) (h : k ≤ l.length) : sS l k = csum (l.take k) := by
  induction k with
  | zero => simp [sS, csum]
  | succ k ih =>
    have hk : k < l.length := by omega
    rw [sS, ih (by omega), List.take_succ_eq_append_getElem hk, csum_app, csum_one]
    congr 3
    simp [atB, hk]
theorem sS_all (l : List UInt8) : sS l l.length = csum l := by rw [sS_take l _ (Nat.le_refl _), List.take_length]
theorem csum_del (x : List UInt8) (i : Nat) (h : i < x.length) : csum x = csum (delW x i) + codeOf (atB x i).toNat := by
  have e : x = x.take i ++ [x[i]] ++ x.drop (i + 1) := by
    rw [List.append_assoc, List.singleton_append, ← List.drop_eq_getElem_cons h, List.take_append_drop]
  have ea : atB x i = x[i] := by simp [atB, h]
  rw [ea]
  conv => lhs; rw [e]
  rw [delW, csum_app, csum_app, csum_app, csum_one]
  omega
theorem csum_ins (z : List UInt8) (t : Nat) (b : UInt8) : csum (insW z t b) = csum z + codeOf b.toNat := by
  have e : csum z = csum (z.take t) + csum (z.drop t) := by rw [← csum_app, List.take_append_drop]
  rw [insW, csum_app, csum_app, csum_one, e]
  omega
theorem gap_same (x : List UInt8) (i t : Nat) (b : UInt8) (hi : i < x.length) (ht : t < x.length) (hx : ∀ k, k < x.length → codeOf (atB x k).toNat ≠ -1) (hy : ∀ k, k < x.length → codeOf (atB (insW (delW x i) t b) k).toNat ≠ -1)
    (eT : sT (insW (delW x i) t b) x.length % x.length = sT x x.length % x.length) (eS : sS (insW (delW x i) t b) x.length % 4 = sS x x.length % 4) : insW (delW x i) t b = x := by
  have hdl := delW_length x i hi
  have hyl : (insW (delW x i) t b).length = x.length := by rw [insW_length _ _ _ (by omega), hdl]
  have hb : codeOf b.toNat ≠ -1 := by
    have := hy t ht
    rw [atB_ins _ _ _ _ (by omega), if_neg (by omega), if_pos rfl] at this
    exact this
  have hbx : b = atB x i := by
    have h1 := sS_all (insW (delW x i) t b)
    rw [hyl] at h1
    rw [h1, sS_all, csum_ins, csum_del x i hi] at eS
    have h2 := code_bound (hx i hi)
    have h3 := code_bound hb
    have h4 : csum (delW x i) + codeOf b.toNat = (csum (delW x i) + codeOf (atB x i).toNat) + (codeOf b.toNat - codeOf (atB x i).toNat) := by omega
    rw [h4] at eS
    have h5 := mod_zero eS (by omega) (by omega) (by omega)
    exact code_inj (by omega) hb
  have hay : ∀ k, atB (insW (delW x i) t b) k = if k < t then (if k < i then atB x k else atB x (k + 1)) else if k = t then atB x i else (if k - 1 < i then atB x (k - 1) else atB x (k - 1 + 1)) := by
    intro k
    rw [atB_ins _ _ _ _ (by omega), atB_del x i k hi, atB_del x i (k - 1) hi, hbx]
  generalize insW (delW x i) t b = y at *
  rcases Nat.lt_trichotomy i t with h | h | h
  · refine shifted_eq (i := i) (j := t) ⟨h, fun k hk => ?_, fun k hk => ?_, fun k h1 h2 => ?_, ?_⟩ x.length rfl hyl ht eT
    · rw [hay, if_pos (by omega), if_pos hk]
    · rw [hay, if_neg (by omega), if_neg (by omega), if_neg (by omega), Nat.sub_add_cancel (by omega)]
    · rw [hay, if_pos h2, if_neg (by omega)]
    · rw [hay, if_neg (by omega), if_pos rfl]
  · subst h
    have hat : ∀ k, atB y k = atB x k := by
      intro k
      rw [hay]
      by_cases h1 : k < i
      · rw [if_pos h1, if_pos h1]
      · rw [if_neg h1]
        by_cases h2 : k = i
        · rw [if_pos h2, h2]
        · rw [if_neg h2, if_neg (by omega), Nat.sub_add_cancel (by omega)]
    apply List.ext_getElem (by omega)
    intro k h1 h2
    have := hat k
    simp only [atB, List.getElem?_eq_getElem h1, List.getElem?_eq_getElem h2, Option.getD_some] at this
    exact this
  · refine (shifted_eq (x := y) (y := x) (i := t) (j := i) ⟨h, fun k hk => ?_, fun k hk => ?_, fun k h1 h2 => ?_, ?_⟩ x.length hyl rfl hi eT.symm).symm
    · rw [hay, if_pos hk, if_pos (by omega)]
    · rw [hay, if_neg (by omega), if_neg (by omega), if_neg (by omega), Nat.sub_add_cancel (by omega)]
    · rw [hay, if_neg (by omega), if_neg (by omega), Nat.add_sub_cancel, if_pos h2]
    · rw [hay, if_neg (by omega), if_pos rfl]
end Go.Proofs.YtnlndaknljbhcaaDoor
