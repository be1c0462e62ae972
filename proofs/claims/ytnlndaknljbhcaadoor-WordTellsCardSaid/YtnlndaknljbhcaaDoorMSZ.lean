/- Mathematics of letters and sums: words with the same sums that differ in two letters at most. Of no law. -/
import Derived.Test.YtnlndaknljbhcaaDoorSuEZ
namespace Go.Proofs.YtnlndaknljbhcaaDoor
open Go.RowKit Go.Shelf

theorem code_four {a : UInt8} (h : codeOf a.toNat ≠ -1) : a = 65 ∨ a = 67 ∨ a = 71 ∨ a = 84 := by
  unfold codeOf at h
  have e : ∀ k : UInt8, a.toNat = k.toNat → a = k := fun k hk => UInt8.toNat_inj.1 hk
  split at h
  · exact .inl (e 65 (by assumption))
  · split at h
    · exact .inr (.inl (e 67 (by assumption)))
    · split at h
      · exact .inr (.inr (.inl (e 71 (by assumption))))
      · split at h
        · exact .inr (.inr (.inr (e 84 (by assumption))))
        · exact absurd rfl h
theorem code_none {a : UInt8} (h : codeOf a.toNat = -1) : a ≠ 65 ∧ a ≠ 67 ∧ a ≠ 71 ∧ a ≠ 84 :=
  ⟨fun e => by rw [e] at h; exact absurd h (by decide), fun e => by rw [e] at h; exact absurd h (by decide), fun e => by rw [e] at h; exact absurd h (by decide), fun e => by rw [e] at h; exact absurd h (by decide)⟩
theorem byte_neq {a k : UInt8} (h : a ≠ k) : ((a.toNat : Int) != (k.toNat : Int)) = true := by
  rw [bne_iff_ne]
  intro e
  exact h (UInt8.toNat_inj.1 (by omega))
theorem atB_drop (bs : List UInt8) (o k : Nat) : atB (bs.drop o) k = atB bs (o + k) := by simp [atB]
theorem atB_append_left (l r : List UInt8) {j : Nat} (h : j < l.length) : atB (l ++ r) j = atB l j := by simp [atB, List.getElem?_append_left h]
theorem atB_append_right (l r : List UInt8) {j : Nat} (h : l.length ≤ j) : atB (l ++ r) j = atB r (j - l.length) := by simp [atB, List.getElem?_append_right h]
theorem atB_set (l : List UInt8) (p : Nat) (y : UInt8) (h : p < l.length) : atB (l.set p y) p = y := by simp [atB, h]
theorem atB_set_other (l : List UInt8) {p q : Nat} (y : UInt8) (h : p ≠ q) : atB (l.set p y) q = atB l q := by
  simp [atB, List.getElem?_set_ne h]
theorem sS_set (l : List UInt8) (p : Nat) (y : UInt8) (hp : p < l.length) (n : Nat) : sS (l.set p y) n = sS l n + if p < n then codeOf y.toNat - codeOf (atB l p).toNat else 0 := by
  induction n with
  | zero => simp [sS]
  | succ n ih =>
    rw [sS, sS, ih]
    by_cases e : p = n
    · subst e
      rw [atB_set l p y hp, if_neg (by omega), if_pos (by omega)]
      omega
    · rw [atB_set_other l y e]
      by_cases h : p < n
      · rw [if_pos h, if_pos (by omega)]; omega
      · rw [if_neg h, if_neg (by omega)]; omega
theorem sW_set (l : List UInt8) (p : Nat) (y : UInt8) (hp : p < l.length) (n : Nat) : sW (l.set p y) n = sW l n + if p < n then (codeOf y.toNat - codeOf (atB l p).toNat) * ((p : Int) + 1) else 0 := by
  induction n with
  | zero => simp [sW]
  | succ n ih =>
    rw [sW, sW, ih]
    by_cases e : p = n
    · subst e
      rw [atB_set l p y hp, if_neg (by omega), if_pos (by omega), Int.sub_mul]
      omega
    · rw [atB_set_other l y e]
      by_cases h : p < n
      · rw [if_pos h, if_pos (by omega)]; omega
      · rw [if_neg h, if_neg (by omega)]; omega
theorem code_inj {a b : UInt8} (h : codeOf a.toNat = codeOf b.toNat) (ha : codeOf a.toNat ≠ -1) : a = b := by
  have hb : codeOf b.toNat ≠ -1 := by rw [← h]; exact ha
  rcases code_four ha with rfl | rfl | rfl | rfl <;> rcases code_four hb with rfl | rfl | rfl | rfl <;> first | rfl | exact absurd h (by decide)
theorem mod_zero {A E m : Int} (h : (A + E) % m = A % m) (hm : 0 < m) (h1 : -m < E) (h2 : E < m) : E = 0 := by
  have h3 : E % m = 0 := by
    have := Int.emod_emod_of_dvd (A + E - A) (Int.dvd_refl m)
    have h4 : (A + E - A) % m = 0 := by rw [Int.sub_emod, h, Int.sub_self, Int.zero_emod]
    rwa [show A + E - A = E by omega] at h4
  obtain ⟨k, hk⟩ := Int.dvd_of_emod_eq_zero h3
  have hk0 : k = 0 := by
    apply Classical.byContradiction
    intro hne
    rcases (show k ≤ -1 ∨ 1 ≤ k by omega) with hh | hh
    · have : m * k ≤ m * (-1) := Int.mul_le_mul_of_nonneg_left hh (by omega)
      omega
    · have : m * 1 ≤ m * k := Int.mul_le_mul_of_nonneg_left hh (by omega)
      omega
  rw [hk, hk0, Int.mul_zero]
theorem set_same (l : List UInt8) (p : Nat) (hp : p < l.length) : l.set p (atB l p) = l := by
  have : atB l p = l[p] := by simp [atB, hp]
  rw [this]
  exact List.set_getElem_self hp
theorem code_bound {c : UInt8} (h : codeOf c.toNat ≠ -1) : 0 ≤ codeOf c.toNat ∧ codeOf c.toNat ≤ 3 := by
  have := codeOf_range c.toNat
  omega
theorem swap_same (x : List UInt8) (p q : Nat) (b c : UInt8) (hn : 2 ≤ x.length) (hp : p < x.length) (hq : q < x.length) (hx : ∀ k, k < x.length → codeOf (atB x k).toNat ≠ -1) (hy : ∀ k, k < x.length → codeOf (atB ((x.set p b).set q c) k).toNat ≠ -1)
    (eS : sS ((x.set p b).set q c) x.length % 4 = sS x x.length % 4) (eW : sW ((x.set p b).set q c) x.length % (6 * x.length + 1) = sW x x.length % (6 * x.length + 1)) : (x.set p b).set q c = x := by
  have hl : (x.set p b).length = x.length := by simp
  have hyq := hy q hq
  rw [atB_set _ q c (by rw [hl]; exact hq)] at hyq
  by_cases e : p = q
  · subst e
    rw [List.set_set] at eS eW ⊢
    rw [sS_set x p c hp, if_pos hp] at eS
    have h1 := code_bound (hx p hp)
    have h2 := code_bound hyq
    have h3 := mod_zero eS (by omega) (by omega) (by omega)
    have h4 : c = atB x p := code_inj (by omega) hyq
    rw [h4]
    exact set_same x p hp
  · have hyp := hy p hp
    rw [atB_set_other _ c (fun h => e h.symm), atB_set x p b hp] at hyp
    rw [sS_set _ q c (by rw [hl]; exact hq), if_pos hq, sS_set x p b hp, if_pos hp, atB_set_other x b e] at eS
    rw [sW_set _ q c (by rw [hl]; exact hq), if_pos hq, sW_set x p b hp, if_pos hp, atB_set_other x b e, Int.add_assoc] at eW
    rw [Int.add_assoc] at eS
    have h1 := code_bound (hx p hp)
    have h2 := code_bound (hx q hq)
    have h3 := code_bound hyp
    have h4 := code_bound hyq
    obtain ⟨d1, hd1⟩ : ∃ d, codeOf b.toNat - codeOf (atB x p).toNat = d := ⟨_, rfl⟩
    obtain ⟨d2, hd2⟩ : ∃ d, codeOf c.toNat - codeOf (atB x q).toNat = d := ⟨_, rfl⟩
    rw [hd1, hd2] at eS eW
    have b1 : -3 ≤ d1 ∧ d1 ≤ 3 := by omega
    have b2 : -3 ≤ d2 ∧ d2 ≤ 3 := by omega
    have hE : d1 * ((p : Int) + 1) + d2 * ((q : Int) + 1) = 0 := by
      have c1 : d1 = -3 ∨ d1 = -2 ∨ d1 = -1 ∨ d1 = 0 ∨ d1 = 1 ∨ d1 = 2 ∨ d1 = 3 := by omega
      have c2 : d2 = -3 ∨ d2 = -2 ∨ d2 = -1 ∨ d2 = 0 ∨ d2 = 1 ∨ d2 = 2 ∨ d2 = 3 := by omega
      have u1 : -3 * (x.length : Int) ≤ d1 * ((p : Int) + 1) ∧ d1 * ((p : Int) + 1) ≤ 3 * x.length := by rcases c1 with r | r | r | r | r | r | r <;> rw [r] <;> omega
      have u2 : -3 * (x.length : Int) ≤ d2 * ((q : Int) + 1) ∧ d2 * ((q : Int) + 1) ≤ 3 * x.length := by rcases c2 with r | r | r | r | r | r | r <;> rw [r] <;> omega
      exact mod_zero eW (by omega) (by omega) (by omega)
    have hS4 : (d1 + d2) % 4 = 0 := by
      have h5 : (sS x x.length + (d1 + d2) - sS x x.length) % 4 = 0 := by rw [Int.sub_emod, eS, Int.sub_self, Int.zero_emod]
      rwa [show sS x x.length + (d1 + d2) - sS x x.length = d1 + d2 by omega] at h5
    have hz : d1 = 0 ∧ d2 = 0 := by
      have c1 : d1 = -3 ∨ d1 = -2 ∨ d1 = -1 ∨ d1 = 0 ∨ d1 = 1 ∨ d1 = 2 ∨ d1 = 3 := by omega
      have c2 : d2 = -3 ∨ d2 = -2 ∨ d2 = -1 ∨ d2 = 0 ∨ d2 = 1 ∨ d2 = 2 ∨ d2 = 3 := by omega
      clear eS eW hd1 hd2 h1 h2 h3 h4
      rcases c1 with r | r | r | r | r | r | r <;> rcases c2 with r' | r' | r' | r' | r' | r' | r' <;> subst r <;> subst r' <;> first | exact ⟨rfl, rfl⟩ | (exfalso; omega)
    have f1 : b = atB x p := code_inj (by omega) hyp
    have f2 : c = atB x q := code_inj (by omega) hyq
    rw [f1, set_same x p hp, f2, set_same x q hq]
theorem four_sums (x : List UInt8) (h2 : 2 ≤ x.length) (h1 : x.length ≤ 1000) (h : ∀ k, k < x.length → codeOf (atB x k).toNat ≠ -1) : sumsG x = .ok (sT x x.length % x.length, sS x x.length % 4, sW x x.length % (6 * x.length + 1)) := by
  have hm : mayB x.length = true := by unfold mayB; rw [decide_eq_true (by omega), decide_eq_true (by omega)]; rfl
  rw [sumsG, if_neg (by rw [hm]; simp), if_neg (fun ⟨k, h1, h2⟩ => h k h1 h2)]
theorem row3 {W : World} {g : Nat} {p q r : Int} (h : Rowed W g 28 (c3 p q r)) (a b c : Int) : Rowed (((W.setCell ⟨g, 0, none⟩ (.int .i64 a)).setCell ⟨g, 1, none⟩ (.int .i64 b)).setCell ⟨g, 2, none⟩ (.int .i64 c)) g 28 (c3 a b c) :=
  ((h.set 0 (.int .i64 a)).set 1 (.int .i64 b)).set 2 (.int .i64 c)
theorem below3 {B : Nat} {w W : World} (h : Below B w W) (g : Nat) (hg : B ≤ g) (a b c : Value) : Below B w (((W.setCell ⟨g, 0, none⟩ a).setCell ⟨g, 1, none⟩ b).setCell ⟨g, 2, none⟩ c) :=
  ((h.setCell (p := ⟨g, 0, none⟩) hg a).setCell (p := ⟨g, 1, none⟩) hg b).setCell (p := ⟨g, 2, none⟩) hg c
end Go.Proofs.YtnlndaknljbhcaaDoor
