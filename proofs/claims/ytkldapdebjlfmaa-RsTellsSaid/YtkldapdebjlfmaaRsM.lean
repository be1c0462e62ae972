/- Mathematics: the rest by the generator; right words; few errors are none. -/
import Derived.Test.YtkldapdebjlfmaaRsG
namespace Go.Proofs.Ytkldapdebjlfmaa

/-! ### Values, the highest power first -/

def xp (x : UInt8) : Nat → UInt8
  | 0 => 1
  | n + 1 => ma (xp x n) x
def hvF (x : UInt8) (f : Nat → UInt8) : Nat → UInt8
  | 0 => 0
  | n + 1 => ma (hvF x f n) x ^^^ f n
theorem hvF_congr (x : UInt8) {f g : Nat → UInt8} (n : Nat) (h : ∀ k, k < n → f k = g k) : hvF x f n = hvF x g n := by
  induction n with
  | zero => rfl
  | succ n ih => simp only [hvF]; rw [ih (fun k hk => h k (by omega)), h n (by omega)]
theorem hvF_xor (x : UInt8) (f g : Nat → UInt8) (n : Nat) : hvF x (fun k => f k ^^^ g k) n = hvF x f n ^^^ hvF x g n := by
  induction n with
  | zero => exact (x_self 0).symm
  | succ n ih => simp only [hvF]; rw [ih, xor_ma]; exact x_four _ _ _ _
theorem hvF_ma (x c : UInt8) (f : Nat → UInt8) (n : Nat) : hvF x (fun k => ma c (f k)) n = ma c (hvF x f n) := by
  induction n with
  | zero => exact (ma_zero c).symm
  | succ n ih => simp only [hvF]; rw [ih, ma_xor, ma_assoc]
theorem hvF_lead (x : UInt8) (f : Nat → UInt8) (n : Nat) : hvF x f (n + 1) = hvF x (fun k => f (k + 1)) n ^^^ ma (f 0) (xp x n) := by
  induction n with
  | zero => simp [hvF, xp, zero_ma, ma_one]
  | succ n ih =>
    show ma (hvF x f (n + 1)) x ^^^ f (n + 1) = (ma (hvF x (fun k => f (k + 1)) n) x ^^^ f (n + 1)) ^^^ ma (f 0) (ma (xp x n) x)
    rw [ih, xor_ma, ma_assoc, x_assoc, x_comm (ma (f 0) _), ← x_assoc]
theorem ev_reverse (l : List UInt8) (x : UInt8) : ev l.reverse x = hvF x (C l) l.length := by
  have key : ∀ k, k ≤ l.length → ev (l.take k).reverse x = hvF x (C l) k := by
    intro k
    induction k with
    | zero => intro _; rfl
    | succ k ih =>
      intro hk
      rw [List.take_succ_eq_append_getElem (by omega : k < l.length), List.reverse_append]
      show ma (ev (l.take k).reverse x) x ^^^ l[k] = ma (hvF x (C l) k) x ^^^ C l k
      rw [ih (by omega), C_get l k (by omega)]
  have h := key l.length (Nat.le_refl _)
  rwa [List.take_length] at h
theorem hvF_append (x : UInt8) (a b : List UInt8) : hvF x (C (a ++ b)) (a ++ b).length = ma (hvF x (C a) a.length) (xp x b.length) ^^^ hvF x (C b) b.length := by
  have key : ∀ k, k ≤ b.length → hvF x (C (a ++ b)) (a.length + k) = ma (hvF x (C a) a.length) (xp x k) ^^^ hvF x (C b) k := by
    intro k
    induction k with
    | zero =>
      intro _
      show hvF x (C (a ++ b)) a.length = ma (hvF x (C a) a.length) 1 ^^^ 0
      rw [ma_one, x_zero]
      exact hvF_congr x _ fun k hk => by simp [C, List.getElem?_append_left hk]
    | succ k ih =>
      intro hk
      show ma (hvF x (C (a ++ b)) (a.length + k)) x ^^^ C (a ++ b) (a.length + k) = ma (hvF x (C a) a.length) (ma (xp x k) x) ^^^ (ma (hvF x (C b) k) x ^^^ C b k)
      rw [ih (by omega), xor_ma, ma_assoc, show C (a ++ b) (a.length + k) = C b k by simp only [C]; rw [List.getElem?_append_right (by omega), Nat.add_sub_cancel_left], x_assoc]
  have h := key b.length (Nat.le_refl _)
  rwa [← List.length_append] at h

/-! ### The rest -/

theorem gen_zero (p i : Nat) (h : i < p) : hvF (g2 i) (C (gen p)) (p + 1) = 0 := by
  have h1 : ev (gen p).reverse (g2 i) = 0 := by
    rw [gen, List.reverse_reverse]
    have key : ∀ l : List UInt8, g2 i ∈ l → ev (RT l) (g2 i) = 0 := by
      intro l hl
      have k2 : ∀ k, k ≤ l.length → g2 i ∈ l.take k → ev (RT (l.take k)) (g2 i) = 0 := by
        intro k
        induction k with
        | zero => intro _ h; simp at h
        | succ k ih =>
          intro hk hm
          have e : l.take (k + 1) = l.take k ++ [l[k]] := List.take_succ_eq_append_getElem (by omega)
          rw [e] at hm ⊢
          rw [RT_snoc, PM_two]
          have hev : ev (tr (fun n => ma l[k] (C (RT (l.take k)) n) ^^^ sh (C (RT (l.take k))) n) ((RT (l.take k)).length + 2)) (g2 i) = ma (ev (RT (l.take k)) (g2 i)) (l[k] ^^^ g2 i) := by
            have e2 : ev [l[k], 1] (g2 i) = l[k] ^^^ g2 i := by simp only [ev, zero_ma, zero_x, one_ma]; exact x_comm _ _
            rw [← e2, ← ev_mulR]
            refine ev_congr ?_ _
            rw [C_mulR, PM_two]
            exact C_tr _ _ (fun j hj => by
              have h4 := PM_big' (RT (l.take k)) [l[k], 1] j hj
              rwa [PM_two] at h4)
          rw [hev]
          rcases List.mem_append.1 hm with hm | hm
          · rw [ih (by omega) hm, zero_ma]
          · rw [List.mem_singleton] at hm
            rw [← hm, x_self, ma_zero]
      have h3 := k2 l.length (Nat.le_refl _)
      rw [List.take_length] at h3
      exact h3 hl
    exact key _ (by simp [pows2]; exact ⟨i, h, rfl⟩)
  rw [ev_reverse, gen_length] at h1
  exact h1
theorem gen_lead (p : Nat) : C (gen p) 0 = 1 := by
  have h := (RT_monic (pows2 p)).2
  rw [pows2_length] at h
  have hl : (RT (pows2 p)).length = p + 1 := by rw [(RT_monic _).1, pows2_length]
  rw [C_get _ _ (by omega)] at h
  rw [C_get _ _ (by rw [gen_length]; omega)]
  simp only [gen, List.getElem_reverse]
  simpa [hl] using h
theorem step_value (p i : Nat) (h : i < p) (f : Nat → UInt8) (b : UInt8) : hvF (g2 i) (rstep p f b) p = ma (hvF (g2 i) f p) (g2 i) ^^^ ma b (xp (g2 i) p) := by
  obtain ⟨m, rfl⟩ : ∃ m, p = m + 1 := ⟨p - 1, by omega⟩
  generalize hx : g2 i = x
  have hg : hvF x (fun k => C (gen (m + 1)) (k + 1)) (m + 1) = xp x (m + 1) := by
    have h1 := gen_zero (m + 1) i h
    rw [hvF_lead, gen_lead, one_ma, hx] at h1
    exact (x_eq_zero _ _).1 h1
  have h1 : hvF x (rstep (m + 1) f b) (m + 1) = hvF x (fun k => shl (m + 1) f k ^^^ ma (f 0 ^^^ b) (C (gen (m + 1)) (k + 1))) (m + 1) :=
    hvF_congr x _ fun k hk => by simp only [rstep, put]; rw [if_pos hk]
  rw [h1, hvF_xor, hvF_ma, hg]
  have h2 : hvF x (shl (m + 1) f) (m + 1) = ma (hvF x (fun k => f (k + 1)) m) x := by
    show ma (hvF x (shl (m + 1) f) m) x ^^^ shl (m + 1) f m = _
    rw [show shl (m + 1) f m = 0 by simp [shl], x_zero, hvF_congr x (g := fun k => f (k + 1)) m (fun k hk => by simp only [shl]; rw [if_pos (by omega)])]
  rw [h2, hvF_lead, xor_ma, xor_ma, ma_assoc (f 0)]
  show _ = _ ^^^ ma (f 0) (xp x (m + 1)) ^^^ ma b (xp x (m + 1))
  rw [← x_assoc]
theorem fold_value (p i : Nat) (h : i < p) (data : List UInt8) : hvF (g2 i) (rfold p data) p = ma (hvF (g2 i) (C data) data.length) (xp (g2 i) p) := by
  have key : ∀ k, k ≤ data.length → hvF (g2 i) (rfold p (data.take k)) p = ma (hvF (g2 i) (C data) k) (xp (g2 i) p) := by
    intro k
    induction k with
    | zero =>
      intro _
      show hvF (g2 i) (fun _ => 0) p = ma 0 _
      rw [zero_ma]
      have : ∀ n, hvF (g2 i) (fun _ => 0) n = 0 := fun n => by
        induction n with
        | zero => rfl
        | succ n ih => simp only [hvF]; rw [ih, zero_ma, x_zero]
      exact this p
    | succ k ih =>
      intro hk
      rw [List.take_succ_eq_append_getElem (by omega : k < data.length), rfold_snoc, step_value p i h, ih (by omega)]
      show _ = ma (ma (hvF (g2 i) (C data) k) (g2 i) ^^^ C data k) (xp (g2 i) p)
      rw [xor_ma, C_get data k (by omega), ma_assoc, ma_assoc, ma_comm (xp (g2 i) p)]
  have h2 := key data.length (Nat.le_refl _)
  rwa [List.take_length] at h2
/-- Data with what is put behind are right. -/
theorem word_zero (p i : Nat) (h : i < p) (data : List UInt8) : ev (data ++ restL p data).reverse (g2 i) = 0 := by
  rw [ev_reverse, hvF_append, restL_length]
  have h1 : hvF (g2 i) (C (restL p data)) p = hvF (g2 i) (rfold p data) p := hvF_congr _ _ fun k hk => by simp [C, restL, hk]
  rw [h1, fold_value p i h, x_self]
end Go.Proofs.Ytkldapdebjlfmaa
