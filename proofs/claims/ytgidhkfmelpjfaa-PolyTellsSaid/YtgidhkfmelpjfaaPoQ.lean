/- The derivative of a product; values and derivatives of a product of roots. -/
import Derived.Test.YtgidhkfmelpjfaaPoF
import Derived.Test.YtgidhkfmelpjfaaPoH
namespace Go.Proofs.Ytgidhkfmelpjfaa
open Go.RowKit Go.Shelf

/-- The derivative, as a row. -/
def dl (p : List UInt8) : List UInt8 := tr (dv (C p)) p.length
theorem C_dl (p : List UInt8) : C (dl p) = dv (C p) := C_tr _ _ (dv_big p)
theorem dv_xor (f g : Nat → UInt8) : dv (fun n => f n ^^^ g n) = fun n => dv f n ^^^ dv g n := by
  funext k
  simp only [dv]
  split
  · rfl
  · rw [x_self]
theorem dv_ma (c : UInt8) (f : Nat → UInt8) : dv (fun n => ma c (f n)) = fun n => ma c (dv f n) := by
  funext k
  simp only [dv]
  split
  · rfl
  · rw [ma_zero]
theorem dv_sh (f : Nat → UInt8) : dv (sh f) = fun n => f n ^^^ sh (dv f) n := by
  funext k
  cases k with
  | zero => simp [dv, sh]
  | succ k =>
    show (if (k + 1) % 2 = 0 then sh f (k + 1 + 1) else 0) = f (k + 1) ^^^ (if k % 2 = 0 then f (k + 1) else 0)
    rcases Nat.mod_two_eq_zero_or_one k with h | h
    · rw [if_neg (by omega), if_pos h, x_self]
    · rw [if_pos (by omega), if_neg (by omega), x_zero]; rfl
theorem dv_first (a : UInt8) : dv (fun n => if n = 0 then a else 0) = fun _ => 0 := by
  funext k
  simp only [dv]
  split <;> simp
theorem C_dl_cons (a : UInt8) (p : List UInt8) (n : Nat) : C (dl (a :: p)) n = C p n ^^^ C (0 :: dl p) n := by
  rw [C_dl, C_cons, dv_xor, dv_first, dv_sh, C_cons, C_dl]
  simp only [zero_x]
  congr 1
  split <;> simp
theorem PM_nought (p s : List UInt8) : PM (0 :: p) (C s) = sh (PM p (C s)) := by
  funext n
  show ma 0 (C s n) ^^^ _ = _
  rw [zero_ma, zero_x]
/-- The derivative of a product is what both make. -/
theorem dv_prod (p s : List UInt8) : dv (PM p (C s)) = fun n => PM (dl p) (C s) n ^^^ PM p (C (dl s)) n := by
  induction p with
  | nil =>
    funext n
    have : dl [] = [] := rfl
    rw [this]
    simp [PM, dv]
  | cons a p ih =>
    have h1 : PM (a :: p) (C s) = fun n => ma a (C s n) ^^^ sh (PM p (C s)) n := rfl
    rw [h1, dv_xor, dv_ma, dv_sh, PM_add (C_dl_cons a p) s, PM_nought, ih, sh_xor]
    funext n
    show ma a (dv (C s) n) ^^^ (PM p (C s) n ^^^ (sh (PM (dl p) (C s)) n ^^^ sh (PM p (C (dl s))) n)) = (PM p (C s) n ^^^ sh (PM (dl p) (C s)) n) ^^^ (ma a (C (dl s) n) ^^^ sh (PM p (C (dl s))) n)
    rw [C_dl, x_left, ← x_assoc, ← x_assoc, ← x_assoc]
    congr 1
    rw [x_assoc, x_comm (ma a (dv (C s) n)), ← x_assoc]

theorem ev_two (r x : UInt8) : ev [r, 1] x = r ^^^ x := by
  simp only [ev, zero_ma, zero_x, one_ma]
  exact x_comm _ _
theorem ev_RT (l : List UInt8) (r x : UInt8) : ev (RT (l ++ [r])) x = ma (ev (RT l) x) (r ^^^ x) := by
  rw [RT_snoc, ← ev_two, ← ev_mulR]
  exact ev_congr (by rw [C_tr _ ((RT l).length + 2) (fun k hk => PM_big' (RT l) [r, 1] k hk), C_mulR]) x
theorem dl_two (r : UInt8) : C (dl [r, 1]) = fun n => if n = 0 then 1 else 0 := by
  rw [C_dl]
  funext n
  match n with
  | 0 => rfl
  | 1 => rfl
  | n + 2 =>
    show (if (n + 2) % 2 = 0 then C [r, 1] (n + 3) else 0) = _
    rw [C_big _ _ (by simp)]
    simp
theorem dl_RT (l : List UInt8) (r x : UInt8) : ev (dl (RT (l ++ [r]))) x = ma (ev (dl (RT l)) x) (r ^^^ x) ^^^ ev (RT l) x := by
  rw [← ev_two r x, ← ev_mulR, ← ev_addR]
  refine ev_congr ?_ x
  rw [C_dl, RT_snoc, C_tr _ ((RT l).length + 2) (fun k hk => PM_big' (RT l) [r, 1] k hk), dv_prod, dl_two, PM_one]
  funext n
  rw [C_addR, C_mulR]
  show _ ^^^ ma 1 (C (RT l) n) = _
  rw [one_ma]
/-- A product of roots is 0 just at them; its derivative there is 0 just if it is there twice. -/
theorem roots_say (x : UInt8) (l : List UInt8) : (ev (RT l) x = 0 ↔ 0 < l.count x) ∧ (l.count x = 1 → ev (dl (RT l)) x ≠ 0) ∧ (2 ≤ l.count x → ev (dl (RT l)) x = 0) := by
  have key : ∀ k, k ≤ l.length → (ev (RT (l.take k)) x = 0 ↔ 0 < (l.take k).count x) ∧ ((l.take k).count x = 1 → ev (dl (RT (l.take k))) x ≠ 0) ∧ (2 ≤ (l.take k).count x → ev (dl (RT (l.take k))) x = 0) := by
    intro k
    induction k with
    | zero =>
      intro _
      have : ev (RT []) x = 1 := by simp [RT, ev, zero_ma]
      simp [this]
    | succ k ih =>
      intro hk
      obtain ⟨h1, h2, h3⟩ := ih (by omega)
      have e : l.take (k + 1) = l.take k ++ [l[k]] := List.take_succ_eq_append_getElem (by omega)
      rw [e, ev_RT, dl_RT, List.count_append]
      generalize l.take k = m at *
      generalize l[k] = r at *
      by_cases hr : r = x
      · subst hr
        have c1 : List.count r [r] = 1 := by simp
        rw [c1, x_self, ma_zero, ma_zero, zero_x]
        refine ⟨by simp, fun h => ?_, fun h => h1.2 (by omega)⟩
        intro h0
        have := h1.1 h0
        omega
      · have c0 : List.count x [r] = 0 := by simp [List.count_eq_zero]; exact fun h => hr h.symm
        have hu : r ^^^ x ≠ 0 := fun h => hr ((x_eq_zero r x).1 h)
        rw [c0, Nat.add_zero]
        refine ⟨⟨fun h => ?_, fun h => ?_⟩, fun h => ?_, fun h => ?_⟩
        · by_cases hz : ev (RT m) x = 0
          · exact h1.1 hz
          · exact absurd h (ma_ne _ _ hz hu)
        · rw [h1.2 h, zero_ma]
        · rw [h1.2 (by omega), x_zero]; exact ma_ne _ _ (h2 h) hu
        · rw [h1.2 (by omega), h3 h, zero_ma, x_zero]
  have h := key l.length (Nat.le_refl _)
  rwa [List.take_length] at h
end Go.Proofs.Ytgidhkfmelpjfaa
