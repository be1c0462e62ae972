/- A quotient and a rest are one: uniqueness. Of no program. -/
import Derived.Test.YtgidhkfmelpjfaaPoT
namespace Go.Proofs.Ytgidhkfmelpjfaa
open Go.RowKit Go.Shelf

theorem PM_top (q : List UInt8) (f : Nat → UInt8) (k : Nat) (hk : ∀ j, k < j → f j = 0) (h0 : 0 < q.length) : PM q f (k + q.length - 1) = ma (C q (q.length - 1)) (f k) := by
  induction q with
  | nil => cases h0
  | cons a q ih =>
    by_cases hq : q = []
    · subst hq
      simp only [PM, List.length_cons, List.length_nil]
      rw [show k + (0 + 1) - 1 = k by omega, show 0 + 1 - 1 = 0 by rfl, C_zero]
      cases k with
      | zero => simp [sh]
      | succ k => simp [sh]
    · have hl : 0 < q.length := Nat.pos_of_ne_zero (fun e => hq (List.eq_nil_of_length_eq_zero e))
      have ih := ih hl
      obtain ⟨m, hm⟩ : ∃ m, q.length = m + 1 := ⟨q.length - 1, by omega⟩
      simp only [PM, List.length_cons]
      rw [hm] at ih ⊢
      rw [show k + (m + 1 + 1) - 1 = (k + m) + 1 by omega, hk _ (by omega), ma_zero, zero_x, show m + 1 + 1 - 1 = m + 1 by omega, C_succ]
      simp only [sh]
      rw [show k + (m + 1) - 1 = k + m by omega, show m + 1 - 1 = m by omega] at ih
      exact ih
theorem eq_of_C {p q : List UInt8} (hp : Trd p) (hq : Trd q) (h : C p = C q) : p = q := by
  have e1 := tr_id p hp
  have e2 := tr_id q hq
  rw [← e1, ← e2]
  exact tr_ext _ _ h (fun k hk => C_big p k hk) (fun k hk => C_big q k hk)
theorem div_one {p q Q R Q' R' : List UInt8} (h : DivOk p q Q R) (h' : DivOk p q Q' R') : Q = Q' ∧ R = R' := by
  obtain ⟨a, b, c, d⟩ := h
  obtain ⟨a', b', c', d'⟩ := h'
  have eq1 : C (tr (C q) q.length) = C q := C_tr _ _ (fun k hk => C_big q k hk)
  have lq := tr_length (C q) q.length
  have hm : 0 < tl (C q) q.length := by omega
  have hlead : C (tr (C q) q.length) ((tr (C q) q.length).length - 1) ≠ 0 := by rw [eq1, lq]; exact tl_last _ _ hm
  have hsum : ∀ x, PM (tr (C q) q.length) (fun k => C Q k ^^^ C Q' k) x = C R x ^^^ C R' x := by
    intro x
    have e := (congrFun a x).symm.trans (congrFun a' x)
    rw [PM_comm Q, PM_comm Q', ← PM_congr eq1, ← PM_congr eq1] at e
    rw [PM_xor]
    simp only []
    generalize PM (tr (C q) q.length) (C Q) x = u at *
    generalize PM (tr (C q) q.length) (C Q') x = v at *
    have e2 : u ^^^ v ^^^ (C R x ^^^ C R' x) = 0 := by rw [x_four, e, x_self]
    exact (x_eq_zero _ _).1 e2
  have hQ : C Q = C Q' := by
    funext n
    rw [← x_eq_zero]
    have hz : tl (fun k => C Q k ^^^ C Q' k) (Q.length + Q'.length) = 0 := by
      by_cases h0 : tl (fun k => C Q k ^^^ C Q' k) (Q.length + Q'.length) = 0
      · exact h0
      · exfalso
        have hpos : 0 < tl (fun k => C Q k ^^^ C Q' k) (Q.length + Q'.length) := by omega
        have hl := tl_last _ _ hpos
        have hb : ∀ j, tl (fun k => C Q k ^^^ C Q' k) (Q.length + Q'.length) - 1 < j → (fun k => C Q k ^^^ C Q' k) j = 0 := by
          intro j hj
          by_cases hj2 : j < Q.length + Q'.length
          · exact tl_zero (fun k => C Q k ^^^ C Q' k) _ j (by omega) hj2
          · simp only []
            rw [C_big Q j (by omega), C_big Q' j (by omega), x_self]
        have ht := PM_top (tr (C q) q.length) _ _ hb (by omega)
        rw [hsum, C_big R _ (by omega), C_big R' _ (by omega), x_self] at ht
        exact ma_ne _ _ hlead hl ht.symm
    by_cases hn : n < Q.length + Q'.length
    · exact tl_zero (fun k => C Q k ^^^ C Q' k) _ n (by omega) hn
    · rw [C_big Q n (by omega), C_big Q' n (by omega), x_self]
  have hR : C R = C R' := by
    funext x
    have e := hsum x
    rw [hQ] at e
    have hz : (fun k => C Q' k ^^^ C Q' k) = fun k : Nat => if k = 0 then (0 : UInt8) else 0 := by
      funext k
      rw [x_self]; split <;> rfl
    rw [hz, PM_one] at e
    simp only [zero_ma] at e
    exact (x_eq_zero _ _).1 e.symm
  exact ⟨eq_of_C c c' hQ, eq_of_C d d' hR⟩
end Go.Proofs.Ytgidhkfmelpjfaa
