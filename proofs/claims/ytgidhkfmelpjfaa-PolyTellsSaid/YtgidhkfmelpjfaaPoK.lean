/- Mathematics of the division. Of no program. -/
import Derived.Test.YtgidhkfmelpjfaaPoJ
namespace Go.Proofs.Ytgidhkfmelpjfaa
open Go.RowKit Go.Shelf

theorem PM_at (q : List UInt8) (a : UInt8) (n : Nat) : PM q (fun k => if k = n then a else 0) = fun k => if n ≤ k then ma a (C q (k - n)) else 0 := by
  induction n with
  | zero =>
    rw [PM_one]
    funext k
    rw [if_pos (Nat.zero_le _)]; rfl
  | succ n ih =>
    have e : (fun k => if k = n + 1 then a else (0 : UInt8)) = sh (fun k => if k = n then a else 0) := by
      funext k
      cases k with
      | zero => simp [sh]
      | succ k => simp [sh]
    rw [e, PM_sh, ih]
    funext k
    cases k with
    | zero => simp [sh]
    | succ k =>
      simp only [sh]
      by_cases h : n ≤ k
      · rw [if_pos h, if_pos (by omega), show k + 1 - (n + 1) = k - n by omega]
      · rw [if_neg h, if_neg (by omega)]

/-- One round of the division: the quotient's factor n, and what is left. -/
def dcof (q : List UInt8) (d : UInt8) (n : Nat) (S : (Nat → UInt8) × (Nat → UInt8)) : UInt8 := ma (S.2 (n + q.length - 1)) d
def dstep (q : List UInt8) (d : UInt8) (n : Nat) (S : (Nat → UInt8) × (Nat → UInt8)) : (Nat → UInt8) × (Nat → UInt8) :=
  (fun k => if k = n then dcof q d n S else S.1 k, acc n (fun j => ma (dcof q d n S) (C q j)) S.2 (nzS q q.length))
/-- So many rounds. -/
def dst (q : List UInt8) (d : UInt8) (N : Nat) (R0 : Nat → UInt8) : Nat → (Nat → UInt8) × (Nat → UInt8)
  | 0 => (fun _ => 0, R0)
  | j + 1 => dstep q d (N - 1 - j) (dst q d N R0 j)
theorem dstep_rest (q : List UInt8) (d : UInt8) (n : Nat) (S : (Nat → UInt8) × (Nat → UInt8)) : (dstep q d n S).2 = fun k => S.2 k ^^^ (if n ≤ k then ma (dcof q d n S) (C q (k - n)) else 0) := by
  funext k
  simp only [dstep]
  rw [acc_nz q n (fun j => ma (dcof q d n S) (C q j)) S.2 (fun i h hz => by simp only [C_get q i h, hz, ma_zero]) q.length (Nat.le_refl _)]
  by_cases h1 : n ≤ k
  · rw [if_pos h1]
    by_cases h2 : k - n < q.length
    · rw [if_pos ⟨h1, h2⟩]
    · rw [if_neg (by omega), C_big q (k - n) (by omega), ma_zero, x_zero]
  · rw [if_neg h1, if_neg (by omega), x_zero]
theorem dst_inv (q : List UInt8) (d : UInt8) (N : Nat) (R0 : Nat → UInt8) (hq : 0 < q.length) (hd : ma (C q (q.length - 1)) d = 1) (h0 : ∀ k, N + q.length - 1 ≤ k → R0 k = 0) (j : Nat) (hj : j ≤ N) :
    (∀ n, n < N - j → (dst q d N R0 j).1 n = 0) ∧ (∀ n, N ≤ n → (dst q d N R0 j).1 n = 0) ∧ (∀ k, N - j + q.length - 1 ≤ k → (dst q d N R0 j).2 k = 0) ∧
    R0 = fun x => (dst q d N R0 j).2 x ^^^ PM q (dst q d N R0 j).1 x := by
  induction j with
  | zero =>
    refine ⟨fun _ _ => rfl, fun _ _ => rfl, fun k hk => h0 k (by omega), ?_⟩
    funext x
    have hz : PM q (fun _ => (0 : UInt8)) x = 0 := by
      have h := PM_one q 0
      have e : (fun n : Nat => if n = 0 then (0 : UInt8) else 0) = fun _ => 0 := by funext n; split <;> rfl
      rw [e] at h
      rw [h]
      exact zero_ma _
    simp only [dst]
    rw [hz, x_zero]
  | succ j ih =>
    obtain ⟨h1, h2, h3, h4⟩ := ih (by omega)
    have e : dst q d N R0 (j + 1) = dstep q d (N - 1 - j) (dst q d N R0 j) := rfl
    rw [e]
    generalize dst q d N R0 j = S at *
    obtain ⟨n, hn⟩ : ∃ n, N - 1 - j = n := ⟨_, rfl⟩
    rw [hn]
    refine ⟨fun k hk => ?_, fun k hk => ?_, fun k hk => ?_, ?_⟩
    · simp only [dstep]
      rw [if_neg (by omega)]
      exact h1 k (by omega)
    · simp only [dstep]
      rw [if_neg (by omega)]
      exact h2 k hk
    · rw [dstep_rest]
      simp only []
      by_cases hk2 : k = n + q.length - 1
      · subst hk2
        rw [if_pos (by omega), show n + q.length - 1 - n = q.length - 1 by omega]
        unfold dcof
        rw [ma_assoc, ma_comm d, hd, ma_one, x_self]
      · rw [h3 k (by omega), C_big q (k - n) (by omega), ma_zero]
        split <;> rfl
    · have hQ : (dstep q d n S).1 = fun k => S.1 k ^^^ (if k = n then dcof q d n S else 0) := by
        funext k
        simp only [dstep]
        by_cases hk : k = n
        · subst hk; rw [if_pos rfl, if_pos rfl, h1 k (by omega), zero_x]
        · rw [if_neg hk, if_neg hk, x_zero]
      rw [hQ, PM_xor, PM_at, dstep_rest]
      funext x
      rw [congrFun h4 x]
      simp only []
      generalize (if n ≤ x then ma (dcof q d n S) (C q (x - n)) else 0) = t
      rw [x_four, x_self, x_zero]
/-- What the division tells. -/
theorem div_is (p q Q R : List UInt8) (d : UInt8) (N : Nat) (hq : 0 < q.length) (hd : ma (C q (q.length - 1)) d = 1) (hN : N = p.length + 1 - q.length)
    (hQ : Q = tr (dst q d N (C p) N).1 N) (hR : R = tr (dst q d N (C p) N).2 p.length) : (C p = fun x => PM Q (C q) x ^^^ C R x) ∧ R.length < q.length := by
  obtain ⟨_, h2, h3, h4⟩ := dst_inv q d N (C p) hq hd (fun k hk => C_big p k (by omega)) N (Nat.le_refl _)
  rw [Nat.sub_self] at h3
  have hR0 : ∀ k, p.length ≤ k → (dst q d N (C p) N).2 k = 0 := fun k hk => by
    by_cases h : q.length - 1 ≤ k
    · exact h3 k (by omega)
    · have hN0 : N = 0 := by omega
      subst hN0
      exact C_big p k hk
  have eQ : C Q = (dst q d N (C p) N).1 := by rw [hQ]; exact C_tr _ _ h2
  have eR : C R = (dst q d N (C p) N).2 := by rw [hR]; exact C_tr _ _ hR0
  refine ⟨?_, ?_⟩
  · rw [h4, PM_comm Q q, eQ, eR]
    funext x
    exact x_comm _ _
  · rw [hR, tr_length]
    have := tl_below (dst q d N (C p) N).2 p.length (q.length - 1) (fun j hj _ => h3 j (by omega))
    omega
end Go.Proofs.Ytgidhkfmelpjfaa
