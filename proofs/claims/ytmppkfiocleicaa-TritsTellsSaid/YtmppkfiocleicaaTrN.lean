/- Mathematics of the trits' order. -/
import Derived.Test.YtmppkfiocleicaaTrM
namespace Go.Proofs.Ytmppkfiocleicaa
open Go.RowKit Go.Shelf

/-- The number that digits make, by a base. -/
def vl (b : Nat) : List UInt8 → Nat
  | [] => 0
  | c :: l => c.toNat * b ^ l.length + vl b l
theorem vl_lt (b : Nat) (l : List UInt8) (h : ∀ c ∈ l, c.toNat < b) : vl b l < b ^ l.length := by
  induction l with
  | nil => simp [vl]
  | cons c l ih =>
    have h1 := ih fun c hc => h c (List.mem_cons_of_mem _ hc)
    have h2 := h c (List.mem_cons_self ..)
    have h3 : (c.toNat + 1) * b ^ l.length ≤ b * b ^ l.length := Nat.mul_le_mul_right _ h2
    rw [Nat.succ_mul] at h3
    rw [vl, List.length_cons, Nat.pow_succ, Nat.mul_comm (b ^ l.length) b]
    omega
theorem vl_less (b : Nat) (l m : List UInt8) (hl : l.length = m.length) (h1 : ∀ c ∈ l, c.toNat < b) (h2 : ∀ c ∈ m, c.toNat < b) : Op.bytesLess l m = decide (vl b l < vl b m) := by
  induction l generalizing m with
  | nil =>
    cases m with
    | nil => simp [Op.bytesLess, vl]
    | cons c m => simp at hl
  | cons c l ih =>
    cases m with
    | nil => simp at hl
    | cons d m =>
      simp only [List.length_cons, Nat.add_right_cancel_iff] at hl
      have i1 := ih m hl (fun c hc => h1 c (List.mem_cons_of_mem _ hc)) (fun c hc => h2 c (List.mem_cons_of_mem _ hc))
      have v1 := vl_lt b l fun c hc => h1 c (List.mem_cons_of_mem _ hc)
      have v2 := vl_lt b m fun c hc => h2 c (List.mem_cons_of_mem _ hc)
      rw [hl] at v1
      simp only [Op.bytesLess, i1, vl, hl]
      rw [Bool.eq_iff_iff]
      simp only [Bool.or_eq_true, Bool.and_eq_true, decide_eq_true_eq, beq_iff_eq, UInt8.lt_iff_toNat_lt]
      generalize b ^ m.length = P at *
      constructor
      · rintro (h | ⟨h, h'⟩)
        · have : (c.toNat + 1) * P ≤ d.toNat * P := Nat.mul_le_mul_right _ h
          rw [Nat.succ_mul] at this
          omega
        · rw [h]; omega
      · intro h
        rcases Nat.lt_trichotomy c.toNat d.toNat with h3 | h3 | h3
        · exact .inl h3
        · refine .inr ⟨UInt8.toNat_inj.1 h3, ?_⟩
          rw [h3] at h
          omega
        · have : (d.toNat + 1) * P ≤ c.toNat * P := Nat.mul_le_mul_right _ h3
          rw [Nat.succ_mul] at this
          omega
theorem vl_snoc (b : Nat) (l : List UInt8) (c : UInt8) : vl b (l ++ [c]) = vl b l * b + c.toNat := by
  induction l with
  | nil => simp [vl]
  | cons d l ih =>
    simp only [List.cons_append, vl, ih, List.length_append, List.length_singleton, Nat.pow_succ, Nat.add_mul, Nat.mul_assoc]
    omega
theorem nb_vl (L : List UInt8) (k : Nat) (hk : k ≤ L.length) : nb L k = vl 256 (L.take k) := by
  induction k with
  | zero => simp [nb, vl]
  | succ k ih => rw [nb, ih (by omega), List.take_succ_eq_append_getElem (by omega), vl_snoc, C8_at L k (by omega)]
theorem nt3_vl (L : List UInt8) (k : Nat) (hk : k ≤ L.length) : nt3 L k = vl 3 (L.take k) := by
  induction k with
  | zero => simp [nt3, vl]
  | succ k ih => rw [nt3, ih (by omega), List.take_succ_eq_append_getElem (by omega), vl_snoc, C8_at L k (by omega)]
theorem nb_less (L M : List UInt8) (hL : L.length = 5) (hM : M.length = 5) : Op.bytesLess L M = decide (nb L 5 < nb M 5) := by
  rw [nb_vl L 5 (by omega), nb_vl M 5 (by omega), List.take_of_length_le (by omega), List.take_of_length_le (by omega)]
  exact vl_less 256 L M (by omega) (fun c _ => c.toNat_lt) (fun c _ => c.toNat_lt)
theorem trL_less (x y : Nat) (hx : x < 1099511627776) (hy : y < 1099511627776) : Op.bytesLess (trL x) (trL y) = decide (x < y) := by
  have h : ∀ z, ∀ c ∈ trL z, c.toNat < 3 := by
    intro z c hc
    obtain ⟨j, hj, rfl⟩ := List.mem_iff_getElem.1 hc
    have := trL_le z j (by rwa [trL_length] at hj)
    rw [C8_at _ _ hj] at this
    omega
  have e : ∀ z, z < 1099511627776 → vl 3 (trL z) = z := by
    intro z hz
    have h1 := nt3_vl (trL z) 26 (by rw [trL_length]; omega)
    rw [List.take_of_length_le (by rw [trL_length]; omega), nt3_trL z (by omega) 26 (by omega), Nat.sub_self, Nat.pow_zero, Nat.div_one] at h1
    exact h1.symm
  rw [vl_less 3 _ _ (by rw [trL_length, trL_length]) (h x) (h y), e x hx, e y hy]
theorem trL_inj (x y : Nat) (hx : x < 1099511627776) (hy : y < 1099511627776) (h : trL x = trL y) : x = y := by
  have h1 := backG_trL x hx
  rw [h, backG_trL y hy] at h1
  injection h1 with h1
  have h2 := nb_byL x (by omega) 5 (by omega)
  have h3 := nb_byL y (by omega) 5 (by omega)
  rw [h1] at h3
  rw [Nat.sub_self, Nat.pow_zero, Nat.div_one] at h2 h3
  omega
theorem nb_inj (L M : List UInt8) (hL : L.length = 5) (hM : M.length = 5) (h : nb L 5 = nb M 5) : L = M := by
  rw [← byL_nb L hL, ← byL_nb M hM, h]
end Go.Proofs.Ytmppkfiocleicaa
