/- TritsOnce. -/
import Derived.Test.YtmppkfiocleicaaTrO
import Derived.Test.YtmppkfiocleicaaDT
namespace Go.Proofs.Ytmppkfiocleicaa
open Go.RowKit Go.Shelf
attribute [local go_sem] Oper.semAt_some run_store_func

theorem backG_len {L x : List UInt8} (h : backG L = .ok x) : x.length = 5 := by
  unfold backG at h
  split at h
  · cases h
  · split at h
    · cases h
    · cases h; exact byL_length _
/-- What Back answers, either way. -/
def BackIs (L x : List UInt8) (e : Int) : Prop := x.length = 5 ∧ ((backG L = .ok x ∧ e = 0) ∨ (backG L = .error e ∧ x = List.replicate 5 0))
theorem Back_both (L : List UInt8) (hl : L.length = 26) : ∃ x e0, BackIs L x e0 ∧ ∀ w, Calls Try.prog 8 #[aB L] w fun e w' => e = .returned (.tuple #[aB x, .int .i64 e0]) ∧ Below w.heap.size w w' := by
  cases hb : backG L with
  | ok x => exact ⟨x, 0, ⟨backG_len hb, .inl ⟨hb, rfl⟩⟩, fun w => Back_yes L x hl hb w⟩
  | error m => exact ⟨List.replicate 5 0, m, ⟨rfl, .inr ⟨hb, rfl⟩⟩, fun w => Back_no L m hl hb w⟩
/-- Are the first k all trits? -/
def fB (L : List UInt8) (k : Nat) : Bool := (L.take k).all fun c => decide (c.toNat < 3)
theorem fB_succ (L : List UInt8) (k : Nat) (h : k < L.length) : fB L (k + 1) = (fB L k && decide ((L[k].toNat : Int) < 3)) := by
  unfold fB
  rw [List.take_succ_eq_append_getElem h, List.all_append]
  congr 1
  simp only [List.all_cons, List.all_nil, Bool.and_true]
  rw [decide_eq_decide]
  omega
theorem fB_all (L : List UInt8) (hl : L.length = 26) : fB L 26 = true ↔ ∀ j, j < 26 → (nb.C8 L j).toNat ≤ 2 := by
  unfold fB
  rw [List.take_of_length_le (by omega), List.all_eq_true]
  constructor
  · intro h j hj
    have := h L[j] (List.getElem_mem (by omega))
    rw [C8_at L j (by omega)]
    simp at this
    omega
  · intro h c hc
    obtain ⟨j, hj, rfl⟩ := List.mem_iff_getElem.1 hc
    have := h j (by omega)
    rw [C8_at L j hj] at this
    simp
    omega
theorem back_not {L x : List UInt8} {e : Int} (hl : L.length = 26) (hf : fB L 26 = false) (h : BackIs L x e) : e = 2 ∧ x = List.replicate 5 0 := by
  have hb : backG L = .error 2 := by
    have : ¬ ∀ j, j < 26 → (nb.C8 L j).toNat ≤ 2 := fun h => by rw [← fB_all L hl, hf] at h; cases h
    rw [backG, if_pos]
    rw [any_of L hl]
    apply Classical.byContradiction
    intro hno
    exact this fun j hj => by
      apply Classical.byContradiction
      intro h2
      exact hno ⟨j, hj, by omega⟩
  rcases h.2 with ⟨h1, _⟩ | ⟨h1, h2⟩
  · rw [hb] at h1; cases h1
  · rw [hb] at h1; cases h1; exact ⟨rfl, h2⟩
theorem back_fine {L x : List UInt8} {e : Int} (hl : L.length = 26) (hf : fB L 26 = true) (h : BackIs L x e) :
    (e = 80 ∧ x = List.replicate 5 0 ∧ 1 ≤ (nb.C8 L 0).toNat) ∨ (e = 0 ∧ x = byL (nt3 L 26) ∧ nt3 L 26 < 1099511627776) := by
  have hle := (fB_all L hl).1 hf
  have hn : ¬ (L.any fun c => decide (2 < c.toNat)) = true := by
    rw [any_of L hl]
    rintro ⟨j, hj, h2⟩
    have := hle j hj
    omega
  by_cases hb : 1099511627776 ≤ nt3 L 26
  · have hbk : backG L = .error 80 := by rw [backG, if_neg hn, if_pos hb]
    have h0 : 1 ≤ (nb.C8 L 0).toNat := by
      have h1 := nt3_digit L hle 26 (by omega) 0 (by omega)
      have h2 := nt3_lt L 26 fun j hj => hle j hj
      apply Classical.byContradiction
      intro hno
      have h3 : nt3 L 26 / 3 ^ (26 - 1 - 0) % 3 = 0 := by omega
      have h4 : nt3 L 26 / 3 ^ 25 < 3 := by
        rw [Nat.div_lt_iff_lt_mul (by omega)]
        omega
      have h5 : nt3 L 26 / 3 ^ 25 = 0 := by
        have h6 : nt3 L 26 / 3 ^ 25 % 3 = 0 := h3
        omega
      rw [Nat.div_eq_zero_iff] at h5
      omega
    rcases h.2 with ⟨h1, _⟩ | ⟨h1, h2⟩
    · rw [hbk] at h1; cases h1
    · rw [hbk] at h1; cases h1; exact .inl ⟨rfl, h2, h0⟩
  · have hbk : backG L = .ok (byL (nt3 L 26)) := by rw [backG, if_neg hn, if_neg hb]
    rcases h.2 with ⟨h1, h2⟩ | ⟨h1, _⟩
    · rw [hbk] at h1; cases h1; exact .inr ⟨h2, rfl, by omega⟩
    · rw [hbk] at h1; cases h1
/-- Of a word with another trit there are other bytes, or none. -/
theorem back_set {L y : List UInt8} {e : Int} (hl : L.length = 26) (hf : fB L 26 = true) (hn : nt3 L 26 < 1099511627776) (k : Nat) (hk : k < 26) (c : UInt8) (h : BackIs (L.set k c) y e) (hc : c ≠ L[k]'(by omega)) (he : e = 0) : y ≠ byL (nt3 L 26) := by
  intro hy
  subst he
  have hl2 : (L.set k c).length = 26 := by simpa using hl
  have hf2 : fB (L.set k c) 26 = true := by
    cases hfb : fB (L.set k c) 26 with
    | true => rfl
    | false => have := (back_not hl2 hfb h).1; cases this
  rcases back_fine hl2 hf2 h with ⟨h1, _⟩ | ⟨_, h2, h3⟩
  · cases h1
  · have e1 : nt3 L 26 = nt3 (L.set k c) 26 := by
      have a1 := nb_byL _ (show nt3 L 26 < 256 ^ 5 by omega) 5 (by omega)
      have a2 := nb_byL _ (show nt3 (L.set k c) 26 < 256 ^ 5 by omega) 5 (by omega)
      rw [← h2, hy] at a2
      rw [Nat.sub_self, Nat.pow_zero, Nat.div_one] at a1 a2
      omega
    have e2 := trL_nt3 L hl ((fB_all L hl).1 hf)
    have e3 := trL_nt3 (L.set k c) hl2 ((fB_all _ hl2).1 hf2)
    rw [← e1, e2] at e3
    apply hc
    have e4 : L[k]? = (L.set k c)[k]? := congrArg (·[k]?) e3
    rw [List.getElem?_set_self (by omega), List.getElem?_eq_getElem (by omega)] at e4
    exact (Option.some.inj e4).symm
end Go.Proofs.Ytmppkfiocleicaa
