/- Plain facts on runs of two rows, one behind the other. -/
import Derived.Test.YtillclgolelefaaDoorNtM
namespace Go.Proofs.YtillclgolelefaaDoor

theorem hasRun_eq {bs : List UInt8} {k m : Nat} (h : HasRun bs k m) : ∃ i, i + m ≤ k ∧ ∀ j, i ≤ j → j < i + m → bs[j]? = bs[i]? := by
  obtain ⟨i, h1, h2⟩ := h
  refine ⟨i, h1, fun j hj hlt => ?_⟩
  obtain ⟨d, rfl⟩ : ∃ d, j = i + d := ⟨j - i, by omega⟩
  clear hj
  induction d with
  | zero => rfl
  | succ d ih =>
    rw [← ih (by omega)]
    exact (h2 (i + d) (by omega) (by omega)).symm
theorem hasRun_of {bs : List UInt8} {k m i : Nat} (h1 : i + m ≤ k) (x : Option UInt8) (h2 : ∀ j, i ≤ j → j < i + m → bs[j]? = x) : HasRun bs k m :=
  ⟨i, h1, fun j a b => (h2 j a (by omega)).trans (h2 (j + 1) (by omega) b).symm⟩

/-- t letters at the end are like the last one, and no more. -/
def TailIs (a : List UInt8) (t : Nat) : Prop := t ≤ a.length ∧ (∀ j, j < t → a[a.length - 1 - j]? = a[a.length - 1]?) ∧ (t < a.length → a[a.length - 1 - t]? ≠ a[a.length - 1]?)
/-- h letters at the beginning are like the first one, and no more. -/
def HeadIs (b : List UInt8) (h : Nat) : Prop := h ≤ b.length ∧ (∀ j, j < h → b[j]? = b[0]?) ∧ (h < b.length → b[h]? ≠ b[0]?)

theorem run_both (a b : List UInt8) (t h : Nat) (ht : TailIs a t) (hh : HeadIs b h) :
    runOf (a ++ b) = max (max (runOf a) (runOf b)) (if 0 < a.length ∧ 0 < b.length ∧ a[a.length - 1]? = b[0]? then t + h else 0) := by
  have ga : ∀ j, j < a.length → (a ++ b)[j]? = a[j]? := fun j hj => List.getElem?_append_left hj
  have gb : ∀ j, (a ++ b)[a.length + j]? = b[j]? := fun j => by
    rw [List.getElem?_append_right (by omega)]
    congr 1
    omega
  obtain ⟨ht1, ht2, ht3⟩ := ht
  obtain ⟨hh1, hh2, hh3⟩ := hh
  apply eq_of_le_iff
  intro m
  rw [runOf_iff, List.length_append]
  constructor
  · intro hr
    obtain ⟨i, h1, h2⟩ := hasRun_eq hr
    rcases Nat.lt_or_ge a.length (i + m) with hc | hc
    · rcases Nat.lt_or_ge i a.length with hd | hd
      · have e1 : a[a.length - 1]? = a[i]? := by
          rw [← ga (a.length - 1) (by omega), ← ga i hd]
          exact h2 _ (by omega) (by omega)
        have e2 : b[0]? = a[i]? := by
          rw [← gb 0, ← ga i hd]
          exact h2 _ (by omega) (by omega)
        have hcond : 0 < a.length ∧ 0 < b.length ∧ a[a.length - 1]? = b[0]? := ⟨by omega, by omega, e1.trans e2.symm⟩
        rw [if_pos hcond]
        have k1 : a.length - i ≤ t := by
          apply Nat.le_of_not_lt
          intro hlt
          apply ht3 (by omega)
          rw [e1, ← ga (a.length - 1 - t) (by omega), ← ga i hd]
          exact h2 _ (by omega) (by omega)
        have k2 : i + m - a.length ≤ h := by
          apply Nat.le_of_not_lt
          intro hlt
          apply hh3 (by omega)
          rw [e2, ← gb h, ← ga i hd]
          exact h2 _ (by omega) (by omega)
        omega
      · have : m ≤ runOf b := (runOf_iff b m).2 (hasRun_of (i := i - a.length) (by omega) ((a ++ b)[i]?) fun j hj hlt => by
          rw [← gb j]
          exact h2 _ (by omega) (by omega))
        omega
    · have : m ≤ runOf a := (runOf_iff a m).2 (hasRun_of (i := i) hc ((a ++ b)[i]?) fun j hj hlt => by
        rw [← ga j (by omega)]
        exact h2 j hj hlt)
      omega
  · intro hm
    have hor : m ≤ runOf a ∨ m ≤ runOf b ∨ m ≤ (if 0 < a.length ∧ 0 < b.length ∧ a[a.length - 1]? = b[0]? then t + h else 0) := by
      generalize (if 0 < a.length ∧ 0 < b.length ∧ a[a.length - 1]? = b[0]? then t + h else 0) = z at hm ⊢
      omega
    rcases hor with h | h | h
    · obtain ⟨i, h1, h2⟩ := hasRun_eq ((runOf_iff a m).1 h)
      refine hasRun_of (i := i) (by omega) (a[i]?) fun j hj hl => ?_
      rw [ga j (by omega)]
      exact h2 j hj hl
    · obtain ⟨i, h1, h2⟩ := hasRun_eq ((runOf_iff b m).1 h)
      refine hasRun_of (i := a.length + i) (by omega) (b[i]?) fun j hj hl => ?_
      obtain ⟨d, rfl⟩ : ∃ d, j = a.length + d := ⟨j - a.length, by omega⟩
      rw [gb d]
      exact h2 d (by omega) (by omega)
    · split at h
      · rename_i hcond
        refine hasRun_of (i := a.length - t) (by omega) (b[0]?) fun j hj hl => ?_
        rcases Nat.lt_or_ge j a.length with hc | hc
        · rw [ga j hc]
          have := ht2 (a.length - 1 - j) (by omega)
          rw [show a.length - 1 - (a.length - 1 - j) = j by omega] at this
          rw [this, hcond.2.2]
        · obtain ⟨d, rfl⟩ : ∃ d, j = a.length + d := ⟨j - a.length, by omega⟩
          rw [gb d]
          exact hh2 d (by omega)
      · exact ⟨0, by omega, fun j _ h => by omega⟩

theorem run_replicate (x : UInt8) (n : Nat) : runOf (List.replicate n x) = n := by
  apply eq_of_le_iff
  intro m
  rw [runOf_iff, List.length_replicate]
  exact ⟨fun ⟨i, h, _⟩ => by omega, fun h => hasRun_of (i := 0) (by omega) (some x) fun j _ hj => by rw [List.getElem?_replicate, if_pos (by omega)]⟩
end Go.Proofs.YtillclgolelefaaDoor
