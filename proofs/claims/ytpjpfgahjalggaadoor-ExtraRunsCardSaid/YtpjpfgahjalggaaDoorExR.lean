/- Runs, and a word without a letter of one. Mathematics. -/
import Derived.Test.YtpjpfgahjalggaaDoorExH
import Derived.Test.YtpjpfgahjalggaaDoorMG
namespace Go.Proofs.YtpjpfgahjalggaaDoor
open Go.RowKit

theorem runsG_lt (y : List UInt8) : ∀ m, ∀ v ∈ runsG y m, v < (m : Int) := by
  intro m v hv
  unfold runsG at hv
  obtain ⟨p, hp, rfl⟩ := List.mem_map.1 hv
  have := List.mem_range.1 (List.mem_filter.1 hp).1
  omega
theorem runsG_app (y : List UInt8) (m : Nat) : ∀ n, m ≤ n → ∃ r, runsG y n = runsG y m ++ r ∧ ∀ v ∈ r, (m : Int) ≤ v
  | 0, h => ⟨[], by obtain rfl : m = 0 := by omega
                    simp, fun v hv => by cases hv⟩
  | n + 1, h => by
    by_cases e : m = n + 1
    · subst e
      exact ⟨[], by simp, fun v hv => by cases hv⟩
    · obtain ⟨r, h1, h2⟩ := runsG_app y m n (by omega)
      rw [runsG_succ]
      split
      · refine ⟨r ++ [(n : Int)], by rw [h1, List.append_assoc], fun v hv => ?_⟩
        rcases List.mem_append.1 hv with hv | hv
        · exact h2 v hv
        · obtain rfl := List.mem_singleton.1 hv
          omega
      · exact ⟨r, h1, h2⟩
theorem runs_le (y : List UInt8) (n p i : Nat) (hp : p < n) (v : Int) (hi : (runsG y n)[i]? = some v) : v ≤ (p : Int) ↔ i < (runsG y (p + 1)).length := by
  obtain ⟨r, e, hr⟩ := runsG_app y (p + 1) n (by omega)
  rw [e] at hi
  constructor
  · intro h
    refine Decidable.byContradiction fun hn => ?_
    rw [List.getElem?_append_right (by omega)] at hi
    have := hr v (List.mem_of_getElem? hi)
    omega
  · intro h
    rw [List.getElem?_append_left h] at hi
    have := runsG_lt y (p + 1) v (List.mem_of_getElem? hi)
    omega
theorem runs_mono (y : List UInt8) {m n : Nat} (h : m ≤ n) : (runsG y m).length ≤ (runsG y n).length := by
  obtain ⟨r, e, -⟩ := runsG_app y m n h
  rw [e]; simp
theorem runs_len_same (y : List UInt8) (p : Nat) : ∀ q, p ≤ q → ((runsG y (p + 1)).length = (runsG y (q + 1)).length ↔ ∀ j, p < j → j ≤ q → begB y j = false)
  | 0, h => by
    obtain rfl : p = 0 := by omega
    exact ⟨fun _ j h1 h2 => by omega, fun _ => rfl⟩
  | q + 1, h => by
    by_cases e : p = q + 1
    · subst e
      exact ⟨fun _ j h1 h2 => by omega, fun _ => rfl⟩
    · have ih := runs_len_same y p q (by omega)
      have hm := runs_mono y (show p + 1 ≤ q + 1 by omega)
      rw [runsG_succ y (q + 1)]
      constructor
      · intro h1
        split at h1
        · rw [List.length_append] at h1
          simp only [List.length_singleton] at h1
          omega
        · rename_i hb
          intro j h2 h3
          by_cases e2 : j = q + 1
          · subst e2
            simpa using hb
          · exact ih.1 h1 j h2 (by omega)
      · intro h1
        rw [if_neg (by rw [h1 (q + 1) (by omega) (Nat.le_refl _)]; simp)]
        exact ih.2 fun j h2 h3 => h1 j h2 (by omega)
theorem begB_same (y : List UInt8) (j : Nat) (h : 0 < j) : begB y j = false ↔ atB y j = atB y (j - 1) := by
  unfold begB
  have : (j == 0) = false := by simp; omega
  rw [this]
  simp
theorem del_run (y : List UInt8) (p q : Nat) (h : p ≤ q) (hq : q < y.length) : delW y p = delW y q ↔ ∀ j, p < j → j ≤ q → begB y j = false := by
  constructor
  · intro e j h1 h2
    have h3 := congrArg (fun l => atB l (j - 1)) e
    change atB (delW y p) (j - 1) = atB (delW y q) (j - 1) at h3
    rw [atB_del y p (j - 1) (by omega), atB_del y q (j - 1) hq, if_neg (by omega), if_pos (by omega), show j - 1 + 1 = j by omega] at h3
    exact (begB_same y j (by omega)).2 h3
  · intro h1
    have l1 := delW_length y p (by omega)
    have l2 := delW_length y q hq
    refine ext_atB (by omega) fun k hk => ?_
    rw [atB_del y p k (by omega), atB_del y q k hq]
    by_cases h2 : k < p
    · rw [if_pos h2, if_pos (by omega)]
    · rw [if_neg h2]
      by_cases h3 : k < q
      · rw [if_pos h3]
        have := (begB_same y (k + 1) (by omega)).1 (h1 (k + 1) (by omega) (by omega))
        rw [this]
        simp
      · rw [if_neg h3]
theorem run_same (y : List UInt8) (p q : Nat) (hp : p < y.length) (hq : q < y.length) : delW y p = delW y q ↔ (runsG y (p + 1)).length = (runsG y (q + 1)).length := by
  rcases Nat.le_total p q with h | h
  · rw [del_run y p q h hq, runs_len_same y p q h]
  · rw [eq_comm, del_run y q p h hp, eq_comm, runs_len_same y q p h]
end Go.Proofs.YtpjpfgahjalggaaDoor
