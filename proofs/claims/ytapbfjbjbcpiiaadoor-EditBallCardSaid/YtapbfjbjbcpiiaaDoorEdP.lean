/- Mathematics of EditApplies: an edit goes no farther than one; all edits but the first make another word; how many there are. -/
import Derived.Test.YtapbfjbjbcpiiaaDoorEdO
namespace Go.Proofs.YtapbfjbjbcpiiaaDoor
open Go.RowKit Go.Shelf

theorem plG_at (p n : Nat) (h : p < n) (hn : n ≤ 100000) : plG (p : Int) n = p := by
  unfold plG
  have e0 : (p : Int).tmod (n : Int) = p := Int.tmod_eq_of_lt (by omega) (by omega)
  rw [e0, wz _ (by omega) (by omega)]
  have e1 : ((p : Int) + (n : Int)).tmod (n : Int) = p := by
    rw [Int.tmod_eq_emod_of_nonneg (by omega), Int.add_emod_right]
    exact Int.emod_eq_of_lt (by omega) (by omega)
  rw [e1]
  simp
theorem plG_lt (z : Int) (n : Nat) (h : 0 < n) (hn : n ≤ 100000) : plG z n < n := (pl_is z n h hn).1
theorem cut_at (s : List UInt8) (p : Nat) (h : p < s.length) : s = s.take p ++ s[p] :: s.drop (p + 1) := by
  rw [← List.drop_eq_getElem_cons h, List.take_append_drop]
theorem way_ap (s : List UInt8) (k : UInt8) (z : Int) (b : UInt8) (hl : s.length ≤ 1000) : ∃ m, m ≤ 1 ∧ Way m s (apG s k z b) := by
  unfold apG
  by_cases h1 : k = 1
  · rw [if_pos h1]
    by_cases h0 : s.length = 0
    · rw [if_pos h0]; exact ⟨0, by omega, Way.refl s⟩
    · rw [if_neg h0]
      have hp := plG_lt z s.length (by omega) (by omega)
      have := (Way.refl (s.take (plG z s.length))).append (Way.gap s[plG z s.length] (Way.refl (s.drop (plG z s.length + 1))))
      rw [← cut_at s _ hp] at this
      exact ⟨1, by omega, this⟩
  · rw [if_neg h1]
    by_cases h2 : k = 2
    · rw [if_pos h2]
      have := (Way.refl (s.take (plG z (s.length + 1)))).append (Way.more b (Way.refl (s.drop (plG z (s.length + 1)))))
      rw [List.take_append_drop] at this
      exact ⟨1, by omega, this⟩
    · rw [if_neg h2]
      by_cases h3 : k = 3
      · rw [if_pos h3]
        by_cases h0 : s.length = 0
        · rw [if_pos h0]; exact ⟨0, by omega, Way.refl s⟩
        · rw [if_neg h0]
          have hp := plG_lt z s.length (by omega) (by omega)
          have := (Way.refl (s.take (plG z s.length))).append (Way.swap s[plG z s.length] b (Way.refl (s.drop (plG z s.length + 1))))
          rw [← cut_at s _ hp] at this
          exact ⟨1, by omega, this⟩
      · rw [if_neg h3]; exact ⟨0, by omega, Way.refl s⟩
theorem dist_ap (s : List UInt8) (k : UInt8) (z : Int) (b : UInt8) (hl : s.length ≤ 1000) : dist s (apG s k z b) ≤ 1 := (dist_le_iff _ _ _).2 (way_ap s k z b hl)
theorem apG_len (s : List UInt8) (k : UInt8) (z : Int) (b : UInt8) (hl : s.length ≤ 1000) : (apG s k z b).length ≤ s.length + 1 := by
  have := (dist_apart s (apG s k z b)).2
  have := dist_ap s k z b hl
  omega
/-- What an edit of all but the first is. -/
def EdOk (s : List UInt8) (d : Edt) : Prop :=
  (d.k = 1 ∧ ∃ p, p < s.length ∧ d.z = (p : Nat)) ∨ (d.k = 3 ∧ ∃ p, p < s.length ∧ d.z = (p : Nat) ∧ d.b ≠ s.getD p 0) ∨ (d.k = 2 ∧ ∃ p, p ≤ s.length ∧ d.z = (p : Nat))
theorem ed_ok (s : List UInt8) (d : Edt) (h : d ∈ upS s s.length ++ upM (s.length + 1)) : EdOk s d := by
  rcases List.mem_append.1 h with h | h
  · obtain ⟨p, hp, h⟩ := List.mem_flatMap.1 h
    rw [List.mem_range] at hp
    rcases List.mem_cons.1 h with rfl | h
    · exact .inl ⟨rfl, p, hp, rfl⟩
    · obtain ⟨i, hi, rfl⟩ := List.mem_map.1 h
      have := (List.mem_filter.1 hi).2
      exact .inr (.inl ⟨rfl, p, hp, rfl, by simpa using this⟩)
  · obtain ⟨p, hp, h⟩ := List.mem_flatMap.1 h
    rw [List.mem_range] at hp
    obtain ⟨i, hi, rfl⟩ := List.mem_map.1 h
    exact .inr (.inr ⟨rfl, p, by omega, rfl⟩)
theorem apG_gap (s : List UInt8) (z : Int) (b : UInt8) (h : s.length ≠ 0) : apG s 1 z b = s.take (plG z s.length) ++ s.drop (plG z s.length + 1) := by
  unfold apG
  rw [if_pos rfl, if_neg h]
theorem apG_more (s : List UInt8) (z : Int) (b : UInt8) : apG s 2 z b = s.take (plG z (s.length + 1)) ++ b :: s.drop (plG z (s.length + 1)) := by
  unfold apG
  rw [if_neg (by decide), if_pos rfl]
theorem apG_swap (s : List UInt8) (z : Int) (b : UInt8) (h : s.length ≠ 0) : apG s 3 z b = s.take (plG z s.length) ++ b :: s.drop (plG z s.length + 1) := by
  unfold apG
  rw [if_neg (by decide), if_neg (by decide), if_pos rfl, if_neg h]
theorem other_gap (s : List UInt8) (p : Nat) (hp : p < s.length) : s.take p ++ s.drop (p + 1) ≠ s := by
  intro he
  have := congrArg List.length he
  rw [List.length_append, List.length_take, List.length_drop] at this
  omega
theorem other_more (s : List UInt8) (q : Nat) (b : UInt8) : s.take q ++ b :: s.drop q ≠ s := by
  intro he
  have := congrArg List.length he
  rw [List.length_append, List.length_take, List.length_cons, List.length_drop] at this
  omega
theorem other_swap (s : List UInt8) (p : Nat) (b : UInt8) (hp : p < s.length) (h : b ≠ s.getD p 0) : s.take p ++ b :: s.drop (p + 1) ≠ s := by
  intro he
  have : (s.take p ++ b :: s.drop (p + 1))[p]? = s[p]? := congrArg (fun l => l[p]?) he
  rw [List.getElem?_append_right (by rw [List.length_take]; omega), List.length_take, Nat.min_eq_left (by omega), Nat.sub_self, List.getElem?_cons_zero] at this
  rw [List.getD_eq_getElem?_getD, ← this] at h
  exact h rfl
theorem ed_other (s : List UInt8) (d : Edt) (hl : s.length ≤ 1000) (h : EdOk s d) : apG s d.k d.z d.b ≠ s := by
  rcases h with ⟨h1, p, hp, h2⟩ | ⟨h1, p, hp, h2, h3⟩ | ⟨h1, p, hp, h2⟩
  · rw [h1, apG_gap s _ _ (by omega), h2, plG_at p _ hp (by omega)]
    exact other_gap s p hp
  · rw [h1, apG_swap s _ _ (by omega), h2, plG_at p _ hp (by omega)]
    exact other_swap s p _ hp h3
  · rw [h1, apG_more s]
    exact other_more s _ _
theorem apG_none (s : List UInt8) (z : Int) (b : UInt8) : apG s 0 z b = s := by
  unfold apG
  rw [if_neg (by decide), if_neg (by decide), if_neg (by decide)]
theorem edG_first (s : List UInt8) (d : Edt) (h : (edG s)[0]? = some d) : d = ⟨0, 0, 0⟩ := by
  unfold edG at h
  rw [List.getElem?_cons_zero] at h
  exact (Option.some.inj h).symm
theorem edG_next (s : List UInt8) (k : Nat) (d : Edt) (h : (edG s)[k + 1]? = some d) : EdOk s d := by
  unfold edG at h
  rw [List.getElem?_cons_succ] at h
  exact ed_ok s d (List.mem_of_getElem? h)
theorem edG_same (s : List UInt8) (k : Nat) (d : Edt) (hl : s.length ≤ 1000) (h : (edG s)[k]? = some d) : (apG s d.k d.z d.b == s) = decide ((k : Int) = 0) := by
  by_cases hk : k = 0
  · rw [hk] at h
    have := apG_none s d.z d.b
    have hd := edG_first s d h
    have e : d.k = 0 := by rw [hd]
    rw [e, this, decide_eq_true (by omega)]
    exact beq_self_eq_true s
  · obtain ⟨j, rfl⟩ : ∃ j, k = j + 1 := ⟨k - 1, by omega⟩
    have := ed_other s d hl (edG_next s j d h)
    rw [decide_eq_false (by omega)]
    exact beq_eq_false_iff_ne.2 this
def isL (c : UInt8) : Bool := c == 65 || c == 67 || c == 71 || c == 84
/-- How many swaps of the first k letters there are. -/
def oG (s : List UInt8) : Nat → Nat
  | 0 => 0
  | k + 1 => oG s k + if isL (s.getD k 0) then 3 else 4
theorem sw_len (c : UInt8) (a : Nat) : (swE c a 4).length = if isL c then 3 else 4 := by
  unfold swE isL
  rw [List.length_map]
  have hr : List.range 4 = [0, 1, 2, 3] := rfl
  have f0 : lettE 0 = 65 := rfl
  have f1 : lettE 1 = 67 := rfl
  have f2 : lettE 2 = 71 := rfl
  have f3 : lettE 3 = 84 := rfl
  rw [hr]
  simp only [List.filter, f0, f1, f2, f3]
  by_cases h0 : c = 65
  · subst h0; rfl
  · by_cases h1 : c = 67
    · subst h1; rfl
    · by_cases h2 : c = 71
      · subst h2; rfl
      · by_cases h3 : c = 84
        · subst h3; rfl
        · have n0 : ((65 : UInt8) != c) = true := by simpa using fun h => h0 h.symm
          have n1 : ((67 : UInt8) != c) = true := by simpa using fun h => h1 h.symm
          have n2 : ((71 : UInt8) != c) = true := by simpa using fun h => h2 h.symm
          have n3 : ((84 : UInt8) != c) = true := by simpa using fun h => h3 h.symm
          simp [n0, n1, n2, n3, h0, h1, h2, h3]
theorem upS_len (s : List UInt8) (k : Nat) : (upS s k).length = k + oG s k := by
  induction k with
  | zero => rfl
  | succ k ih =>
    rw [upS_succ, List.length_append, List.length_cons, ih, sw_len]
    show _ = k + 1 + (oG s k + _)
    omega
theorem edG_count (s : List UInt8) : (edG s).length = 1 + 4 * (s.length + 1) + s.length + oG s s.length := by
  have h2 : ∀ k, (upM k).length = 4 * k := by
    intro k
    induction k with
    | zero => simp [upM]
    | succ k ih =>
      rw [upM_succ, List.length_append, ih]
      simp [moE]
      omega
  unfold edG
  rw [List.length_cons, List.length_append, h2, upS_len]
  omega
theorem oG_le (s : List UInt8) (k : Nat) : oG s k ≤ 4 * k := by
  induction k with
  | zero => exact Nat.le_refl _
  | succ k ih =>
    show oG s k + _ ≤ _
    split <;> omega
end Go.Proofs.YtapbfjbjbcpiiaaDoor
