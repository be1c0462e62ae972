/- Mathematics of consensus: what is counted most. Of no program. -/
import Derived.Test.YtfkjheilcbppcaaL
namespace Go.Proofs.Ytfkjheilcbppcaa
open Go.RowKit

/-- The pair of the greatest count, the first one of these. -/
def mostF (l : List (Nat × Nat)) (s : Nat × Nat) : Nat × Nat := l.foldl (fun s x => if s.2 < x.2 then x else s) s
theorem mostF_cons (x : Nat × Nat) (l : List (Nat × Nat)) (s : Nat × Nat) : mostF (x :: l) s = mostF l (if s.2 < x.2 then x else s) := rfl
theorem mostF_snoc (l : List (Nat × Nat)) (x s : Nat × Nat) : mostF (l ++ [x]) s = if (mostF l s).2 < x.2 then x else mostF l s := by
  unfold mostF
  rw [List.foldl_append]
  rfl
/-- Counts of nought count for nothing. -/
theorem mostF_pos (l : List (Nat × Nat)) : ∀ s, mostF (l.filter fun x => decide (0 < x.2)) s = mostF l s := by
  induction l with
  | nil => intro s; rfl
  | cons x l ih =>
    intro s
    by_cases h : 0 < x.2
    · rw [List.filter_cons_of_pos (by simpa using h), mostF_cons, mostF_cons, ih]
    · rw [List.filter_cons_of_neg (by simpa using h), mostF_cons, ih, if_neg (by omega)]
theorem mostF_le (l : List (Nat × Nat)) : ∀ s, s.2 ≤ (mostF l s).2 ∧ ∀ x ∈ l, x.2 ≤ (mostF l s).2 := by
  induction l with
  | nil => intro s; exact ⟨Nat.le_refl _, fun x h => by cases h⟩
  | cons y l ih =>
    intro s
    rw [mostF_cons]
    obtain ⟨h1, h2⟩ := ih (if s.2 < y.2 then y else s)
    have h3 : s.2 ≤ (if s.2 < y.2 then y else s).2 ∧ y.2 ≤ (if s.2 < y.2 then y else s).2 := by split <;> omega
    refine ⟨by omega, fun x hx => ?_⟩
    rcases List.mem_cons.1 hx with rfl | hx
    · omega
    · exact h2 x hx
theorem mostF_mem (l : List (Nat × Nat)) : ∀ s, mostF l s = s ∨ mostF l s ∈ l := by
  induction l with
  | nil => intro s; exact .inl rfl
  | cons y l ih =>
    intro s
    rw [mostF_cons]
    rcases ih (if s.2 < y.2 then y else s) with h | h
    · by_cases hy : s.2 < y.2
      · rw [if_pos hy] at h ⊢
        exact .inr (by rw [h]; exact List.mem_cons_self ..)
      · rw [if_neg hy] at h ⊢
        exact .inl h
    · exact .inr (List.mem_cons_of_mem _ h)
/-- Rising lists of the same elements are the same. -/
theorem rise_same : ∀ (l m : List Nat), l.Pairwise (· < ·) → m.Pairwise (· < ·) → (∀ x, x ∈ l ↔ x ∈ m) → l = m := by
  intro l
  induction l with
  | nil =>
    intro m _ _ h
    cases m with
    | nil => rfl
    | cons y m => exact absurd ((h y).2 (List.mem_cons_self ..)) (by simp)
  | cons x l ih =>
    intro m hl hm h
    cases m with
    | nil => exact absurd ((h x).1 (List.mem_cons_self ..)) (by simp)
    | cons y m =>
      rw [List.pairwise_cons] at hl hm
      have hxy : x = y := by
        have h1 := (h x).1 (List.mem_cons_self ..)
        have h2 := (h y).2 (List.mem_cons_self ..)
        rcases List.mem_cons.1 h1 with e | h1
        · exact e
        · rcases List.mem_cons.1 h2 with e | h2
          · exact e.symm
          · have := hm.1 x h1
            have := hl.1 y h2
            omega
      subst hxy
      rw [ih m hl.2 hm.2 fun z => ?_]
      constructor
      · intro hz
        rcases List.mem_cons.1 ((h z).1 (List.mem_cons_of_mem _ hz)) with e | h1
        · have := hl.1 z hz; omega
        · exact h1
      · intro hz
        rcases List.mem_cons.1 ((h z).2 (List.mem_cons_of_mem _ hz)) with e | h1
        · have := hm.1 z hz; omega
        · exact h1
/-- Whatever rising keys are gone through, as long as all that count are among them. -/
theorem mostF_keys (f : Nat → Nat) (l m : List Nat) (hl : l.Pairwise (· < ·)) (hm : m.Pairwise (· < ·)) (h1 : ∀ k, 0 < f k → k ∈ l) (h2 : ∀ k, 0 < f k → k ∈ m) (s : Nat × Nat) :
    mostF (l.map fun k => (k, f k)) s = mostF (m.map fun k => (k, f k)) s := by
  rw [← mostF_pos, ← mostF_pos (m.map _)]
  have e : ∀ l : List Nat, (l.map fun k => (k, f k)).filter (fun x => decide (0 < x.2)) = (l.filter fun k => decide (0 < f k)).map fun k => (k, f k) := by
    intro l
    rw [List.filter_map]
    rfl
  rw [e, e, rise_same (l.filter _) (m.filter _) (hl.filter _) (hm.filter _)]
  intro x
  simp only [List.mem_filter, decide_eq_true_eq]
  exact ⟨fun h => ⟨h2 x h.2, h.2⟩, fun h => ⟨h1 x h.2, h.2⟩⟩
theorem range_rise (n : Nat) : (List.range n).Pairwise (· < ·) := List.pairwise_lt_range
/-- How many rows are so long. -/
def cntL (L : List (List UInt8)) (n : Nat) : Nat := L.countP fun r => r.length == n
/-- The greatest length. -/
def maxL (L : List (List UInt8)) : Nat := L.foldr (fun r m => max r.length m) 0
theorem maxL_ge {L : List (List UInt8)} {r : List UInt8} (h : r ∈ L) : r.length ≤ maxL L := by
  induction L with
  | nil => cases h
  | cons x L ih =>
    show _ ≤ max x.length (maxL L)
    rcases List.mem_cons.1 h with rfl | h
    · omega
    · have := ih h; omega
/-- The length that most have, the least of these, and how many. -/
def lenG (L : List (List UInt8)) : Nat × Nat := mostF ((List.range (maxL L + 1)).map fun n => (n, cntL L n)) (0, 0)
theorem cntL_pos {L : List (List UInt8)} {n : Nat} : 0 < cntL L n ↔ ∃ r ∈ L, r.length = n := by
  unfold cntL
  rw [List.countP_pos_iff]
  simp
theorem lenG_keys (L : List (List UInt8)) (l : List Nat) (hl : l.Pairwise (· < ·)) (h : ∀ r ∈ L, r.length ∈ l) : mostF (l.map fun n => (n, cntL L n)) (0, 0) = lenG L := by
  refine mostF_keys _ _ _ hl (range_rise _) (fun k hk => ?_) (fun k hk => ?_) _
  · obtain ⟨r, hr, rfl⟩ := cntL_pos.1 hk
    exact h r hr
  · obtain ⟨r, hr, rfl⟩ := cntL_pos.1 hk
    rw [List.mem_range]
    have := maxL_ge hr
    omega
theorem lenG_le (L : List (List UInt8)) (n : Nat) : cntL L n ≤ (lenG L).2 := by
  by_cases h : 0 < cntL L n
  · obtain ⟨r, hr, rfl⟩ := cntL_pos.1 h
    have hm := maxL_ge hr
    exact (mostF_le ((List.range (maxL L + 1)).map fun n => (n, cntL L n)) (0, 0)).2 (r.length, cntL L r.length) (List.mem_map.2 ⟨r.length, List.mem_range.2 (by omega), rfl⟩)
  · omega
theorem lenG_is (L : List (List UInt8)) (h : L ≠ []) : 0 < (lenG L).2 ∧ (lenG L).2 = cntL L (lenG L).1 := by
  have hp : 0 < (lenG L).2 := by
    cases L with
    | nil => exact absurd rfl h
    | cons r L =>
      have h1 := lenG_le (r :: L) r.length
      have h2 : 0 < cntL (r :: L) r.length := cntL_pos.2 ⟨r, List.mem_cons_self .., rfl⟩
      omega
  refine ⟨hp, ?_⟩
  rcases mostF_mem ((List.range (maxL L + 1)).map fun n => (n, cntL L n)) (0, 0) with e | e
  · have : lenG L = (0, 0) := e
    rw [this] at hp
    exact absurd hp (by decide)
  · obtain ⟨n, -, he⟩ := List.mem_map.1 e
    have : lenG L = (n, cntL L n) := he.symm
    rw [this]
theorem lenG_nil : lenG [] = (0, 0) := rfl
/-- Of all lengths that are as often it is the least one. -/
theorem mostF_first (l : List (Nat × Nat)) : ∀ s, (∀ x ∈ l, s.1 ≤ x.1) → (l.map (·.1)).Pairwise (· < ·) → ∀ x ∈ l, x.2 = (mostF l s).2 → (mostF l s).1 ≤ x.1 := by
  induction l with
  | nil => intro s _ _ x hx; cases hx
  | cons y l ih =>
    intro s hs hp x hx he
    rw [mostF_cons] at he ⊢
    rw [List.map_cons, List.pairwise_cons] at hp
    rcases List.mem_cons.1 hx with rfl | hx
    · by_cases h : s.2 < x.2
      · rw [if_pos h] at he ⊢
        rcases mostF_mem l x with e | e
        · rw [e]; exact Nat.le_refl _
        · -- the count isn't passed: the fold stays with x
          have : ∀ (l : List (Nat × Nat)) (s : Nat × Nat), s.2 = (mostF l s).2 → mostF l s = s := by
            intro l
            induction l with
            | nil => intro s _; rfl
            | cons z l ih2 =>
              intro s h
              rw [mostF_cons] at h ⊢
              have h1 := (mostF_le l (if s.2 < z.2 then z else s)).1
              by_cases hz : s.2 < z.2
              · rw [if_pos hz] at h1 h; omega
              · rw [if_neg hz] at h ⊢
                exact ih2 s h
          rw [this l x he]
          exact Nat.le_refl _
      · rw [if_neg h] at he ⊢
        rcases mostF_mem l s with e | e
        · rw [e]; exact hs x (List.mem_cons_self ..)
        · have : ∀ (l : List (Nat × Nat)) (s : Nat × Nat), s.2 = (mostF l s).2 → mostF l s = s := by
            intro l
            induction l with
            | nil => intro s _; rfl
            | cons z l ih2 =>
              intro s h
              rw [mostF_cons] at h ⊢
              have h1 := (mostF_le l (if s.2 < z.2 then z else s)).1
              by_cases hz : s.2 < z.2
              · rw [if_pos hz] at h1 h; omega
              · rw [if_neg hz] at h ⊢
                exact ih2 s h
          have h1 := (mostF_le l s).1
          rw [this l s (by omega)]
          exact hs x (List.mem_cons_self ..)
    · refine ih _ (fun z hz => ?_) hp.2 x hx he
      split
      · have := hp.1 z.1 (List.mem_map.2 ⟨z, hz, rfl⟩); omega
      · exact hs z (List.mem_cons_of_mem _ hz)
theorem lenG_least (L : List (List UInt8)) (n : Nat) (h : 0 < cntL L n) (he : cntL L n = (lenG L).2) : (lenG L).1 ≤ n := by
  obtain ⟨r, hr, rfl⟩ := cntL_pos.1 h
  have e : ((List.range (maxL L + 1)).map fun n => (n, cntL L n)).map (·.1) = List.range (maxL L + 1) := by
    rw [List.map_map]
    exact List.map_id _
  have hm := maxL_ge hr
  exact mostF_first ((List.range (maxL L + 1)).map fun n => (n, cntL L n)) (0, 0) (fun x _ => Nat.zero_le _) (by rw [e]; exact range_rise _) (r.length, cntL L r.length) (List.mem_map.2 ⟨r.length, List.mem_range.2 (by omega), rfl⟩) he
/-- It is told by that. -/
theorem lenG_eq {L : List (List UInt8)} {n t : Nat} (h0 : 0 < t) (h1 : cntL L n = t) (h2 : ∀ m, cntL L m ≤ t) (h3 : ∀ m, cntL L m = t → n ≤ m) : lenG L = (n, t) := by
  have hne : L ≠ [] := by
    rintro rfl
    have : cntL [] n = 0 := rfl
    omega
  obtain ⟨p1, p2⟩ := lenG_is L hne
  have q1 := lenG_le L n
  have q2 := h2 (lenG L).1
  have q3 := lenG_least L n (by omega) (by omega)
  have q4 := h3 (lenG L).1 (by omega)
  exact Prod.ext (by show (lenG L).1 = n; omega) (by show (lenG L).2 = t; omega)
theorem cntL_perm {L M : List (List UInt8)} (h : L.Perm M) (n : Nat) : cntL L n = cntL M n := h.countP_eq _
theorem lenG_perm {L M : List (List UInt8)} (h : L.Perm M) : lenG L = lenG M := by
  by_cases hL : L = []
  · subst hL
    rw [h.nil_eq]
  · obtain ⟨p1, p2⟩ := lenG_is L hL
    refine (lenG_eq (L := M) p1 (by rw [← cntL_perm h]; exact p2.symm) (fun m => by rw [← cntL_perm h]; exact lenG_le L m) (fun m e => ?_)).symm ▸ rfl
    rw [← cntL_perm h] at e
    exact lenG_least L m (by omega) e
/-- How many rows so long have that byte there. -/
def cntC (L : List (List UInt8)) (n i c : Nat) : Nat := L.countP fun r => r.length == n && ((r[i]?).getD 0).toNat == c
def colG (L : List (List UInt8)) (i : Nat) : Nat × Nat := mostF ((List.range 256).map fun c => (c, cntC L (lenG L).1 i c)) (0, 0)
def ofG (L : List (List UInt8)) : List UInt8 := (List.range (lenG L).1).map fun i => UInt8.ofNat (colG L i).1
theorem cntC_perm {L M : List (List UInt8)} (h : L.Perm M) (n i c : Nat) : cntC L n i c = cntC M n i c := h.countP_eq _
theorem colG_perm {L M : List (List UInt8)} (h : L.Perm M) (i : Nat) : colG L i = colG M i := by
  unfold colG
  rw [lenG_perm h]
  simp only [cntC_perm h]
theorem ofG_perm {L M : List (List UInt8)} (h : L.Perm M) : ofG L = ofG M := by
  unfold ofG
  rw [lenG_perm h]
  simp only [colG_perm h]
theorem ofG_length (L : List (List UInt8)) : (ofG L).length = (lenG L).1 := by simp [ofG]
end Go.Proofs.Ytfkjheilcbppcaa
