/- Mathematics of EditBall: a way of two goes over a word that is one edit from the first. -/
import Derived.Test.YtapbfjbjbcpiiaaDoorEdR
namespace Go.Proofs.YtapbfjbjbcpiiaaDoor
open Go.RowKit Go.Shelf

/-- One edit, with letters that L admits. -/
inductive Step (L : UInt8 → Prop) : List UInt8 → List UInt8 → Prop
  | keep {a c} (x : UInt8) (h : Step L a c) : Step L (x :: a) (x :: c)
  | swap {a} (x y : UInt8) (h : L y) : Step L (x :: a) (y :: a)
  | gap {a} (x : UInt8) : Step L (x :: a) a
  | more {a} (y : UInt8) (h : L y) : Step L a (y :: a)
theorem way_step {L : UInt8 → Prop} {m : Nat} {a b : List UInt8} (h : Way m a b) : ∀ n, m = n + 1 → (∀ y ∈ b, L y) → ∃ c, Step L a c ∧ Way n c b := by
  induction h with
  | nil => intro n h; omega
  | keep x _ ih =>
    intro n hn hL
    obtain ⟨c, h1, h2⟩ := ih n hn fun y hy => hL y (List.mem_cons_of_mem _ hy)
    exact ⟨x :: c, .keep x h1, .keep x h2⟩
  | @swap m a b x y h _ =>
    intro n hn hL
    obtain rfl : m = n := by omega
    exact ⟨y :: a, .swap x y (hL y (List.mem_cons_self ..)), .keep y h⟩
  | @gap m a b x h _ =>
    intro n hn hL
    obtain rfl : m = n := by omega
    exact ⟨a, .gap x, h⟩
  | @more m a b y h _ =>
    intro n hn hL
    obtain rfl : m = n := by omega
    exact ⟨y :: a, .more y (hL y (List.mem_cons_self ..)), .keep y h⟩
theorem step_is {L : UInt8 → Prop} {a c : List UInt8} (h : Step L a c) :
    (∃ p, p < a.length ∧ c = a.take p ++ a.drop (p + 1)) ∨ (∃ p y, L y ∧ p ≤ a.length ∧ c = a.take p ++ y :: a.drop p) ∨ (∃ p y, L y ∧ p < a.length ∧ c = a.take p ++ y :: a.drop (p + 1)) := by
  induction h with
  | keep x _ ih =>
    rcases ih with ⟨p, h1, rfl⟩ | ⟨p, y, h0, h1, rfl⟩ | ⟨p, y, h0, h1, rfl⟩
    · exact .inl ⟨p + 1, by rw [List.length_cons]; omega, rfl⟩
    · exact .inr (.inl ⟨p + 1, y, h0, by rw [List.length_cons]; omega, rfl⟩)
    · exact .inr (.inr ⟨p + 1, y, h0, by rw [List.length_cons]; omega, rfl⟩)
  | swap x y h => exact .inr (.inr ⟨0, y, h, by rw [List.length_cons]; omega, rfl⟩)
  | gap x => exact .inl ⟨0, by rw [List.length_cons]; omega, rfl⟩
  | more y h => exact .inr (.inl ⟨0, y, h, Nat.zero_le _, rfl⟩)
theorem lett_of (y : UInt8) (h : isL y = true) : ∃ j, j < 4 ∧ y = lettE j := by
  unfold isL at h
  simp only [Bool.or_eq_true, beq_iff_eq] at h
  rcases h with ((h | h) | h) | h
  · exact ⟨0, by omega, h⟩
  · exact ⟨1, by omega, h⟩
  · exact ⟨2, by omega, h⟩
  · exact ⟨3, by omega, h⟩
theorem mem_gap (a : List UInt8) (p : Nat) (h : p < a.length) : (⟨1, (p : Int), 0⟩ : Edt) ∈ edG a := by
  unfold edG upS
  exact List.mem_cons_of_mem _ (List.mem_append_left _ (List.mem_flatMap.2 ⟨p, List.mem_range.2 h, List.mem_cons_self ..⟩))
theorem mem_swap (a : List UInt8) (p j : Nat) (h : p < a.length) (hj : j < 4) (hn : lettE j ≠ a.getD p 0) : (⟨3, (p : Int), lettE j⟩ : Edt) ∈ edG a := by
  unfold edG upS swE
  refine List.mem_cons_of_mem _ (List.mem_append_left _ (List.mem_flatMap.2 ⟨p, List.mem_range.2 h, List.mem_cons_of_mem _ (List.mem_map.2 ⟨j, List.mem_filter.2 ⟨List.mem_range.2 hj, ?_⟩, rfl⟩)⟩))
  simpa using hn
theorem mem_more (a : List UInt8) (p j : Nat) (h : p ≤ a.length) (hj : j < 4) : (⟨2, (p : Int), lettE j⟩ : Edt) ∈ edG a := by
  unfold edG upM moE
  exact List.mem_cons_of_mem _ (List.mem_append_right _ (List.mem_flatMap.2 ⟨p, List.mem_range.2 (by omega), List.mem_map.2 ⟨j, List.mem_range.2 hj, rfl⟩⟩))
theorem mem_none (a : List UInt8) : (⟨0, 0, 0⟩ : Edt) ∈ edG a := List.mem_cons_self ..
theorem step_edit {a c : List UInt8} (hl : a.length ≤ 1000) (h : Step (fun y => isL y = true) a c) : ∃ d, d ∈ edG a ∧ apG a d.k d.z d.b = c := by
  rcases step_is h with ⟨p, h1, rfl⟩ | ⟨p, y, h0, h1, rfl⟩ | ⟨p, y, h0, h1, rfl⟩
  · refine ⟨_, mem_gap a p h1, ?_⟩
    rw [apG_gap a _ _ (by omega), plG_at p _ h1 (by omega)]
  · obtain ⟨j, hj, rfl⟩ := lett_of y h0
    refine ⟨_, mem_more a p j h1 hj, ?_⟩
    rw [apG_more, plG_at p _ (by omega) (by omega)]
  · obtain ⟨j, hj, rfl⟩ := lett_of y h0
    by_cases hn : lettE j = a.getD p 0
    · refine ⟨_, mem_none a, ?_⟩
      rw [apG_none, hn, List.getD_eq_getElem?_getD, List.getElem?_eq_getElem h1]
      exact cut_at a p h1
    · refine ⟨_, mem_swap a p j h1 hj hn, ?_⟩
      rw [apG_swap a _ _ (by omega), plG_at p _ h1 (by omega)]
/-- Whether one of the first k edits of a makes a word near b. -/
def meetG (a b : List UInt8) : Nat → Bool
  | 0 => false
  | k + 1 => meetG a b k || match (edG a)[k]? with
    | some d => decide (dist (apG a d.k d.z d.b) b ≤ 1)
    | none => false
theorem meetG_succ (a b : List UInt8) (k : Nat) (d : Edt) (h : (edG a)[k]? = some d) : meetG a b (k + 1) = (meetG a b k || decide (dist (apG a d.k d.z d.b) b ≤ 1)) := by
  show (meetG a b k || _) = _
  rw [h]
theorem meetG_iff (a b : List UInt8) (k : Nat) : meetG a b k = true ↔ ∃ j d, j < k ∧ (edG a)[j]? = some d ∧ dist (apG a d.k d.z d.b) b ≤ 1 := by
  induction k with
  | zero => exact ⟨fun h => (by cases h), fun ⟨_, _, h, _⟩ => absurd h (by omega)⟩
  | succ k ih =>
    constructor
    · intro h
      by_cases h0 : meetG a b k = true
      · obtain ⟨j, d, h1, h2⟩ := ih.1 h0
        exact ⟨j, d, by omega, h2⟩
      · cases hd : (edG a)[k]? with
        | none =>
          unfold meetG at h
          rw [hd, Bool.or_false] at h
          exact absurd h h0
        | some d =>
          rw [meetG_succ a b k d hd, Bool.or_eq_true] at h
          rcases h with h | h
          · exact absurd h h0
          · exact ⟨k, d, by omega, hd, of_decide_eq_true h⟩
    · rintro ⟨j, d, h1, h2, h3⟩
      by_cases hj : j = k
      · subst hj
        rw [meetG_succ a b j d h2, decide_eq_true h3, Bool.or_true]
      · have := ih.2 ⟨j, d, by omega, h2, h3⟩
        unfold meetG
        rw [this, Bool.true_or]
theorem meetG_all (a b : List UInt8) (hl : a.length ≤ 1000) (hb : ∀ y ∈ b, isL y = true) : meetG a b (edG a).length = decide (dist a b ≤ 2) := by
  by_cases h : dist a b ≤ 2
  · rw [decide_eq_true h, meetG_iff]
    obtain ⟨m, hm, hw⟩ := (dist_le_iff a b 2).1 h
    have : ∃ d, d ∈ edG a ∧ dist (apG a d.k d.z d.b) b ≤ 1 := by
      by_cases h0 : m = 0
      · refine ⟨_, mem_none a, ?_⟩
        rw [apG_none]
        exact (dist_le_iff _ _ _).2 ⟨m, by omega, hw⟩
      · obtain ⟨c, h1, h2⟩ := way_step hw (m - 1) (by omega) hb
        obtain ⟨d, h3, h4⟩ := step_edit hl h1
        refine ⟨d, h3, ?_⟩
        rw [h4]
        exact (dist_le_iff _ _ _).2 ⟨m - 1, by omega, h2⟩
    obtain ⟨d, h1, h2⟩ := this
    obtain ⟨j, h3, h4⟩ := List.getElem_of_mem h1
    exact ⟨j, d, h3, by rw [List.getElem?_eq_getElem h3, h4], h2⟩
  · rw [decide_eq_false h, Bool.eq_false_iff]
    intro h1
    obtain ⟨j, d, _, _, h3⟩ := (meetG_iff _ _ _).1 h1
    have h4 := dist_tri a (apG a d.k d.z d.b) b
    have h5 := dist_ap a d.k d.z d.b hl
    exact h (by omega)
end Go.Proofs.YtapbfjbjbcpiiaaDoor
