/- The turn's mathematics: letters behind letters, and back. -/
import Derived.Test.YtniiblamoimcjaaDoorTuK
namespace Go.Proofs.YtniiblamoimcjaaDoor
open Go.RowKit Go.Shelf

def IsLet (c : UInt8) : Prop := c = 65 ∨ c = 67 ∨ c = 71 ∨ c = 84
def IsTri (t : UInt8) : Prop := t = 0 ∨ t = 1 ∨ t = 2
theorem let_letter (n : Int) : IsLet (letterOf n) := by
  unfold IsLet letterOf
  split
  · exact .inl rfl
  · split
    · exact .inr (.inl rfl)
    · split
      · exact .inr (.inr (.inl rfl))
      · exact .inr (.inr (.inr rfl))
theorem tri_trit (n : Int) : IsTri (tritOf n) := by
  unfold IsTri tritOf
  split
  · exact .inl rfl
  · split
    · exact .inr (.inl rfl)
    · exact .inr (.inr rfl)
theorem let_code {a : UInt8} (h : IsLet a) : codeOf a.toNat ≠ -1 := by
  rcases h with rfl | rfl | rfl | rfl <;> decide
theorem no_code {b : UInt8} (h1 : b ≠ 65) (h2 : b ≠ 67) (h3 : b ≠ 71) (h4 : b ≠ 84) : codeOf b.toNat = -1 := by
  have e : ∀ k : UInt8, b ≠ k → b.toNat ≠ k.toNat := fun k h he => h (UInt8.toNat_inj.1 he)
  have e1 := e 65 h1
  have e2 := e 67 h2
  have e3 := e 71 h3
  have e4 := e 84 h4
  simp at e1 e2 e3 e4
  simp [codeOf, e1, e2, e3, e4]
theorem beh_fact {a t : UInt8} (ha : IsLet a) (ht : IsTri t) : ∃ c, behG a t = .ok c ∧ IsLet c ∧ c ≠ a ∧ triG a c = .ok t := by
  rcases ha with rfl | rfl | rfl | rfl <;> rcases ht with rfl | rfl | rfl
  · exact ⟨67, by kernel_rfl, by simp [IsLet], by decide, by kernel_rfl⟩
  · exact ⟨71, by kernel_rfl, by simp [IsLet], by decide, by kernel_rfl⟩
  · exact ⟨84, by kernel_rfl, by simp [IsLet], by decide, by kernel_rfl⟩
  · exact ⟨65, by kernel_rfl, by simp [IsLet], by decide, by kernel_rfl⟩
  · exact ⟨71, by kernel_rfl, by simp [IsLet], by decide, by kernel_rfl⟩
  · exact ⟨84, by kernel_rfl, by simp [IsLet], by decide, by kernel_rfl⟩
  · exact ⟨65, by kernel_rfl, by simp [IsLet], by decide, by kernel_rfl⟩
  · exact ⟨67, by kernel_rfl, by simp [IsLet], by decide, by kernel_rfl⟩
  · exact ⟨84, by kernel_rfl, by simp [IsLet], by decide, by kernel_rfl⟩
  · exact ⟨65, by kernel_rfl, by simp [IsLet], by decide, by kernel_rfl⟩
  · exact ⟨67, by kernel_rfl, by simp [IsLet], by decide, by kernel_rfl⟩
  · exact ⟨71, by kernel_rfl, by simp [IsLet], by decide, by kernel_rfl⟩
theorem tri_fact {a c : UInt8} (ha : IsLet a) (hc : IsLet c) (hne : c ≠ a) : ∃ t, triG a c = .ok t ∧ IsTri t ∧ behG a t = .ok c := by
  have key : ∀ t, IsTri t → behG a t = .ok c → ∃ t, triG a c = .ok t ∧ IsTri t ∧ behG a t = .ok c := fun t ht hb => by
    obtain ⟨c', h1, _, _, h4⟩ := beh_fact ha ht
    rw [hb] at h1
    cases h1
    exact ⟨t, h4, ht, hb⟩
  rcases ha with rfl | rfl | rfl | rfl <;> rcases hc with rfl | rfl | rfl | rfl
  · exact absurd rfl hne
  · exact key 0 (.inl rfl) (by kernel_rfl)
  · exact key 1 (.inr (.inl rfl)) (by kernel_rfl)
  · exact key 2 (.inr (.inr rfl)) (by kernel_rfl)
  · exact key 0 (.inl rfl) (by kernel_rfl)
  · exact absurd rfl hne
  · exact key 1 (.inr (.inl rfl)) (by kernel_rfl)
  · exact key 2 (.inr (.inr rfl)) (by kernel_rfl)
  · exact key 0 (.inl rfl) (by kernel_rfl)
  · exact key 1 (.inr (.inl rfl)) (by kernel_rfl)
  · exact absurd rfl hne
  · exact key 2 (.inr (.inr rfl)) (by kernel_rfl)
  · exact key 0 (.inl rfl) (by kernel_rfl)
  · exact key 1 (.inr (.inl rfl)) (by kernel_rfl)
  · exact key 2 (.inr (.inr rfl)) (by kernel_rfl)
  · exact absurd rfl hne
theorem tri_same {a : UInt8} (ha : IsLet a) : triG a a = .error 90 := by
  rcases ha with rfl | rfl | rfl | rfl <;> kernel_rfl
theorem tri_bad {a b : UInt8} (ha : IsLet a) (hb : codeOf b.toNat = -1) : triG a b = .error 10 := by
  unfold triG
  rw [if_neg (let_code ha), if_pos hb]
theorem beh_bad {a b : UInt8} (ha : IsLet a) (hb : 3 ≤ b.toNat) : behG a b = .error 2 := by
  unfold behG
  rw [if_neg (let_code ha), if_pos hb]

abbrev wB (a : UInt8) (ts : List UInt8) := walkG behG (fun _ c => c) a ts
abbrev wT (a : UInt8) (s : List UInt8) := walkG triG (fun t _ => t) a s
theorem wB_cons {a t c : UInt8} (ts : List UInt8) (h : behG a t = .ok c) : wB a (t :: ts) = (c :: (wB c ts).1, (wB c ts).2) := by simp [wB, walkG, h]
theorem wT_cons {a t c : UInt8} (ts : List UInt8) (h : triG a t = .ok c) : wT a (t :: ts) = (c :: (wT t ts).1, (wT t ts).2) := by simp [wT, walkG, h]
theorem wB_bad {a t : UInt8} {n : Int} (ts : List UInt8) (h : behG a t = .error n) : wB a (t :: ts) = ([], some n) := by simp [wB, walkG, h]
theorem wT_bad {a t : UInt8} {n : Int} (ts : List UInt8) (h : triG a t = .error n) : wT a (t :: ts) = ([], some n) := by simp [wT, walkG, h]
theorem gat_ok {a : UInt8} (ha : IsLet a) (r : List UInt8) : gatG a (r, none) = .ok r := by unfold gatG; rw [if_neg (let_code ha)]
theorem gat_no {a : UInt8} (ha : IsLet a) (r : List UInt8) (n : Int) : gatG a (r, some n) = .error n := by unfold gatG; rw [if_neg (let_code ha)]
theorem gat_bad {a : UInt8} (ha : codeOf a.toNat = -1) (r : List UInt8 × Option Int) : gatG a r = .error 10 := by unfold gatG; rw [if_pos ha]

/-- Of trits: letters, no two alike, and back. -/
theorem walk_turn (ts : List UInt8) : ∀ a, IsLet a → (∀ t ∈ ts, IsTri t) → ∃ s, wB a ts = (s, none) ∧ s.length = ts.length ∧ (∀ c ∈ s, IsLet c) ∧ (∀ i (h : i < s.length), s[i] ≠ (a :: s)[i]'(by simp; omega)) ∧ wT a s = (ts, none) := by
  induction ts with
  | nil => intro a _ _; exact ⟨[], rfl, rfl, by simp, by simp, rfl⟩
  | cons t ts ih =>
    intro a ha ht
    obtain ⟨c, h1, h2, h3, h4⟩ := beh_fact ha (ht t (by simp))
    obtain ⟨s, e1, e2, e3, e4, e5⟩ := ih c h2 (fun x hx => ht x (by simp [hx]))
    refine ⟨c :: s, by rw [wB_cons ts h1, e1], by simp [e2], by simpa using ⟨h2, e3⟩, fun i hi => ?_, by rw [wT_cons s h4, e5]⟩
    cases i with
    | zero => exact h3
    | succ i => exact e4 i (by simpa using hi)
theorem walk_turn_set (ts : List UInt8) : ∀ a (k : Nat) (b : UInt8), IsLet a → (∀ t ∈ ts, IsTri t) → k < ts.length → 3 ≤ b.toNat → (wB a (ts.set k b)).2 = some 2 := by
  induction ts with
  | nil => intro a k b _ _ hk; simp at hk
  | cons t ts ih =>
    intro a k b ha ht hk hb
    cases k with
    | zero => rw [List.set_cons_zero, wB_bad ts (beh_bad ha hb)]
    | succ k =>
      obtain ⟨c, h1, h2, h3, h4⟩ := beh_fact ha (ht t (by simp))
      rw [List.set_cons_succ, wB_cons _ h1]
      exact ih c k b h2 (fun x hx => ht x (by simp [hx])) (by simpa using hk) hb
/-- Whether two side by side are alike. -/
def alikeG : UInt8 → List UInt8 → Bool
  | _, [] => false
  | a, c :: s => (c == a) || alikeG c s
theorem alikeG_snoc (s : List UInt8) : ∀ a c, alikeG a (s ++ [c]) = (alikeG a s || (c == s.getLastD a)) := by
  induction s with
  | nil => intro a c; simp [alikeG]
  | cons x s ih =>
    intro a c
    rw [List.cons_append, alikeG, ih, alikeG, Bool.or_assoc]
    cases s <;> rfl
theorem walk_back (s : List UInt8) : ∀ a, IsLet a → (∀ c ∈ s, IsLet c) → alikeG a s = false → ∃ ts, wT a s = (ts, none) ∧ ts.length = s.length ∧ wB a ts = (s, none) := by
  induction s with
  | nil => intro a _ _ _; exact ⟨[], rfl, rfl, rfl⟩
  | cons c s ih =>
    intro a ha hc hal
    rw [alikeG, Bool.or_eq_false_iff] at hal
    have hcl : IsLet c := hc c (by simp)
    obtain ⟨t, h1, h2, h3⟩ := tri_fact ha hcl (by simpa using hal.1)
    obtain ⟨ts, e1, e2, e3⟩ := ih c hcl (fun x hx => hc x (by simp [hx])) hal.2
    exact ⟨t :: ts, by rw [wT_cons s h1, e1], by simp [e2], by rw [wB_cons ts h3, e3]⟩
theorem walk_alike (s : List UInt8) : ∀ a, IsLet a → (∀ c ∈ s, IsLet c) → alikeG a s = true → (wT a s).2 = some 90 := by
  induction s with
  | nil => intro a _ _ h; simp [alikeG] at h
  | cons c s ih =>
    intro a ha hc hal
    have hcl : IsLet c := hc c (by simp)
    by_cases he : c = a
    · subst he
      rw [wT_bad s (tri_same ha)]
    · obtain ⟨t, h1, h2, h3⟩ := tri_fact ha hcl he
      rw [wT_cons s h1]
      refine ih c hcl (fun x hx => hc x (by simp [hx])) ?_
      rw [alikeG] at hal
      simpa [he] using hal
theorem walk_back_set (s : List UInt8) : ∀ a (k : Nat) (b : UInt8), IsLet a → (∀ c ∈ s, IsLet c) → alikeG a s = false → k < s.length → codeOf b.toNat = -1 → (wT a (s.set k b)).2 = some 10 := by
  induction s with
  | nil => intro a k b _ _ _ hk; simp at hk
  | cons c s ih =>
    intro a k b ha hc hal hk hb
    cases k with
    | zero => rw [List.set_cons_zero, wT_bad s (tri_bad ha hb)]
    | succ k =>
      rw [alikeG, Bool.or_eq_false_iff] at hal
      have hcl : IsLet c := hc c (by simp)
      obtain ⟨t, h1, h2, h3⟩ := tri_fact ha hcl (by simpa using hal.1)
      rw [List.set_cons_succ, wT_cons _ h1]
      exact ih c k b hcl (fun x hx => hc x (by simp [hx])) hal.2 (by simpa using hk) hb
theorem alike_of (s : List UInt8) : ∀ a, (∀ i (h : i < s.length), s[i] ≠ (a :: s)[i]'(by simp; omega)) → alikeG a s = false := by
  induction s with
  | nil => intro a _; rfl
  | cons c s ih =>
    intro a h
    have h0 := h 0 (by simp)
    rw [alikeG, ih c (fun i hi => h (i + 1) (by simpa using hi))]
    simpa using h0
theorem walk_parts (x : List UInt8) : ∀ a y s u, wB a x = (s, none) → wB (s.getLastD a) y = (u, none) → wB a (x ++ y) = (s ++ u, none) := by
  induction x with
  | nil =>
    intro a y s u h1 h2
    have : s = [] := by cases h1; rfl
    subst this
    exact h2
  | cons t ts ih =>
    intro a y s u h1 h2
    cases hb : behG a t with
    | error n => rw [wB_bad ts hb] at h1; cases h1
    | ok c =>
      rw [wB_cons ts hb] at h1
      obtain ⟨s', hs'⟩ : ∃ s', wB c ts = (s', none) := ⟨(wB c ts).1, by
        have := congrArg Prod.snd h1
        exact Prod.ext rfl this⟩
      rw [hs'] at h1
      have hs : c :: s' = s := congrArg Prod.fst h1
      subst hs
      have hl : (c :: s').getLastD a = s'.getLastD c := by cases s' <;> rfl
      rw [hl] at h2
      rw [List.cons_append, wB_cons _ hb, ih c y s' u hs' h2]
      rfl
end Go.Proofs.YtniiblamoimcjaaDoor
