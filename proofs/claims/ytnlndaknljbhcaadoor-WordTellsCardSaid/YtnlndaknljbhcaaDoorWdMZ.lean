/- Mathematics of stage 16: a way of at most two over words that end with alternating fields. Of no program. -/
import Derived.Test.YtnlndaknljbhcaaDoorLvAZ
namespace Go.Proofs.YtnlndaknljbhcaaDoor

theorem way_len {m : Nat} {a b : List UInt8} (h : Way m a b) : a.length ≤ b.length + m ∧ b.length ≤ a.length + m := by
  induction h with
  | nil => simp
  | keep x _ ih => simp only [List.length_cons]; omega
  | swap x y _ ih => simp only [List.length_cons]; omega
  | gap x _ ih => simp only [List.length_cons]; omega
  | more y _ ih => simp only [List.length_cons]; omega
theorem way_split {m : Nat} {a b : List UInt8} (h : Way m a b) : ∀ p u : List UInt8, a = p ++ u → ∃ q1 q2 m1 m2, b = q1 ++ q2 ∧ m1 + m2 = m ∧ Way m1 p q1 ∧ Way m2 u q2 := by
  induction h with
  | nil =>
    intro p u e
    obtain ⟨rfl, rfl⟩ := List.append_eq_nil_iff.1 e.symm
    exact ⟨[], [], 0, 0, rfl, rfl, .nil, .nil⟩
  | @keep n a b x h ih =>
    intro p u e
    cases p with
    | nil => exact ⟨[], x :: b, 0, n, rfl, by omega, .nil, by rw [← show x :: a = u from e]; exact .keep x h⟩
    | cons z p =>
      obtain ⟨rfl, e2⟩ := List.cons.inj e
      obtain ⟨q1, q2, m1, m2, rfl, hm, h1, h2⟩ := ih p u e2
      exact ⟨x :: q1, q2, m1, m2, rfl, hm, .keep x h1, h2⟩
  | @swap n a b x y h ih =>
    intro p u e
    cases p with
    | nil => exact ⟨[], y :: b, 0, n + 1, rfl, by omega, .nil, by rw [← show x :: a = u from e]; exact .swap x y h⟩
    | cons z p =>
      obtain ⟨rfl, e2⟩ := List.cons.inj e
      obtain ⟨q1, q2, m1, m2, rfl, hm, h1, h2⟩ := ih p u e2
      exact ⟨y :: q1, q2, m1 + 1, m2, rfl, by omega, .swap x y h1, h2⟩
  | @gap n a b x h ih =>
    intro p u e
    cases p with
    | nil => exact ⟨[], b, 0, n + 1, rfl, by omega, .nil, by rw [← show x :: a = u from e]; exact .gap x h⟩
    | cons z p =>
      obtain ⟨rfl, e2⟩ := List.cons.inj e
      obtain ⟨q1, q2, m1, m2, rfl, hm, h1, h2⟩ := ih p u e2
      exact ⟨q1, q2, m1 + 1, m2, rfl, by omega, .gap x h1, h2⟩
  | @more n a b y h ih =>
    intro p u e
    obtain ⟨q1, q2, m1, m2, rfl, hm, h1, h2⟩ := ih p u e
    exact ⟨y :: q1, q2, m1 + 1, m2, rfl, by omega, .more y h1, h2⟩
section
variable (cls : UInt8 → Bool)
/-- Letters whose class goes to and fro. -/
def Alt : Bool → List UInt8 → Prop
  | _, [] => True
  | b, x :: l => cls x = b ∧ Alt (!b) l
/-- At how many places two rows are unlike. -/
def diffN : List UInt8 → List UInt8 → Nat
  | x :: a, y :: b => (if x = y then 0 else 1) + diffN a b
  | _, _ => 0
theorem diffN_self (a : List UInt8) : diffN a a = 0 := by
  induction a with
  | nil => rfl
  | cons x a ih => show (if x = x then 0 else 1) + diffN a a = 0; rw [ih, if_pos rfl]
theorem diffN_head (x y : UInt8) (a : List UInt8) : diffN (x :: a) (y :: a) ≤ 1 := by
  show (if x = y then 0 else 1) + diffN a a ≤ 1
  rw [diffN_self]
  split <;> omega
theorem diffN_pos {a b : List UInt8} (hl : a.length = b.length) (h : a ≠ b) : 1 ≤ diffN a b := by
  induction a generalizing b with
  | nil => cases b with
    | nil => exact absurd rfl h
    | cons y b => simp at hl
  | cons x a ih =>
    cases b with
    | nil => simp at hl
    | cons y b =>
      show 1 ≤ (if x = y then 0 else 1) + diffN a b
      by_cases hx : x = y
      · subst hx
        have := ih (b := b) (by simpa using hl) (fun e => h (by rw [e]))
        omega
      · rw [if_neg hx]; omega
theorem diffN_append {a b : List UInt8} (c d : List UInt8) (hl : a.length = b.length) : diffN (a ++ c) (b ++ d) = diffN a b + diffN c d := by
  induction a generalizing b with
  | nil => cases b with
    | nil => show _ = 0 + _; simp
    | cons y b => simp at hl
  | cons x a ih =>
    cases b with
    | nil => simp at hl
    | cons y b =>
      show (if x = y then 0 else 1) + diffN (a ++ c) (b ++ d) = (if x = y then 0 else 1) + diffN a b + diffN c d
      rw [ih (by simpa using hl)]
      omega
/-- A way of one edit between rows out of step: the longer one has one letter ahead. -/
theorem off_one {m : Nat} {u v : List UInt8} (h : Way m u v) (hm : m ≤ 1) (b : Bool) (hu : Alt cls (!b) u) (hv : Alt cls b v) (hl : u.length + 1 = v.length) : ∃ y, v = y :: u := by
  cases h with
  | nil => simp at hl
  | keep x h =>
    have h1 : cls x = !b := hu.1
    have h2 : cls x = b := hv.1
    rw [h1] at h2
    cases b <;> cases h2
  | @swap n a b' x y h =>
    have := way_len h
    simp only [List.length_cons] at hl
    omega
  | @gap n a _ x h =>
    have := way_len h
    simp only [List.length_cons] at hl
    omega
  | @more n _ b' y h =>
    obtain rfl := h.zero (by omega)
    exact ⟨y, rfl⟩
/-- A way of at most two edits between rows in step, as long: they are unlike at no more places. -/
theorem in_step {m : Nat} {u v : List UInt8} (h : Way m u v) : ∀ b, m ≤ 2 → Alt cls b u → Alt cls b v → u.length = v.length → diffN u v ≤ m := by
  induction h with
  | nil => intros; exact Nat.le_refl _
  | @keep n a c x h ih =>
    intro b hm hu hv hl
    show (if x = x then 0 else 1) + diffN a c ≤ n
    rw [if_pos rfl]
    have := ih (!b) hm hu.2 hv.2 (by simpa using hl)
    omega
  | @swap n a c x y h ih =>
    intro b hm hu hv hl
    show (if x = y then 0 else 1) + diffN a c ≤ n + 1
    have := ih (!b) (by omega) hu.2 hv.2 (by simpa using hl)
    split <;> omega
  | @gap n a c x h _ =>
    intro b hm hu hv hl
    obtain ⟨y, rfl⟩ := off_one cls h (by omega) b hu.2 hv (by simpa using hl)
    have := diffN_head x y a
    omega
  | @more n a c y h _ =>
    intro b hm hu hv hl
    obtain ⟨x, rfl⟩ := off_one cls h.symm (by omega) b hv.2 hu (by simpa using hl.symm)
    have := diffN_head x y c
    omega
/-- Words with heads as long, and alternating tails in step, no more than two edits apart: the tails are unlike at two places at most. -/
theorem tails_near {m : Nat} {p u q v : List UInt8} (h : Way m (p ++ u) (q ++ v)) (hm : m ≤ 2) (b : Bool) (hu : Alt cls b u) (hv : Alt cls b v) (hp : p.length = q.length) (hl : u.length = v.length) : diffN u v ≤ 2 := by
  obtain ⟨q1, q2, m1, m2, e, hmm, h1, h2⟩ := way_split h p u rfl
  have l1 := way_len h1
  have l2 := way_len h2
  have le := congrArg List.length e
  simp only [List.length_append] at le
  rcases (show q2.length = v.length ∨ q2.length = v.length + 1 ∨ q2.length + 1 = v.length by omega) with hd | hd | hd
  · obtain ⟨rfl, rfl⟩ := List.append_inj' e hd.symm
    have := in_step cls h2 b (by omega) hu hv hl
    omega
  · obtain ⟨j, rfl⟩ : ∃ j, q2 = j :: v := by
      cases q2 with
      | nil => simp at hd
      | cons j t =>
        have e2 : q ++ v = (q1 ++ [j]) ++ t := by rw [e]; simp
        have := (List.append_inj' e2 (by simpa using hd.symm)).2
        exact ⟨j, by rw [this]⟩
    cases h2 with
    | @keep n a c x h =>
      obtain ⟨y, rfl⟩ := off_one cls h (by omega) b hu.2 hv (by simpa using hl)
      have := diffN_head j y a
      omega
    | @swap n a c x y h =>
      have := way_len h
      simp only [List.length_cons] at hl
      omega
    | @gap n a c x h =>
      have := way_len h
      simp only [List.length_cons] at hl this
      omega
    | @more n a c y h =>
      obtain rfl := h.zero (by omega)
      rw [diffN_self]
      omega
  · obtain ⟨c, rfl⟩ : ∃ c, v = c :: q2 := by
      cases v with
      | nil => simp at hd
      | cons c t =>
        have e2 : (q ++ [c]) ++ t = q1 ++ q2 := by rw [← e]; simp
        have := (List.append_inj' e2 (by simpa using hd.symm)).2
        exact ⟨c, by rw [this]⟩
    cases h2 with
    | nil => simp at hl
    | @keep n a d x h =>
      have h3 : cls x = b := hu.1
      have h4 : cls x = !b := hv.2.1
      rw [h3] at h4
      cases b <;> cases h4
    | @swap n a d x y h9 =>
      have l3 := way_len h9
      have l4 : a.length + 1 = d.length + 2 := by simpa using hl
      omega
    | @gap n a _ x h =>
      obtain rfl := h.zero (by omega)
      have := diffN_head x c a
      omega
    | @more n _ d y h9 =>
      have l3 := way_len h9
      have l4 : u.length = d.length + 2 := by simpa using hl
      omega
/-- Words that end with a field three times: with unlike fields they are more than two apart. -/
theorem fields_far {p q f g : List UInt8} (b : Bool) (hu : Alt cls b (f ++ f ++ f)) (hv : Alt cls b (g ++ g ++ g)) (hp : p.length = q.length) (hl : f.length = g.length) (hne : f ≠ g) : 2 < dist (p ++ (f ++ f ++ f)) (q ++ (g ++ g ++ g)) := by
  refine Decidable.byContradiction fun h => ?_
  obtain ⟨m, hm, hw⟩ := (dist_le_iff (p ++ (f ++ f ++ f)) (q ++ (g ++ g ++ g)) 2).1 (by omega)
  have h1 := tails_near cls hw hm b hu hv hp (by simp [hl])
  have h2 := diffN_pos hl hne
  rw [diffN_append _ _ (by simp [hl]), diffN_append _ _ hl] at h1
  omega
end
end Go.Proofs.YtnlndaknljbhcaaDoor
