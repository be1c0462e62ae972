import Derived.Test.YtcngnjkpnmpcpaaDoorLZ
namespace Go.Proofs.YtcngnjkpnmpcpaaDoor
def nextR (c : Nat → Bool) (prev : Nat → Nat) (i : Nat) : Nat → Nat
  | 0 => i + 1
  | j + 1 => min (min (prev (j + 1) + 1) (nextR c prev i j + 1)) (prev j + if c j then 0 else 1)
def lev (e : Nat → Nat → Bool) : Nat → Nat → Nat
  | 0 => fun j => j
  | i + 1 => nextR (e i) (lev e i) i
section
variable (e : Nat → Nat → Bool)
theorem lev_zero (j : Nat) : lev e 0 j = j := rfl
theorem lev_left (i : Nat) : lev e i 0 = i := by cases i <;> rfl
theorem lev_step (i j : Nat) : lev e (i + 1) (j + 1) = min (min (lev e i (j + 1) + 1) (lev e (i + 1) j + 1)) (lev e i j + if e i j then 0 else 1) := rfl
theorem lev_up (i j : Nat) : lev e (i + 1) j ≤ lev e i j + 1 := by
 cases j with
 | zero => rw [lev_left, lev_left]; omega
 | succ j => rw [lev_step]; omega
theorem lev_on (i j : Nat) : lev e i (j + 1) ≤ lev e i j + 1 := by
 cases i with
 | zero => rw [lev_zero, lev_zero]; omega
 | succ i => rw [lev_step]; omega
theorem lev_down (i : Nat) : ∀ j, lev e i j ≤ lev e (i + 1) j + 1
  | 0 => by rw [lev_left, lev_left]; omega
  | j + 1 => by
    have h := lev_down i j
    have h2 := lev_on e i j
    rw [lev_step]
    omega
theorem lev_back (j : Nat) : ∀ i, lev e i j ≤ lev e i (j + 1) + 1
  | 0 => by rw [lev_zero, lev_zero]; omega
  | i + 1 => by
    have h := lev_back j i
    have h2 := lev_up e i j
    rw [lev_step]
    omega
theorem lev_diag (i j : Nat) : lev e i j ≤ lev e (i + 1) (j + 1) := by
 have h1 := lev_down e i j
 have h2 := lev_back e j i
 rw [lev_step]
 omega
theorem lev_diag_le (i j t : Nat) : lev e i j ≤ lev e (i + t) (j + t) := by
 induction t with
 | zero => exact Nat.le_refl _
 | succ t ih => exact Nat.le_trans ih (lev_diag e _ _)
theorem lev_keep (i j : Nat) (h : e i j = true) : lev e (i + 1) (j + 1) = lev e i j := by
 have h1 := lev_diag e i j
 rw [lev_step, if_pos h] at *
 omega
theorem lev_swap (i j : Nat) : lev e (i + 1) (j + 1) ≤ lev e i j + 1 := by
 rw [lev_step]; split <;> omega
theorem lev_apart : ∀ i j, i ≤ lev e i j + j ∧ j ≤ lev e i j + i
  | 0, j => by rw [lev_zero]; omega
  | i + 1, 0 => by rw [lev_left]; omega
  | i + 1, j + 1 => by
    have h1 := lev_apart i (j + 1)
    have h2 := lev_apart (i + 1) j
    have h3 := lev_apart i j
    rw [lev_step]
    split <;> omega
theorem lev_most : ∀ i j, lev e i j ≤ max i j
  | 0, j => by rw [lev_zero]; omega
  | i + 1, 0 => by rw [lev_left]; omega
  | i + 1, j + 1 => by
    have h3 := lev_most i j
    have := lev_swap e i j
    omega
end
theorem lev_congr {e f : Nat → Nat → Bool} : ∀ i j, (∀ p q, p < i → q < j → e p q = f p q) → lev e i j = lev f i j
  | 0, j, _ => rfl
  | i + 1, 0, _ => rfl
  | i + 1, j + 1, h => by
    rw [lev_step, lev_step, lev_congr i (j + 1) (fun p q hp hq => h p q (by omega) hq), lev_congr (i + 1) j (fun p q hp hq => h p q hp (by omega)), lev_congr i j (fun p q hp hq => h p q (by omega) (by omega)), h i j (by omega) (by omega)]
def sameAt (a b : List UInt8) (i j : Nat) : Bool := decide (a[i]? = b[j]?)
def dist (a b : List UInt8) : Nat := lev (sameAt a b) a.length b.length
theorem sameAt_take (a b : List UInt8) (m : Nat) : ∀ p q, q < m → sameAt a b p q = sameAt a (b.take m) p q := by
 intro p q hq
 unfold sameAt
 rw [List.getElem?_take_of_lt hq]
theorem dist_take (a b : List UInt8) (m : Nat) (h : m ≤ b.length) : dist a (b.take m) = lev (sameAt a b) a.length m := by
 unfold dist
 rw [List.length_take, Nat.min_eq_left h]
 exact lev_congr _ _ fun p q _ hq => (sameAt_take a b m p q hq).symm
inductive Way : Nat → List UInt8 → List UInt8 → Prop
  | nil : Way 0 [] []
  | keep {n a b} (x : UInt8) (h : Way n a b) : Way n (x :: a) (x :: b)
  | swap {n a b} (x y : UInt8) (h : Way n a b) : Way (n + 1) (x :: a) (y :: b)
  | gap {n a b} (x : UInt8) (h : Way n a b) : Way (n + 1) (x :: a) b
  | more {n a b} (y : UInt8) (h : Way n a b) : Way (n + 1) a (y :: b)
namespace Way
theorem refl : ∀ a, Way 0 a a
  | [] => .nil
  | x :: a => .keep x (refl a)
theorem symm {n a b} (h : Way n a b) : Way n b a := by
 induction h with
 | nil => exact .nil
 | keep x _ ih => exact .keep x ih
 | swap x y _ ih => exact .swap y x ih
 | gap x _ ih => exact .more x ih
 | more y _ ih => exact .gap y ih
theorem append {n a b m c d} (h : Way n a b) (k : Way m c d) : Way (n + m) (a ++ c) (b ++ d) := by
 induction h with
 | nil => simpa using k
 | keep x _ ih => exact .keep x ih
 | swap x y _ ih => rw [Nat.add_right_comm]; exact .swap x y ih
 | gap x _ ih => rw [Nat.add_right_comm]; exact .gap x ih
 | more y _ ih => rw [Nat.add_right_comm]; exact .more y ih
theorem zero {n a b} (h : Way n a b) : n = 0 → a = b := by
 induction h with
 | nil => exact fun _ => rfl
 | keep x _ ih => exact fun e => by rw [ih e]
 | swap x y _ ih => exact fun e => by omega
 | gap x _ ih => exact fun e => by omega
 | more y _ ih => exact fun e => by omega
theorem trans {n a b} (h : Way n a b) : ∀ {m c}, Way m b c → ∃ p, p ≤ n + m ∧ Way p a c := by
 induction h with
 | nil => exact fun {m c} k => ⟨m, by omega, k⟩
 | @gap n a b x h ih =>
   intro m c k
   obtain ⟨p, h1, h2⟩ := ih k
   exact ⟨p + 1, by omega, .gap x h2⟩
 | @keep n a b x h ih =>
   intro m c k
   generalize hb : x :: b = b' at k
   induction k with
   | nil => cases hb
   | keep y k _ =>
     injection hb with e1 e2
     subst e1 e2
     obtain ⟨p, h1, h2⟩ := ih k
     exact ⟨p, by omega, .keep _ h2⟩
   | swap y z k _ =>
     injection hb with e1 e2
     subst e1 e2
     obtain ⟨p, h1, h2⟩ := ih k
     exact ⟨p + 1, by omega, .swap _ z h2⟩
   | gap y k _ =>
     injection hb with e1 e2
     subst e1 e2
     obtain ⟨p, h1, h2⟩ := ih k
     exact ⟨p + 1, by omega, .gap _ h2⟩
   | more z k ih2 =>
     obtain ⟨p, h1, h2⟩ := ih2 hb
     exact ⟨p + 1, by omega, .more z h2⟩
 | @swap n a b x y h ih =>
   intro m c k
   generalize hb : y :: b = b' at k
   induction k with
   | nil => cases hb
   | keep z k _ =>
     injection hb with e1 e2
     subst e1 e2
     obtain ⟨p, h1, h2⟩ := ih k
     exact ⟨p + 1, by omega, .swap _ _ h2⟩
   | swap z u k _ =>
     injection hb with e1 e2
     subst e1 e2
     obtain ⟨p, h1, h2⟩ := ih k
     exact ⟨p + 1, by omega, .swap _ u h2⟩
   | gap z k _ =>
     injection hb with e1 e2
     subst e1 e2
     obtain ⟨p, h1, h2⟩ := ih k
     exact ⟨p + 1, by omega, .gap _ h2⟩
   | more z k ih2 =>
     obtain ⟨p, h1, h2⟩ := ih2 hb
     exact ⟨p + 1, by omega, .more z h2⟩
 | @more n a b y h ih =>
   intro m c k
   generalize hb : y :: b = b' at k
   induction k with
   | nil => cases hb
   | keep z k _ =>
     injection hb with e1 e2
     subst e1 e2
     obtain ⟨p, h1, h2⟩ := ih k
     exact ⟨p + 1, by omega, .more _ h2⟩
   | swap z u k _ =>
     injection hb with e1 e2
     subst e1 e2
     obtain ⟨p, h1, h2⟩ := ih k
     exact ⟨p + 1, by omega, .more u h2⟩
   | gap z k _ =>
     injection hb with e1 e2
     subst e1 e2
     obtain ⟨p, h1, h2⟩ := ih k
     exact ⟨p, by omega, h2⟩
   | more z k ih2 =>
     obtain ⟨p, h1, h2⟩ := ih2 hb
     exact ⟨p + 1, by omega, .more z h2⟩
end Way
theorem lev_way (e : Nat → Nat → Bool) {n : Nat} {x y : List UInt8} (h : Way n x y) : ∀ i j, (∀ p q, p < x.length → q < y.length → x[p]? = y[q]? → e (i + p) (j + q) = true) → lev e (i + x.length) (j + y.length) ≤ lev e i j + n := by
 induction h with
 | nil => intro i j _; simp
 | @keep n a b x _ ih =>
   intro i j hs
   have h0 := hs 0 0 (by simp) (by simp) (by simp)
   have h1 := ih (i + 1) (j + 1) fun p q hp hq he => by
    have := hs (p + 1) (q + 1) (by simpa using hp) (by simpa using hq) (by simpa using he)
    rwa [show i + (p + 1) = i + 1 + p by omega, show j + (q + 1) = j + 1 + q by omega] at this
   rw [lev_keep e i j h0] at h1
   simp only [List.length_cons]
   rw [show i + (a.length + 1) = i + 1 + a.length by omega, show j + (b.length + 1) = j + 1 + b.length by omega]
   exact h1
 | @swap n a b x y _ ih =>
   intro i j hs
   have h1 := ih (i + 1) (j + 1) fun p q hp hq he => by
    have := hs (p + 1) (q + 1) (by simpa using hp) (by simpa using hq) (by simpa using he)
    rwa [show i + (p + 1) = i + 1 + p by omega, show j + (q + 1) = j + 1 + q by omega] at this
   have h2 := lev_swap e i j
   simp only [List.length_cons]
   rw [show i + (a.length + 1) = i + 1 + a.length by omega, show j + (b.length + 1) = j + 1 + b.length by omega]
   omega
 | @gap n a b x _ ih =>
   intro i j hs
   have h1 := ih (i + 1) j fun p q hp hq he => by
    have := hs (p + 1) q (by simpa using hp) hq (by simpa using he)
    rwa [show i + (p + 1) = i + 1 + p by omega] at this
   have h2 := lev_up e i j
   simp only [List.length_cons]
   rw [show i + (a.length + 1) = i + 1 + a.length by omega]
   omega
 | @more n a b y _ ih =>
   intro i j hs
   have h1 := ih i (j + 1) fun p q hp hq he => by
    have := hs p (q + 1) hp (by simpa using hq) (by simpa using he)
    rwa [show j + (q + 1) = j + 1 + q by omega] at this
   have h2 := lev_on e i j
   simp only [List.length_cons]
   rw [show j + (b.length + 1) = j + 1 + b.length by omega]
   omega
theorem dist_way {n : Nat} {a b : List UInt8} (h : Way n a b) : dist a b ≤ n := by
 have := lev_way (sameAt a b) h 0 0 fun p q _ _ he => by simpa [sameAt] using he
 simpa [dist, lev_zero] using this
theorem take_succ' (a : List UInt8) (i : Nat) (h : i < a.length) : a.take (i + 1) = a.take i ++ [a[i]] := by
 rw [List.take_add_one, List.getElem?_eq_getElem h]; rfl
theorem way_lev (a b : List UInt8) : ∀ i j, i ≤ a.length → j ≤ b.length → ∃ n, n ≤ lev (sameAt a b) i j ∧ Way n (a.take i) (b.take j)
 | 0, 0, _, _ => ⟨0, by simp, by simpa using Way.nil⟩
 | 0, j + 1, h1, h2 => by
   obtain ⟨n, h3, h4⟩ := way_lev a b 0 j h1 (by omega)
   refine ⟨n + 1, by rw [lev_zero] at *; omega, ?_⟩
   rw [take_succ' b j (by omega)]
   have := h4.append (Way.more b[j] .nil)
   simpa using this
 | i + 1, 0, h1, h2 => by
   obtain ⟨n, h3, h4⟩ := way_lev a b i 0 (by omega) h2
   refine ⟨n + 1, by rw [lev_left] at *; omega, ?_⟩
   rw [take_succ' a i (by omega)]
   have := h4.append (Way.gap a[i] .nil)
   simpa using this
 | i + 1, j + 1, h1, h2 => by
   obtain ⟨n1, h3, h4⟩ := way_lev a b i (j + 1) (by omega) h2
   obtain ⟨n2, h5, h6⟩ := way_lev a b (i + 1) j h1 (by omega)
   obtain ⟨n3, h7, h8⟩ := way_lev a b i j (by omega) (by omega)
   have ea := take_succ' a i (by omega)
   have eb := take_succ' b j (by omega)
   have k1 : Way (n1 + 1) (a.take (i + 1)) (b.take (j + 1)) := by
    rw [ea]
    have := h4.append (Way.gap a[i] .nil)
    simpa using this
   have k2 : Way (n2 + 1) (a.take (i + 1)) (b.take (j + 1)) := by
    rw [eb]
    have := h6.append (Way.more b[j] .nil)
    simpa using this
   have k3 : ∃ m, m ≤ lev (sameAt a b) i j + (if sameAt a b i j then 0 else 1) ∧ Way m (a.take (i + 1)) (b.take (j + 1)) := by
    rw [ea, eb]
    by_cases hs : sameAt a b i j = true
    · have e2 : a[i] = b[j] := by
        unfold sameAt at hs
        have := of_decide_eq_true hs
        rw [List.getElem?_eq_getElem (by omega), List.getElem?_eq_getElem (by omega)] at this
        exact Option.some.inj this
      rw [if_pos hs, e2]
      exact ⟨n3 + 0, by omega, h8.append (Way.keep b[j] .nil)⟩
    · rw [if_neg hs]
      exact ⟨n3 + 1, by omega, h8.append (Way.swap a[i] b[j] .nil)⟩
   obtain ⟨n4, h9, k3⟩ := k3
   rw [lev_step]
   generalize (if sameAt a b i j then 0 else 1) = z at *
   generalize lev (sameAt a b) i j = L3 at *
   generalize lev (sameAt a b) (i + 1) j = L2 at *
   generalize lev (sameAt a b) i (j + 1) = L1 at *
   by_cases c1 : L1 + 1 ≤ L2 + 1 ∧ L1 + 1 ≤ L3 + z
   · exact ⟨n1 + 1, by omega, k1⟩
   · by_cases c2 : L2 + 1 ≤ L3 + z
     · exact ⟨n2 + 1, by omega, k2⟩
     · exact ⟨n4, by omega, k3⟩
theorem way_dist (a b : List UInt8) : ∃ n, n ≤ dist a b ∧ Way n a b := by
 obtain ⟨n, h1, h2⟩ := way_lev a b a.length b.length (Nat.le_refl _) (Nat.le_refl _)
 rw [List.take_length, List.take_length] at h2
 exact ⟨n, h1, h2⟩
theorem dist_le_iff (a b : List UInt8) (n : Nat) : dist a b ≤ n ↔ ∃ m, m ≤ n ∧ Way m a b := by
 constructor
 · intro h
   obtain ⟨m, h1, h2⟩ := way_dist a b
   exact ⟨m, by omega, h2⟩
 · rintro ⟨m, h1, h2⟩
   have := dist_way h2
   omega
theorem dist_self (a : List UInt8) : dist a a = 0 := by have := dist_way (Way.refl a); omega
theorem dist_comm_le (a b : List UInt8) : dist a b ≤ dist b a := by
 obtain ⟨n, h1, h2⟩ := way_dist b a
 have := dist_way h2.symm
 omega
theorem dist_comm (a b : List UInt8) : dist a b = dist b a := Nat.le_antisymm (dist_comm_le a b) (dist_comm_le b a)
theorem dist_tri (a b c : List UInt8) : dist a c ≤ dist a b + dist b c := by
 obtain ⟨n, h1, h2⟩ := way_dist a b
 obtain ⟨m, h3, h4⟩ := way_dist b c
 obtain ⟨p, h5, h6⟩ := h2.trans h4
 have := dist_way h6
 omega
theorem dist_apart (a b : List UInt8) : a.length ≤ dist a b + b.length ∧ b.length ≤ dist a b + a.length := lev_apart _ _ _
theorem dist_most (a b : List UInt8) : dist a b ≤ max a.length b.length := lev_most _ _ _
end Go.Proofs.YtcngnjkpnmpcpaaDoor
