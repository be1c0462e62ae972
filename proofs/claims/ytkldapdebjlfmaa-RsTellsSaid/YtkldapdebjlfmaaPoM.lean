/- Bytes as a field, and polynomials over it: plain mathematics. Of no program. -/
import Derived.Test.YtkldapdebjlfmaaGfM
namespace Go.Proofs.Ytkldapdebjlfmaa
open Go.RowKit

/-- The product of two bytes. -/
def ma (a b : UInt8) : UInt8 := UInt8.ofNat (mulN a.toNat b.toNat)
theorem ma_toNat (a b : UInt8) : (ma a b).toNat = mulN a.toNat b.toNat := by
  have := mulN_lt a.toNat b.toNat a.toNat_lt
  simp [ma]; omega
theorem xor_toNat (a b : UInt8) : (a ^^^ b).toNat = a.toNat ^^^ b.toNat := UInt8.toNat_xor a b
theorem mulN_zero_left (b : Nat) : mulN 0 b = 0 := by
  have h : ∀ k, prodk 0 b k = 0 := by
    intro k
    have hd : ∀ k, dblk 0 k = 0 := by
      intro k
      induction k with
      | zero => rfl
      | succ k ih => rw [dblk, ih]; rfl
    induction k with
    | zero => rfl
    | succ k ih => simp [prodk, ih, hd]
  exact h 8
theorem mulN_zero_right (a : Nat) : mulN a 0 = 0 := by
  have h : ∀ k, prodk a 0 k = 0 := by
    intro k
    induction k with
    | zero => rfl
    | succ k ih => simp [prodk, ih]
  exact h 8
theorem mulN_comm (a b : Nat) (ha : a < 256) (hb : b < 256) : mulN a b = mulN b a := by
  by_cases h0 : a = 0
  · subst h0; rw [mulN_zero_left, mulN_zero_right]
  by_cases h1 : b = 0
  · subst h1; rw [mulN_zero_left, mulN_zero_right]
  obtain ⟨i, _, rfl⟩ := pw_all a ha h0
  obtain ⟨j, _, rfl⟩ := pw_all b hb h1
  rw [pw_mul, pw_mul, Nat.add_comm]
theorem mulN_assoc (a b c : Nat) (ha : a < 256) (hb : b < 256) (hc : c < 256) : mulN (mulN a b) c = mulN a (mulN b c) := by
  by_cases h0 : a = 0
  · subst h0; rw [mulN_zero_left, mulN_zero_left, mulN_zero_left]
  by_cases h1 : b = 0
  · subst h1; rw [mulN_zero_right, mulN_zero_left, mulN_zero_right]
  by_cases h2 : c = 0
  · subst h2; rw [mulN_zero_right, mulN_zero_right, mulN_zero_right]
  obtain ⟨i, _, rfl⟩ := pw_all a ha h0
  obtain ⟨j, _, rfl⟩ := pw_all b hb h1
  obtain ⟨k, _, rfl⟩ := pw_all c hc h2
  rw [pw_mul, pw_mul, pw_mul, pw_mul, Nat.add_assoc]
theorem mulN_pos (a b : Nat) (ha : a < 256) (hb : b < 256) (h0 : a ≠ 0) (h1 : b ≠ 0) : mulN a b ≠ 0 := by
  obtain ⟨i, _, rfl⟩ := pw_all a ha h0
  obtain ⟨j, _, rfl⟩ := pw_all b hb h1
  rw [pw_mul]
  exact pw_pos _

theorem b_ext {a b : UInt8} (h : a.toNat = b.toNat) : a = b := UInt8.toNat_inj.1 h
theorem ma_comm (a b : UInt8) : ma a b = ma b a := b_ext (by rw [ma_toNat, ma_toNat, mulN_comm _ _ a.toNat_lt b.toNat_lt])
theorem ma_assoc (a b c : UInt8) : ma (ma a b) c = ma a (ma b c) := b_ext (by simp only [ma_toNat]; exact mulN_assoc _ _ _ a.toNat_lt b.toNat_lt c.toNat_lt)
theorem ma_xor (a b c : UInt8) : ma a (b ^^^ c) = ma a b ^^^ ma a c := b_ext (by simp only [ma_toNat, xor_toNat]; exact prodk_xor_right _ _ _ 8)
theorem xor_ma (a b c : UInt8) : ma (a ^^^ b) c = ma a c ^^^ ma b c := by rw [ma_comm, ma_xor, ma_comm c a, ma_comm c b]
theorem ma_zero (a : UInt8) : ma a 0 = 0 := b_ext (by rw [ma_toNat]; exact mulN_zero_right _)
theorem zero_ma (a : UInt8) : ma 0 a = 0 := b_ext (by rw [ma_toNat]; exact mulN_zero_left _)
theorem ma_one (a : UInt8) : ma a 1 = a := b_ext (by rw [ma_toNat]; exact mul_one _ a.toNat_lt)
theorem one_ma (a : UInt8) : ma 1 a = a := by rw [ma_comm, ma_one]
theorem ma_ne (a b : UInt8) (ha : a ≠ 0) (hb : b ≠ 0) : ma a b ≠ 0 := by
  intro e
  have h := congrArg UInt8.toNat e
  rw [ma_toNat] at h
  exact mulN_pos _ _ a.toNat_lt b.toNat_lt (fun e => ha (b_ext e)) (fun e => hb (b_ext e)) h
theorem x_self (a : UInt8) : a ^^^ a = 0 := UInt8.xor_self
theorem x_zero (a : UInt8) : a ^^^ 0 = a := UInt8.xor_zero
theorem zero_x (a : UInt8) : 0 ^^^ a = a := UInt8.zero_xor
theorem x_comm (a b : UInt8) : a ^^^ b = b ^^^ a := UInt8.xor_comm a b
theorem x_assoc (a b c : UInt8) : a ^^^ b ^^^ c = a ^^^ (b ^^^ c) := UInt8.xor_assoc a b c
theorem x_left (a b c : UInt8) : a ^^^ (b ^^^ c) = b ^^^ (a ^^^ c) := by rw [← x_assoc, x_comm a b, x_assoc]
theorem x_cancel (a b : UInt8) : a ^^^ b ^^^ b = a := by rw [x_assoc, x_self, x_zero]
theorem x_eq_zero (a b : UInt8) : a ^^^ b = 0 ↔ a = b := by
  constructor
  · intro h
    have := congrArg (· ^^^ b) h
    simp only [x_cancel, zero_x] at this
    exact this
  · rintro rfl; exact x_self a
/-- Sums of four, in the middle exchanged. -/
theorem x_four (a b c d : UInt8) : (a ^^^ b) ^^^ (c ^^^ d) = (a ^^^ c) ^^^ (b ^^^ d) := by rw [x_assoc, x_left b c d, ← x_assoc]

/-! ### Polynomials as functions of the power -/

/-- The factor of the n-th power. -/
def C (p : List UInt8) (n : Nat) : UInt8 := (p[n]?).getD 0
theorem C_nil (n : Nat) : C [] n = 0 := by simp [C]
theorem C_zero (a : UInt8) (p : List UInt8) : C (a :: p) 0 = a := by simp [C]
theorem C_succ (a : UInt8) (p : List UInt8) (n : Nat) : C (a :: p) (n + 1) = C p n := by simp [C]
theorem C_big (p : List UInt8) (n : Nat) (h : p.length ≤ n) : C p n = 0 := by simp [C, h]
theorem C_get (p : List UInt8) (n : Nat) (h : n < p.length) : C p n = p[n] := by simp [C, h]
/-- Times X. -/
def sh (f : Nat → UInt8) (n : Nat) : UInt8 := match n with
  | 0 => 0
  | n + 1 => f n
/-- The product of a row by a polynomial. -/
def PM : List UInt8 → (Nat → UInt8) → Nat → UInt8
  | [], _ => fun _ => 0
  | a :: p, f => fun n => ma a (f n) ^^^ sh (PM p f) n
/-- The value at x. -/
def ev : List UInt8 → UInt8 → UInt8
  | [], _ => 0
  | a :: p, x => ma (ev p x) x ^^^ a

theorem sh_xor (f g : Nat → UInt8) : sh (fun n => f n ^^^ g n) = fun n => sh f n ^^^ sh g n := by
  funext n
  cases n with
  | zero => simp [sh]
  | succ n => rfl
theorem sh_ma (c : UInt8) (f : Nat → UInt8) : sh (fun n => ma c (f n)) = fun n => ma c (sh f n) := by
  funext n
  cases n with
  | zero => simp [sh, ma_zero]
  | succ n => rfl
theorem PM_xor (p : List UInt8) (f g : Nat → UInt8) : PM p (fun n => f n ^^^ g n) = fun n => PM p f n ^^^ PM p g n := by
  induction p with
  | nil => funext n; simp [PM]
  | cons a p ih =>
    funext n
    simp only [PM, ih, sh_xor, ma_xor]
    exact x_four _ _ _ _
theorem PM_ma (p : List UInt8) (c : UInt8) (f : Nat → UInt8) : PM p (fun n => ma c (f n)) = fun n => ma c (PM p f n) := by
  induction p with
  | nil => funext n; simp [PM, ma_zero]
  | cons a p ih =>
    funext n
    simp only [PM, ih, sh_ma, ma_xor]
    rw [← ma_assoc, ma_comm a c, ma_assoc]
theorem PM_sh (p : List UInt8) (f : Nat → UInt8) : PM p (sh f) = sh (PM p f) := by
  induction p with
  | nil => funext n; cases n <;> rfl
  | cons a p ih =>
    funext n
    simp only [PM, ih]
    cases n with
    | zero => simp [sh, ma_zero]
    | succ n => rfl
theorem C_cons (a : UInt8) (p : List UInt8) : C (a :: p) = fun n => (if n = 0 then a else 0) ^^^ sh (C p) n := by
  funext n
  cases n with
  | zero => simp [sh, C_zero]
  | succ n => simp [sh, C_succ]
theorem PM_one (p : List UInt8) (a : UInt8) : PM p (fun n => if n = 0 then a else 0) = fun n => ma a (C p n) := by
  induction p with
  | nil => funext n; simp [PM, C_nil, ma_zero]
  | cons b p ih =>
    funext n
    simp only [PM, ih, sh_ma]
    rw [C_cons]
    simp only [ma_xor]
    congr 1
    split
    · exact ma_comm _ _
    · rw [ma_zero, ma_zero]
/-- Products go either way about. -/
theorem PM_comm (p q : List UInt8) : PM p (C q) = PM q (C p) := by
  induction p with
  | nil =>
    have : ∀ q : List UInt8, PM q (C []) = fun _ => 0 := by
      intro q
      induction q with
      | nil => rfl
      | cons a q ih =>
        funext n
        simp only [PM, ih, C_nil, ma_zero]
        cases n <;> simp [sh]
    rw [this]; rfl
  | cons a p ih =>
    rw [C_cons, PM_xor, PM_one, PM_sh]
    funext n
    simp only [PM, ih]
theorem C_xor_of (r p q : List UInt8) (h : ∀ n, C r n = C p n ^^^ C q n) : C r = fun n => C p n ^^^ C q n := funext h
/-- What has the same factors has the same products. -/
theorem PM_congr {p q : List UInt8} (h : C p = C q) (f : Nat → UInt8) : PM p f = PM q f := by
  induction p generalizing q with
  | nil =>
    have : ∀ q : List UInt8, C [] = C q → PM q f = fun _ => 0 := by
      intro q
      induction q with
      | nil => intro _; rfl
      | cons a q ih =>
        intro h
        have h0 := congrFun h 0
        rw [C_nil, C_zero] at h0
        have h1 := ih (by funext n; have := congrFun h (n + 1); rw [C_nil, C_succ] at this; rw [C_nil]; exact this)
        funext n
        simp only [PM, h1, ← h0, zero_ma]
        cases n <;> simp [sh]
    rw [this q h]; rfl
  | cons a p ih =>
    cases q with
    | nil =>
      have h0 := congrFun h 0
      rw [C_nil, C_zero] at h0
      have h1 := ih (q := []) (by funext n; have := congrFun h (n + 1); rw [C_nil, C_succ] at this; rw [C_nil]; exact this)
      funext n
      simp only [PM, h1, h0, zero_ma]
      cases n <;> simp [sh]
    | cons b q =>
      have h0 := congrFun h 0
      rw [C_zero, C_zero] at h0
      have h1 := ih (q := q) (by funext n; have := congrFun h (n + 1); rw [C_succ, C_succ] at this; exact this)
      funext n
      simp only [PM, h1, h0]
/-- Sums of rows. -/
theorem PM_add {r p q : List UInt8} (h : ∀ n, C r n = C p n ^^^ C q n) (s : List UInt8) : PM r (C s) = fun n => PM p (C s) n ^^^ PM q (C s) n := by
  rw [PM_comm r s, C_xor_of r p q h, PM_xor, PM_comm p s, PM_comm q s]
/-- A row that has a product's factors. -/
theorem PM_assoc {m p q : List UInt8} (h : C m = PM p (C q)) (s : List UInt8) : PM m (C s) = PM p (PM q (C s)) := by
  rw [PM_comm m s, h]
  -- by the row s on the left
  have key : ∀ p : List UInt8, PM s (PM p (C q)) = PM p (PM s (C q)) := by
    intro p
    induction p with
    | nil =>
      have : ∀ s : List UInt8, PM s (fun _ => 0) = fun _ => 0 := by
        intro s
        induction s with
        | nil => rfl
        | cons a s ih => funext n; simp only [PM, ih, ma_zero]; cases n <;> simp [sh]
      simp only [PM, this]
    | cons a p ih =>
      simp only [PM]
      rw [PM_xor, PM_ma, PM_sh, ih]
  rw [key, PM_comm s q]

/-! ### Values -/

theorem ev_congr {p q : List UInt8} (h : C p = C q) (x : UInt8) : ev p x = ev q x := by
  induction p generalizing q with
  | nil =>
    have : ∀ q : List UInt8, C [] = C q → ev q x = 0 := by
      intro q
      induction q with
      | nil => intro _; rfl
      | cons a q ih =>
        intro h
        have h0 := congrFun h 0
        rw [C_nil, C_zero] at h0
        rw [ev, ih (by funext n; have := congrFun h (n + 1); rw [C_nil, C_succ] at this; rw [C_nil]; exact this), ← h0, zero_ma, x_zero]
    rw [this q h]; rfl
  | cons a p ih =>
    cases q with
    | nil =>
      have h0 := congrFun h 0
      rw [C_nil, C_zero] at h0
      show ma (ev p x) x ^^^ a = 0
      rw [ih (q := []) (by funext n; have := congrFun h (n + 1); rw [C_nil, C_succ] at this; rw [C_nil]; exact this), h0]
      simp [ev, zero_ma]
    | cons b q =>
      have h0 := congrFun h 0
      rw [C_zero, C_zero] at h0
      show ma (ev p x) x ^^^ a = ma (ev q x) x ^^^ b
      rw [ih (q := q) (by funext n; have := congrFun h (n + 1); rw [C_succ, C_succ] at this; exact this), h0]
/-- The sum of two rows. -/
def addR : List UInt8 → List UInt8 → List UInt8
  | [], q => q
  | p, [] => p
  | a :: p, b :: q => (a ^^^ b) :: addR p q
theorem C_addR (p q : List UInt8) (n : Nat) : C (addR p q) n = C p n ^^^ C q n := by
  induction p generalizing q n with
  | nil => simp [addR, C_nil]
  | cons a p ih =>
    cases q with
    | nil => simp [addR, C_nil]
    | cons b q =>
      cases n with
      | zero => simp [addR, C_zero]
      | succ n => simp only [addR, C_succ]; exact ih q n
theorem ev_addR (p q : List UInt8) (x : UInt8) : ev (addR p q) x = ev p x ^^^ ev q x := by
  induction p generalizing q with
  | nil => simp [addR, ev]
  | cons a p ih =>
    cases q with
    | nil => simp [addR, ev]
    | cons b q => simp only [addR, ev, ih, xor_ma]; exact x_four _ _ _ _
theorem ev_map (p : List UInt8) (c x : UInt8) : ev (p.map (ma c)) x = ma c (ev p x) := by
  induction p with
  | nil => simp [ev, ma_zero]
  | cons a p ih => simp only [List.map_cons, ev, ih, ma_xor, ma_assoc]
theorem C_map (p : List UInt8) (c : UInt8) (n : Nat) : C (p.map (ma c)) n = ma c (C p n) := by
  simp only [C, List.getElem?_map]
  cases p[n]? with
  | none => simp [ma_zero]
  | some b => rfl
/-- The product, as a row. -/
def mulR : List UInt8 → List UInt8 → List UInt8
  | [], _ => []
  | a :: p, q => addR (q.map (ma a)) (0 :: mulR p q)
theorem C_mulR (p q : List UInt8) : C (mulR p q) = PM p (C q) := by
  induction p with
  | nil => funext n; simp [mulR, C_nil, PM]
  | cons a p ih =>
    funext n
    simp only [mulR, C_addR, C_map, PM, ← ih]
    congr 1
    cases n with
    | zero => simp [C_zero, sh]
    | succ n => simp [C_succ, sh]
theorem ev_mulR (p q : List UInt8) (x : UInt8) : ev (mulR p q) x = ma (ev p x) (ev q x) := by
  induction p with
  | nil => simp [mulR, ev, zero_ma]
  | cons a p ih =>
    simp only [mulR, ev_addR, ev_map, ev, ih, x_zero, xor_ma]
    rw [x_comm]
    congr 1
    rw [ma_assoc, ma_assoc, ma_comm x]
/-- The product is no longer than both. -/
theorem PM_big (p q : List UInt8) (n : Nat) (h : p.length + q.length ≤ n + 1) (h0 : 0 < p.length) : PM p (C q) n = 0 := by
  induction p generalizing n with
  | nil => rfl
  | cons a p ih =>
    simp only [PM, C_big q n (by simp at h; omega), ma_zero, zero_x]
    cases n with
    | zero => rfl
    | succ n =>
      simp only [sh]
      cases p with
      | nil => rfl
      | cons b p => exact ih n (by simp at h ⊢; omega) (by simp)
theorem PM_big' (p q : List UInt8) (n : Nat) (h : p.length + q.length ≤ n) : PM p (C q) n = 0 := by
  cases p with
  | nil => rfl
  | cons a p => exact PM_big (a :: p) q n (by omega) (by simp)

/-! ### Rows without noughts at the end -/

/-- How many factors there are, trimmed. -/
def tl (f : Nat → UInt8) : Nat → Nat
  | 0 => 0
  | n + 1 => if f n = 0 then tl f n else n + 1
/-- The first n factors of f, trimmed. -/
def tr (f : Nat → UInt8) (n : Nat) : List UInt8 := (List.range (tl f n)).map f
theorem tl_le (f : Nat → UInt8) (n : Nat) : tl f n ≤ n := by
  induction n with
  | zero => exact Nat.le_refl _
  | succ n ih =>
    simp only [tl]
    split <;> omega
theorem tl_zero (f : Nat → UInt8) (n k : Nat) (h : tl f n ≤ k) (hk : k < n) : f k = 0 := by
  induction n with
  | zero => omega
  | succ n ih =>
    simp only [tl] at h
    split at h
    · rcases Nat.lt_or_ge k n with h1 | h1
      · exact ih h h1
      · obtain rfl : k = n := by omega
        assumption
    · omega
theorem tl_last (f : Nat → UInt8) (n : Nat) (h : 0 < tl f n) : f (tl f n - 1) ≠ 0 := by
  induction n with
  | zero => simp [tl] at h
  | succ n ih =>
    simp only [tl] at h ⊢
    split
    · rename_i h0
      rw [if_pos h0] at h
      exact ih h
    · rename_i h0
      exact h0
theorem tr_length (f : Nat → UInt8) (n : Nat) : (tr f n).length = tl f n := by simp [tr]
theorem C_tr (f : Nat → UInt8) (n : Nat) (h : ∀ k, n ≤ k → f k = 0) : C (tr f n) = f := by
  funext k
  rcases Nat.lt_or_ge k (tl f n) with h1 | h1
  · rw [C_get _ _ (by rw [tr_length]; exact h1)]
    simp [tr]
  · rw [C_big _ _ (by rw [tr_length]; exact h1)]
    rcases Nat.lt_or_ge k n with h2 | h2
    · exact (tl_zero f n k h1 h2).symm
    · exact (h k h2).symm
/-- How long a trimmed row is hangs on its factors alone. -/
theorem tl_ext (f : Nat → UInt8) (n m : Nat) (hn : ∀ k, n ≤ k → f k = 0) (hm : ∀ k, m ≤ k → f k = 0) : tl f n = tl f m := by
  have key : ∀ d n, (∀ k, n ≤ k → f k = 0) → tl f (n + d) = tl f n := by
    intro d
    induction d with
    | zero => intro n _; rfl
    | succ d ih =>
      intro n h
      rw [← Nat.add_assoc, tl, if_pos (h (n + d) (by omega)), ih n h]
  rcases Nat.le_total n m with h | h
  · obtain ⟨d, rfl⟩ := Nat.le.dest h
    exact (key d n hn).symm
  · obtain ⟨d, rfl⟩ := Nat.le.dest h
    exact key d m hm
theorem tr_ext {f g : Nat → UInt8} (n m : Nat) (h : f = g) (hn : ∀ k, n ≤ k → f k = 0) (hm : ∀ k, m ≤ k → g k = 0) : tr f n = tr g m := by
  subst h
  rw [tr, tr, tl_ext f n m hn hm]
theorem tl_pos (f : Nat → UInt8) (n k : Nat) (hk : k < n) (h : f k ≠ 0) : k < tl f n := by
  rcases Nat.lt_or_ge k (tl f n) with h1 | h1
  · exact h1
  · exact absurd (tl_zero f n k h1 hk) h
theorem tl_below (f : Nat → UInt8) (n k : Nat) (h : ∀ j, k ≤ j → j < n → f j = 0) : tl f n ≤ k := by
  rcases Nat.lt_or_ge k (tl f n) with h1 | h1
  · exact absurd (h (tl f n - 1) (by omega) (by have := tl_le f n; omega)) (tl_last f n (by omega))
  · exact h1
end Go.Proofs.Ytkldapdebjlfmaa
