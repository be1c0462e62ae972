/- Mathematics: a way of two goes over a word that is one edit from the first. Of no program. -/
import Derived.Test.YtnlndaknljbhcaaDoorLvAZ
namespace Go.Proofs.YtnlndaknljbhcaaDoor

/-- One edit, with letters that L admits. -/
inductive Step (L : UInt8 → Prop) : List UInt8 → List UInt8 → Prop
  | keep {a c} (x : UInt8) (h : Step L a c) : Step L (x :: a) (x :: c)
  | swap {a} (x y : UInt8) (h : L y) : Step L (x :: a) (y :: a)
  | gap {a} (x : UInt8) : Step L (x :: a) a
  | more {a} (y : UInt8) (h : L y) : Step L a (y :: a)
theorem way_step {L : UInt8 → Prop} {m : Nat} {a b : List UInt8} (h : Way m a b) : ∀ n, m = n + 1 → (∀ y ∈ b, L y) → ∃ c, Step L a c ∧ Way n c b := by
  induction h with
  | nil => intro n h; omega
  | keep x _ ih =>
    intro n hn hL
    obtain ⟨c, h1, h2⟩ := ih n hn fun y hy => hL y (List.mem_cons_of_mem _ hy)
    exact ⟨x :: c, .keep x h1, .keep x h2⟩
  | @swap m a b x y h _ =>
    intro n hn hL
    obtain rfl : m = n := by omega
    exact ⟨y :: a, .swap x y (hL y (List.mem_cons_self ..)), .keep y h⟩
  | @gap m a b x h _ =>
    intro n hn hL
    obtain rfl : m = n := by omega
    exact ⟨a, .gap x, h⟩
  | @more m a b y h _ =>
    intro n hn hL
    obtain rfl : m = n := by omega
    exact ⟨y :: a, .more y (hL y (List.mem_cons_self ..)), .keep y h⟩
theorem step_is {L : UInt8 → Prop} {a c : List UInt8} (h : Step L a c) :
    (∃ p, p < a.length ∧ c = a.take p ++ a.drop (p + 1)) ∨ (∃ p y, L y ∧ p ≤ a.length ∧ c = a.take p ++ y :: a.drop p) ∨ (∃ p y, L y ∧ p < a.length ∧ c = a.take p ++ y :: a.drop (p + 1)) := by
  induction h with
  | keep x _ ih =>
    rcases ih with ⟨p, h1, rfl⟩ | ⟨p, y, h0, h1, rfl⟩ | ⟨p, y, h0, h1, rfl⟩
    · exact .inl ⟨p + 1, by rw [List.length_cons]; omega, rfl⟩
    · exact .inr (.inl ⟨p + 1, y, h0, by rw [List.length_cons]; omega, rfl⟩)
    · exact .inr (.inr ⟨p + 1, y, h0, by rw [List.length_cons]; omega, rfl⟩)
  | swap x y h => exact .inr (.inr ⟨0, y, h, by rw [List.length_cons]; omega, rfl⟩)
  | gap x => exact .inl ⟨0, by rw [List.length_cons]; omega, rfl⟩
  | more y h => exact .inr (.inl ⟨0, y, h, Nat.zero_le _, rfl⟩)
end Go.Proofs.YtnlndaknljbhcaaDoor
