import Derived.Lib.SlBytesConst
import Derived.Test.YtjclfkbhakjdaaaDoorTuHZ
namespace Go.Proofs.YtjclfkbhakjdaaaDoor.Tu
open Go.RowKit Go.Shelf
attribute [local go_sem] Oper.semAt_some run_store_func
theorem beq_dec (a b : List UInt8) : (a == b) = decide (a = b) := by
 rw [Bool.eq_iff_iff]; simp
end Go.Proofs.YtjclfkbhakjdaaaDoor.Tu
namespace Go.Proofs.YtjclfkbhakjdaaaDoor.Tu
open Go.RowKit Go.Shelf
attribute [local go_sem] Oper.semAt_some run_store_func
theorem Turn_yes (a : UInt8) (tv : Value) (ts r : List UInt8) (hr : turnG a ts = .ok r) (hreach : ts.length ≤ 1000000) (w : World) (hT : Tab w) (hS : Sl eB w.heap.size w tv ts) :
    Calls Tryd.prog 35 #[eB a, tv] w fun e w' => ∃ v, e = .returned (.tuple #[v, .int .i64 0]) ∧ w'.ownsRow w.heap.size 5 1 v r.length (r.map eB) ∧ Below w.heap.size w w' :=
  (Turn_any a tv ts hreach w hT hS).mono (by
   rintro e w' ⟨hB, ⟨v, y, hy, rfl, hv⟩ | ⟨m, hm, rfl⟩⟩
   · rw [hr] at hy; cases hy; exact ⟨v, rfl, hv, hB⟩
   · rw [hr] at hm; cases hm)
end Go.Proofs.YtjclfkbhakjdaaaDoor.Tu
namespace Go.Proofs.YtjclfkbhakjdaaaDoor.Tu
open Go.RowKit Go.Shelf
def IsLet (c : UInt8) : Prop := c = 65 ∨ c = 67 ∨ c = 71 ∨ c = 84
def IsTri (t : UInt8) : Prop := t = 0 ∨ t = 1 ∨ t = 2
theorem let_code {a : UInt8} (h : IsLet a) : codeOf a.toNat ≠ -1 := by
 rcases h with rfl | rfl | rfl | rfl <;> decide
theorem no_code {b : UInt8} (h1 : b ≠ 65) (h2 : b ≠ 67) (h3 : b ≠ 71) (h4 : b ≠ 84) : codeOf b.toNat = -1 := by
 have e : ∀ k : UInt8, b ≠ k → b.toNat ≠ k.toNat := fun k h he => h (UInt8.toNat_inj.1 he)
 have e1 := e 65 h1
 have e2 := e 67 h2
 have e3 := e 71 h3
 have e4 := e 84 h4
 simp at e1 e2 e3 e4
 simp [codeOf, e1, e2, e3, e4]
theorem beh_fact {a t : UInt8} (ha : IsLet a) (ht : IsTri t) : ∃ c, behG a t = .ok c ∧ IsLet c ∧ c ≠ a ∧ triG a c = .ok t := by
 rcases ha with rfl | rfl | rfl | rfl <;> rcases ht with rfl | rfl | rfl
 · exact ⟨67, by kernel_rfl, by simp [IsLet], by decide, by kernel_rfl⟩
 · exact ⟨71, by kernel_rfl, by simp [IsLet], by decide, by kernel_rfl⟩
 · exact ⟨84, by kernel_rfl, by simp [IsLet], by decide, by kernel_rfl⟩
 · exact ⟨65, by kernel_rfl, by simp [IsLet], by decide, by kernel_rfl⟩
 · exact ⟨71, by kernel_rfl, by simp [IsLet], by decide, by kernel_rfl⟩
 · exact ⟨84, by kernel_rfl, by simp [IsLet], by decide, by kernel_rfl⟩
 · exact ⟨65, by kernel_rfl, by simp [IsLet], by decide, by kernel_rfl⟩
 · exact ⟨67, by kernel_rfl, by simp [IsLet], by decide, by kernel_rfl⟩
 · exact ⟨84, by kernel_rfl, by simp [IsLet], by decide, by kernel_rfl⟩
 · exact ⟨65, by kernel_rfl, by simp [IsLet], by decide, by kernel_rfl⟩
 · exact ⟨67, by kernel_rfl, by simp [IsLet], by decide, by kernel_rfl⟩
 · exact ⟨71, by kernel_rfl, by simp [IsLet], by decide, by kernel_rfl⟩
theorem tri_fact {a c : UInt8} (ha : IsLet a) (hc : IsLet c) (hne : c ≠ a) : ∃ t, triG a c = .ok t ∧ IsTri t ∧ behG a t = .ok c := by
 have key : ∀ t, IsTri t → behG a t = .ok c → ∃ t, triG a c = .ok t ∧ IsTri t ∧ behG a t = .ok c := fun t ht hb => by
  obtain ⟨c', h1, _, _, h4⟩ := beh_fact ha ht
  rw [hb] at h1
  cases h1
  exact ⟨t, h4, ht, hb⟩
 rcases ha with rfl | rfl | rfl | rfl <;> rcases hc with rfl | rfl | rfl | rfl
 · exact absurd rfl hne
 · exact key 0 (.inl rfl) (by kernel_rfl)
 · exact key 1 (.inr (.inl rfl)) (by kernel_rfl)
 · exact key 2 (.inr (.inr rfl)) (by kernel_rfl)
 · exact key 0 (.inl rfl) (by kernel_rfl)
 · exact absurd rfl hne
 · exact key 1 (.inr (.inl rfl)) (by kernel_rfl)
 · exact key 2 (.inr (.inr rfl)) (by kernel_rfl)
 · exact key 0 (.inl rfl) (by kernel_rfl)
 · exact key 1 (.inr (.inl rfl)) (by kernel_rfl)
 · exact absurd rfl hne
 · exact key 2 (.inr (.inr rfl)) (by kernel_rfl)
 · exact key 0 (.inl rfl) (by kernel_rfl)
 · exact key 1 (.inr (.inl rfl)) (by kernel_rfl)
 · exact key 2 (.inr (.inr rfl)) (by kernel_rfl)
 · exact absurd rfl hne
theorem tri_same {a : UInt8} (ha : IsLet a) : triG a a = .error 90 := by
 rcases ha with rfl | rfl | rfl | rfl <;> kernel_rfl
theorem tri_bad {a b : UInt8} (ha : IsLet a) (hb : codeOf b.toNat = -1) : triG a b = .error 10 := by
 unfold triG
 rw [if_neg (let_code ha), if_pos hb]
abbrev wB (a : UInt8) (ts : List UInt8) := walkG behG (fun _ c => c) a ts
abbrev wT (a : UInt8) (s : List UInt8) := walkG triG (fun t _ => t) a s
theorem wB_cons {a t c : UInt8} (ts : List UInt8) (h : behG a t = .ok c) : wB a (t :: ts) = (c :: (wB c ts).1, (wB c ts).2) := by simp [wB, walkG, h]
theorem wT_cons {a t c : UInt8} (ts : List UInt8) (h : triG a t = .ok c) : wT a (t :: ts) = (c :: (wT t ts).1, (wT t ts).2) := by simp [wT, walkG, h]
theorem wT_bad {a t : UInt8} {n : Int} (ts : List UInt8) (h : triG a t = .error n) : wT a (t :: ts) = ([], some n) := by simp [wT, walkG, h]
theorem gat_ok {a : UInt8} (ha : IsLet a) (r : List UInt8) : gatG a (r, none) = .ok r := by unfold gatG; rw [if_neg (let_code ha)]
theorem gat_no {a : UInt8} (ha : IsLet a) (r : List UInt8) (n : Int) : gatG a (r, some n) = .error n := by unfold gatG; rw [if_neg (let_code ha)]
theorem walk_turn (ts : List UInt8) : ∀ a, IsLet a → (∀ t ∈ ts, IsTri t) → ∃ s, wB a ts = (s, none) ∧ s.length = ts.length ∧ (∀ c ∈ s, IsLet c) ∧ (∀ i (h : i < s.length), s[i] ≠ (a :: s)[i]'(by simp; omega)) ∧ wT a s = (ts, none) := by
 induction ts with
 | nil => intro a _ _; exact ⟨[], rfl, rfl, by simp, by simp, rfl⟩
 | cons t ts ih =>
   intro a ha ht
   obtain ⟨c, h1, h2, h3, h4⟩ := beh_fact ha (ht t (by simp))
   obtain ⟨s, e1, e2, e3, e4, e5⟩ := ih c h2 (fun x hx => ht x (by simp [hx]))
   refine ⟨c :: s, by rw [wB_cons ts h1, e1], by simp [e2], by simpa using ⟨h2, e3⟩, fun i hi => ?_, by rw [wT_cons s h4, e5]⟩
   cases i with
   | zero => exact h3
   | succ i => exact e4 i (by simpa using hi)
end Go.Proofs.YtjclfkbhakjdaaaDoor.Tu
