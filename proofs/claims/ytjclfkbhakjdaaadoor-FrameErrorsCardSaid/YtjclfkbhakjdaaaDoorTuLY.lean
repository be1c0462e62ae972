import Derived.Lib.SlBytesConst
import Derived.Test.YtjclfkbhakjdaaaDoorTuGY
namespace Go.Proofs.YtjclfkbhakjdaaaDoor.Tu
open Go.RowKit Go.Shelf
attribute [local go_sem] Oper.semAt_some run_store_func
theorem walkG_length (f : UInt8 → UInt8 → Except Int UInt8) (nx : UInt8 → UInt8 → UInt8) (a : UInt8) (ts : List UInt8) : (walkG f nx a ts).1.length ≤ ts.length := by
 induction ts generalizing a with
 | nil => simp [walkG]
 | cons t ts ih =>
   rw [walkG]
   cases f a t with
   | error n => simp
   | ok c => simpa using ih (nx t c)
theorem walkG_ne (f : UInt8 → UInt8 → Except Int UInt8) (nx : UInt8 → UInt8 → UInt8) (hf : ∀ a t n, f a t = .error n → n ≠ 0) (a : UInt8) (ts : List UInt8) : ∀ n, (walkG f nx a ts).2 = some n → n ≠ 0 := by
 induction ts generalizing a with
 | nil => intro n h; simp [walkG] at h
 | cons t ts ih =>
   intro n
   rw [walkG]
   cases h : f a t with
   | error m => intro e; cases e; exact hf a t _ h
   | ok c => exact ih (nx t c) n
theorem behG_ne (a t : UInt8) (n : Int) (h : behG a t = .error n) : n ≠ 0 := by
 unfold behG at h
 split at h
 · cases h; omega
 · split at h
   · cases h; omega
   · cases h
theorem triG_ne (a t : UInt8) (n : Int) (h : triG a t = .error n) : n ≠ 0 := by
 unfold triG at h
 split at h
 · cases h; omega
 · split at h
   · cases h; omega
   · split at h
     · cases h
     · cases h; omega
def turnG (a : UInt8) (ts : List UInt8) : Except Int (List UInt8) := gatG a (walkG behG (fun _ c => c) a ts)
def backG (a : UInt8) (s : List UInt8) : Except Int (List UInt8) := gatG a (walkG triG (fun t _ => t) a s)
set_option maxRecDepth 100000 in
set_option maxHeartbeats 1000000 in
theorem letters_any (a : UInt8) (A : Option Addr) (l c : Nat) (w : World) :
    Calls Tryd.prog 52 #[eB a, .slice A l c] w fun e w' => e = .returned (.func (.func 74) #[] #[.pointer (some ⟨w.heap.size, 0, none⟩), .pointer (some ⟨w.heap.size + 1, 0, none⟩)]) ∧
      Below w.heap.size w w' ∧ w'.heap.size = w.heap.size + 2 ∧ Boxed w' w.heap.size 5 (eB a) ∧ Boxed w' (w.heap.size + 1) 24 (.slice A l c) := by
  have hmf : ∀ (fn : Fn) (first cap : Array Value) (w : World), (Instr.makeFunc fn first cap).run Tryd.prog w = .ok (.func fn first cap) w := fun _ _ _ _ => rfl
  have hb1 := (Boxed.new w 5 (eB a)).alloc (.cells #[.slice A l c] 24)
  have hb2 := Boxed.new (w.alloc (.cells #[eB a] 5)) 24 (.slice A l c)
  rw [World.size_alloc] at hb2
  have hB : Below w.heap.size w ((w.alloc (.cells #[eB a] 5)).alloc (.cells #[.slice A l c] 24)) := ((Below.refl _ w).alloc (Nat.le_refl _) _).alloc (by simp) _
  have hsz : ((w.alloc (.cells #[eB a] 5)).alloc (.cells #[.slice A l c] 24)).heap.size = w.heap.size + 2 := by simp
  go_enter Tryd.func52, Tryd.ntmps52
  go_wp2
  go_ret
  exact ⟨rfl, hB, hsz, hb1, hb2⟩
set_option maxRecDepth 100000 in
set_option maxHeartbeats 1000000 in
theorem Turn_any (a : UInt8) (tv : Value) (ts : List UInt8) (hreach : ts.length ≤ 1000000) (w : World) (hT : Tab w) (hS : Sl eB w.heap.size w tv ts) :
    Calls Tryd.prog 35 #[eB a, tv] w fun e w' => Below w.heap.size w w' ∧
      ((∃ v r, turnG a ts = .ok r ∧ e = .returned (.tuple #[v, .int .i64 0]) ∧ w'.ownsRow w.heap.size 5 1 v r.length (r.map eB)) ∨ ∃ n, turnG a ts = .error n ∧ e = .returned (.tuple #[.slice none 0 0, .int .i64 n])) := by
  obtain ⟨A, c, htv⟩ := hS.len
  subst htv
  have hlen := walkG_length behG (fun _ c => c) a ts
  have hne := walkG_ne behG (fun _ c => c) behG_ne a ts
  go_enter Tryd.func35, Tryd.ntmps35
  go_wp2_with fail
  go_at_call 52
  refine (letters_any a A ts.length c w).mono ?_
  rintro e w1 ⟨rfl, hB1, hs1, hb1, hb2⟩
  have hT1 := hT.below hB1
  have hS1 := hS.next hB1
  have hlt := hT.lt
  have hG := gathered_any a 74 #[.pointer (some ⟨w.heap.size, 0, none⟩), .pointer (some ⟨w.heap.size + 1, 0, none⟩)] (walkG behG (fun _ c => c) a ts) (by omega) hne w1 (enters_of Tryd.func74 (by kernel_rfl) rfl) hT1
    (fun B g w0 hw0 h1 h2 h3 => letters_seq w.heap.size (w.heap.size + 1) B g a (.slice A ts.length c) ts hreach w0 h3 (by omega) (by omega) (by omega) (by omega) (by omega) (by omega)
     ((hw0.cell (p := ⟨w.heap.size, 0, none⟩) (by show w.heap.size < _; omega)).trans hb1.cell) ((hw0.cell (p := ⟨w.heap.size + 1, 0, none⟩) (by show w.heap.size + 1 < _; omega)).trans hb2.cell) ((hS1.below hw0).more h2)
     (fun h0 A' l' c' he x hx => by
      injection he with e1 e2 e3
      subst e1
      obtain ⟨A2, c2, e, _, hcs⟩ := hS
      injection e with e4 e5 e6
      subst e4
      obtain ⟨b, off, e7, hb, _⟩ := hcs h0
      rw [e7] at hx
      cases hx
      show b ≠ g
      omega) (hT1.below hw0))
  have hgg : gatG a (walkG behG (fun _ c => c) a ts) = turnG a ts := rfl
  rw [hgg] at hG
  generalize walkG behG (fun _ c => c) a ts = R at *
  clear hlen hne hS1 hb1 hb2
  go_wp2_with fail
  go_at_call 51
  refine hG.mono ?_
  rintro e w2 ⟨hB2, ⟨v, hg, rfl, hv⟩ | ⟨n, hg, rfl⟩⟩
  · have Hg := Lib.hid hg
    have hB3 := below_trans hB1 hB2
    have hv3 : w2.ownsRow w.heap.size 5 1 v R.1.length (R.1.map eB) := ⟨hv.1, hv.2.imp id (fun ⟨g, cap, cur, e, hb, rest⟩ => ⟨g, cap, cur, e, by omega, rest⟩)⟩
    clear hg hG hv
    go_wp2_with fail
    go_ret2
    exact ⟨hB3, .inl ⟨v, R.1, Hg.out, rfl, hv3⟩⟩
  · have Hg := Lib.hid hg
    have hB3 := below_trans hB1 hB2
    clear hg hG
    go_wp2_with fail
    go_ret2
    exact ⟨hB3, .inr ⟨n, Hg.out, rfl⟩⟩
set_option maxRecDepth 100000 in
set_option maxHeartbeats 1000000 in
theorem turned_any (a : UInt8) (A : Option Addr) (l c : Nat) (w : World) :
    Calls Tryd.prog 88 #[eB a, .slice A l c] w fun e w' => e = .returned (.func (.func 98) #[] #[.pointer (some ⟨w.heap.size, 0, none⟩), .pointer (some ⟨w.heap.size + 1, 0, none⟩)]) ∧
      Below w.heap.size w w' ∧ w'.heap.size = w.heap.size + 2 ∧ Boxed w' w.heap.size 5 (eB a) ∧ Boxed w' (w.heap.size + 1) 24 (.slice A l c) := by
  have hmf : ∀ (fn : Fn) (first cap : Array Value) (w : World), (Instr.makeFunc fn first cap).run Tryd.prog w = .ok (.func fn first cap) w := fun _ _ _ _ => rfl
  have hb1 := (Boxed.new w 5 (eB a)).alloc (.cells #[.slice A l c] 24)
  have hb2 := Boxed.new (w.alloc (.cells #[eB a] 5)) 24 (.slice A l c)
  rw [World.size_alloc] at hb2
  have hB : Below w.heap.size w ((w.alloc (.cells #[eB a] 5)).alloc (.cells #[.slice A l c] 24)) := ((Below.refl _ w).alloc (Nat.le_refl _) _).alloc (by simp) _
  have hsz : ((w.alloc (.cells #[eB a] 5)).alloc (.cells #[.slice A l c] 24)).heap.size = w.heap.size + 2 := by simp
  go_enter Tryd.func88, Tryd.ntmps88
  go_wp2
  go_ret
  exact ⟨rfl, hB, hsz, hb1, hb2⟩
set_option maxRecDepth 100000 in
set_option maxHeartbeats 1000000 in
theorem Back_any (a : UInt8) (tv : Value) (ts : List UInt8) (hreach : ts.length ≤ 1000000) (w : World) (hT : Tab w) (hS : Sl eB w.heap.size w tv ts) :
    Calls Tryd.prog 67 #[eB a, tv] w fun e w' => Below w.heap.size w w' ∧
      ((∃ v r, backG a ts = .ok r ∧ e = .returned (.tuple #[v, .int .i64 0]) ∧ w'.ownsRow w.heap.size 5 1 v r.length (r.map eB)) ∨ ∃ n, backG a ts = .error n ∧ e = .returned (.tuple #[.slice none 0 0, .int .i64 n])) := by
  obtain ⟨A, c, htv⟩ := hS.len
  subst htv
  have hlen := walkG_length triG (fun t _ => t) a ts
  have hne := walkG_ne triG (fun t _ => t) triG_ne a ts
  go_enter Tryd.func67, Tryd.ntmps67
  go_wp2_with fail
  go_at_call 88
  refine (turned_any a A ts.length c w).mono ?_
  rintro e w1 ⟨rfl, hB1, hs1, hb1, hb2⟩
  have hT1 := hT.below hB1
  have hS1 := hS.next hB1
  have hlt := hT.lt
  have hG := gathered_any a 98 #[.pointer (some ⟨w.heap.size, 0, none⟩), .pointer (some ⟨w.heap.size + 1, 0, none⟩)] (walkG triG (fun t _ => t) a ts) (by omega) hne w1 (enters_of Tryd.func98 (by kernel_rfl) rfl) hT1
    (fun B g w0 hw0 h1 h2 h3 => turned_seq w.heap.size (w.heap.size + 1) B g a (.slice A ts.length c) ts hreach w0 h3 (by omega) (by omega) (by omega) (by omega) (by omega) (by omega)
     ((hw0.cell (p := ⟨w.heap.size, 0, none⟩) (by show w.heap.size < _; omega)).trans hb1.cell) ((hw0.cell (p := ⟨w.heap.size + 1, 0, none⟩) (by show w.heap.size + 1 < _; omega)).trans hb2.cell) ((hS1.below hw0).more h2)
     (fun h0 A' l' c' he x hx => by
      injection he with e1 e2 e3
      subst e1
      obtain ⟨A2, c2, e, _, hcs⟩ := hS
      injection e with e4 e5 e6
      subst e4
      obtain ⟨b, off, e7, hb, _⟩ := hcs h0
      rw [e7] at hx
      cases hx
      show b ≠ g
      omega) (hT1.below hw0))
  have hgg : gatG a (walkG triG (fun t _ => t) a ts) = backG a ts := rfl
  rw [hgg] at hG
  generalize walkG triG (fun t _ => t) a ts = R at *
  clear hlen hne hS1 hb1 hb2
  go_wp2_with fail
  go_at_call 51
  refine hG.mono ?_
  rintro e w2 ⟨hB2, ⟨v, hg, rfl, hv⟩ | ⟨n, hg, rfl⟩⟩
  · have Hg := Lib.hid hg
    have hB3 := below_trans hB1 hB2
    have hv3 : w2.ownsRow w.heap.size 5 1 v R.1.length (R.1.map eB) := ⟨hv.1, hv.2.imp id (fun ⟨g, cap, cur, e, hb, rest⟩ => ⟨g, cap, cur, e, by omega, rest⟩)⟩
    clear hg hG hv
    go_wp2_with fail
    go_ret2
    exact ⟨hB3, .inl ⟨v, R.1, Hg.out, rfl, hv3⟩⟩
  · have Hg := Lib.hid hg
    have hB3 := below_trans hB1 hB2
    clear hg hG
    go_wp2_with fail
    go_ret2
    exact ⟨hB3, .inr ⟨n, Hg.out, rfl⟩⟩
end Go.Proofs.YtjclfkbhakjdaaaDoor.Tu
namespace Go.Proofs.YtjclfkbhakjdaaaDoor.Tu
open Go.RowKit Go.Shelf
attribute [local go_sem] Oper.semAt_some run_store_func
theorem beq_dec (a b : List UInt8) : (a == b) = decide (a = b) := by
 rw [Bool.eq_iff_iff]; simp
end Go.Proofs.YtjclfkbhakjdaaaDoor.Tu
namespace Go.Proofs.YtjclfkbhakjdaaaDoor.Tu
open Go.RowKit Go.Shelf
attribute [local go_sem] Oper.semAt_some run_store_func
theorem Turn_yes (a : UInt8) (tv : Value) (ts r : List UInt8) (hr : turnG a ts = .ok r) (hreach : ts.length ≤ 1000000) (w : World) (hT : Tab w) (hS : Sl eB w.heap.size w tv ts) :
    Calls Tryd.prog 35 #[eB a, tv] w fun e w' => ∃ v, e = .returned (.tuple #[v, .int .i64 0]) ∧ w'.ownsRow w.heap.size 5 1 v r.length (r.map eB) ∧ Below w.heap.size w w' :=
  (Turn_any a tv ts hreach w hT hS).mono (by
   rintro e w' ⟨hB, ⟨v, y, hy, rfl, hv⟩ | ⟨m, hm, rfl⟩⟩
   · rw [hr] at hy; cases hy; exact ⟨v, rfl, hv, hB⟩
   · rw [hr] at hm; cases hm)
theorem Back_no (a : UInt8) (tv : Value) (ts : List UInt8) (m : Int) (hr : backG a ts = .error m) (hreach : ts.length ≤ 1000000) (w : World) (hT : Tab w) (hS : Sl eB w.heap.size w tv ts) :
    Calls Tryd.prog 67 #[eB a, tv] w fun e w' => e = .returned (.tuple #[.slice none 0 0, .int .i64 m]) ∧ Below w.heap.size w w' :=
  (Back_any a tv ts hreach w hT hS).mono (by
   rintro e w' ⟨hB, ⟨v, y, hy, rfl, hv⟩ | ⟨m', hm, rfl⟩⟩
   · rw [hr] at hy; cases hy
   · rw [hr] at hm; cases hm; exact ⟨rfl, hB⟩)
end Go.Proofs.YtjclfkbhakjdaaaDoor.Tu
namespace Go.Proofs.YtjclfkbhakjdaaaDoor.Tu
open Go.RowKit Go.Shelf
def IsLet (c : UInt8) : Prop := c = 65 ∨ c = 67 ∨ c = 71 ∨ c = 84
def IsTri (t : UInt8) : Prop := t = 0 ∨ t = 1 ∨ t = 2
theorem let_code {a : UInt8} (h : IsLet a) : codeOf a.toNat ≠ -1 := by
 rcases h with rfl | rfl | rfl | rfl <;> decide
theorem beh_fact {a t : UInt8} (ha : IsLet a) (ht : IsTri t) : ∃ c, behG a t = .ok c ∧ IsLet c ∧ c ≠ a ∧ triG a c = .ok t := by
 rcases ha with rfl | rfl | rfl | rfl <;> rcases ht with rfl | rfl | rfl
 · exact ⟨67, by kernel_rfl, by simp [IsLet], by decide, by kernel_rfl⟩
 · exact ⟨71, by kernel_rfl, by simp [IsLet], by decide, by kernel_rfl⟩
 · exact ⟨84, by kernel_rfl, by simp [IsLet], by decide, by kernel_rfl⟩
 · exact ⟨65, by kernel_rfl, by simp [IsLet], by decide, by kernel_rfl⟩
 · exact ⟨71, by kernel_rfl, by simp [IsLet], by decide, by kernel_rfl⟩
 · exact ⟨84, by kernel_rfl, by simp [IsLet], by decide, by kernel_rfl⟩
 · exact ⟨65, by kernel_rfl, by simp [IsLet], by decide, by kernel_rfl⟩
 · exact ⟨67, by kernel_rfl, by simp [IsLet], by decide, by kernel_rfl⟩
 · exact ⟨84, by kernel_rfl, by simp [IsLet], by decide, by kernel_rfl⟩
 · exact ⟨65, by kernel_rfl, by simp [IsLet], by decide, by kernel_rfl⟩
 · exact ⟨67, by kernel_rfl, by simp [IsLet], by decide, by kernel_rfl⟩
 · exact ⟨71, by kernel_rfl, by simp [IsLet], by decide, by kernel_rfl⟩
abbrev wB (a : UInt8) (ts : List UInt8) := walkG behG (fun _ c => c) a ts
abbrev wT (a : UInt8) (s : List UInt8) := walkG triG (fun t _ => t) a s
theorem wB_cons {a t c : UInt8} (ts : List UInt8) (h : behG a t = .ok c) : wB a (t :: ts) = (c :: (wB c ts).1, (wB c ts).2) := by simp [wB, walkG, h]
theorem wT_cons {a t c : UInt8} (ts : List UInt8) (h : triG a t = .ok c) : wT a (t :: ts) = (c :: (wT t ts).1, (wT t ts).2) := by simp [wT, walkG, h]
theorem gat_ok {a : UInt8} (ha : IsLet a) (r : List UInt8) : gatG a (r, none) = .ok r := by unfold gatG; rw [if_neg (let_code ha)]
theorem walk_turn (ts : List UInt8) : ∀ a, IsLet a → (∀ t ∈ ts, IsTri t) → ∃ s, wB a ts = (s, none) ∧ s.length = ts.length ∧ (∀ c ∈ s, IsLet c) ∧ (∀ i (h : i < s.length), s[i] ≠ (a :: s)[i]'(by simp; omega)) ∧ wT a s = (ts, none) := by
 induction ts with
 | nil => intro a _ _; exact ⟨[], rfl, rfl, by simp, by simp, rfl⟩
 | cons t ts ih =>
   intro a ha ht
   obtain ⟨c, h1, h2, h3, h4⟩ := beh_fact ha (ht t (by simp))
   obtain ⟨s, e1, e2, e3, e4, e5⟩ := ih c h2 (fun x hx => ht x (by simp [hx]))
   refine ⟨c :: s, by rw [wB_cons ts h1, e1], by simp [e2], by simpa using ⟨h2, e3⟩, fun i hi => ?_, by rw [wT_cons s h4, e5]⟩
   cases i with
   | zero => exact h3
   | succ i => exact e4 i (by simpa using hi)
end Go.Proofs.YtjclfkbhakjdaaaDoor.Tu
