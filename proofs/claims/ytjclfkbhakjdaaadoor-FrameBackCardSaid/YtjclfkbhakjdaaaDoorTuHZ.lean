import Derived.Test.YtjclfkbhakjdaaaDoorTuFZ
namespace Go.Proofs.YtjclfkbhakjdaaaDoor.Tu
open Go.RowKit Go.Shelf
attribute [local go_sem] Oper.semAt_some run_store_func
end Go.Proofs.YtjclfkbhakjdaaaDoor.Tu
namespace Go.Proofs.YtjclfkbhakjdaaaDoor
open Go.Proofs.YtjclfkbhakjdaaaDoor.Tu
open Go.RowKit Go.Shelf
attribute [local go_sem] Oper.semAt_some run_store_func
theorem Boxed.set_other {W : World} {b b' : Nat} {t : TypeId} {x y : Value} (h : Boxed W b t x) (hne : b ≠ b') : Boxed (W.setCell ⟨b', 0, none⟩ y) b t x :=
 (Below.heap_setCell _ _ _ _ hne).trans h
end Go.Proofs.YtjclfkbhakjdaaaDoor
namespace Go.Proofs.YtjclfkbhakjdaaaDoor.Tu
open Go.RowKit Go.Shelf
attribute [local go_sem] Oper.semAt_some run_store_func
set_option maxRecDepth 100000 in
set_option maxHeartbeats 4000000 in
theorem gathered_any (a : UInt8) (gf : Nat) (lb : Array Value) (r : List UInt8 × Option Int) (hxs : r.1.length ≤ 1000000) (hne : ∀ n, r.2 = some n → n ≠ 0) (w : World) (hen : ∀ args w, (callFunc gf args).run Tryd.prog w = .ok (.enter gf args) w) (hT : Tab w)
    (hseq : ∀ (B g : Nat) (w0 : World), Below w.heap.size w w0 → w.heap.size ≤ g → w.heap.size ≤ B → B ≤ w0.heap.size → SeqI Fence.wide Tryd.prog gf lb (fun x : UInt8 => #[eB x]) (Keep B g) r.1 (r.2.map errno) w0) :
    Calls Tryd.prog 51 #[eB a, .func (.func gf) #[] lb] w fun e w' => Below w.heap.size w w' ∧
      ((∃ v, gatG a r = .ok r.1 ∧ e = .returned (.tuple #[v, .int .i64 0]) ∧ w'.ownsRow w.heap.size 5 1 v r.1.length (r.1.map eB)) ∨ ∃ n, gatG a r = .error n ∧ e = .returned (.tuple #[.slice none 0 0, .int .i64 n])) := by
 have hmf : ∀ (fn : Fn) (first cap : Array Value) (w : World), (Instr.makeFunc fn first cap).run Tryd.prog w = .ok (.func fn first cap) w := fun _ _ _ _ => rfl
 obtain ⟨W0, hW0⟩ : ∃ W0, ((w.alloc (.cells #[eB a] 5)).alloc (.cells #[.func (.func gf) #[] lb] 49)).alloc (.cells #[.slice none 0 0] 24) = W0 := ⟨_, rfl⟩
 have hs0 : W0.heap.size = w.heap.size + 3 := by rw [← hW0]; simp
 have hA : Below w.heap.size w W0 := by rw [← hW0]; exact (((Below.refl _ w).alloc (Nat.le_refl _) _).alloc (by simp) _).alloc (by simp; omega) _
 have b1 : Boxed W0 w.heap.size 5 (eB a) := by rw [← hW0]; exact ((Boxed.new w _ _).alloc _).alloc _
 have b2 : Boxed W0 (w.heap.size + 1) 49 (.func (.func gf) #[] lb) := by
  rw [← hW0]
  have := (Boxed.new (w.alloc (.cells #[eB a] 5)) 49 (.func (.func gf) #[] lb)).alloc (.cells #[.slice none 0 0] 24)
  rw [World.size_alloc] at this
  exact this
 have b3 : Boxed W0 (w.heap.size + 1 + 1) 24 (.slice none 0 0) := by
  rw [← hW0]
  have := Boxed.new ((w.alloc (.cells #[eB a] 5)).alloc (.cells #[.func (.func gf) #[] lb] 49)) 24 (.slice none 0 0)
  rw [World.size_alloc, World.size_alloc] at this
  exact this
 have hA4 := below_alloc W0 (.cells #[.int .i64 0] 28)
 have hsz4 : (W0.alloc (.cells #[.int .i64 0] 28)).heap.size = w.heap.size + 4 := by simp [hs0]
 have hB4 := below_trans hA hA4
 have hwork := gathered1_is w.heap.size (w.heap.size + 1) (w.heap.size + 1 + 1) a gf lb r hxs (W0.alloc (.cells #[.int .i64 0] 28)) hen (hT.below hB4) (b1.alloc _) (b2.alloc _).cell (by omega) (b3.alloc _)
  (fun w0 h => hseq _ _ w0 (below_trans hB4 h) (by omega) (by omega) h.size)
 have hct := caught_any 72 _ (w.heap.size + 1 + 1) W0 (by omega) (enters_of Tryd.func72 (by kernel_rfl) rfl) _ _ hwork
 have hgn : ∀ n, gatG a r = .error n → n ≠ 0 := by
  intro n hn
  unfold gatG at hn
  split at hn
  · cases hn; omega
  · cases hr : r.2 with
    | none => rw [hr] at hn; cases hn
    | some m => rw [hr] at hn; cases hn; exact hne _ hr
 clear hwork hA4 hsz4 hB4 hseq hen
 go_enter Tryd.func51, Tryd.ntmps51
 go_wp2_with fail
 go_at_call 71
 refine hct.mono ?_
 rintro e w' ⟨w1, n, hK, rfl, rfl, hlt, hR⟩
 have hBf : Below w.heap.size w (w1.setCell ⟨W0.heap.size, 0, none⟩ (.int .i64 n)) := (below_of_keep hK hA (by omega) (by omega)).setCell (p := ⟨W0.heap.size, 0, none⟩) (by show w.heap.size ≤ W0.heap.size; omega) _
 clear hct hW0
 rcases hR with ⟨rfl, hg, v, hv, hrow⟩ | ⟨hg, v, hv⟩
 · have hv0 : ∃ A' l' c', v = .slice A' l' c' := by
     rcases hrow.2 with ⟨rfl, _⟩ | ⟨gg, cap, cur, rfl, _⟩
     · exact ⟨_, _, _, rfl⟩
     · exact ⟨_, _, _, rfl⟩
   obtain ⟨A', l', c', rfl⟩ := hv0
   have hv2 := Boxed.set_other (b' := W0.heap.size) (y := .int .i64 0) hv (by omega)
   have hc := hv2.cell
   have hrow2 : (w1.setCell ⟨W0.heap.size, 0, none⟩ (.int .i64 0)).ownsRow w.heap.size 5 1 (.slice A' l' c') r.1.length (r.1.map eB) := by
    have h1 := World.ownsRow.kept hrow (grownBy_setCell' w1 W0.heap.size (.int .i64 0)) (by
     cases hvb : (Value.slice A' l' c').ownBlock with
     | none => exact .inl rfl
     | some q => exact .inr (fun e => by have := (World.ownsRow.lt hrow q hvb).1; injection e with e; simp at this; omega))
    exact ⟨h1.1, h1.2.imp id (fun ⟨g, cap, cur, e, hb, rest⟩ => ⟨g, cap, cur, e, by simp at hb; omega, rest⟩)⟩
   have Hg := Lib.hid hg
   clear hg hgn
   generalize w1.setCell ⟨W0.heap.size, 0, none⟩ (.int .i64 0) = w2 at *
   go_wp2_with fail
   go_ret2
   exact ⟨hBf, .inl ⟨_, Hg.out, rfl, hrow2⟩⟩
 · have hn := hgn n hg
   have hb : ((n : Int) != 0) = true := by simpa using hn
   have Hg := Lib.hid hg
   clear hg hgn hn
   generalize w1.setCell ⟨W0.heap.size, 0, none⟩ (.int .i64 n) = w2 at *
   go_wp2_with fail
   go_ret2
   exact ⟨hBf, .inr ⟨n, Hg.out, rfl⟩⟩
end Go.Proofs.YtjclfkbhakjdaaaDoor.Tu
namespace Go.Proofs.YtjclfkbhakjdaaaDoor.Tu
open Go.RowKit Go.Shelf
attribute [local go_sem] Oper.semAt_some run_store_func
theorem walkG_length (f : UInt8 → UInt8 → Except Int UInt8) (nx : UInt8 → UInt8 → UInt8) (a : UInt8) (ts : List UInt8) : (walkG f nx a ts).1.length ≤ ts.length := by
 induction ts generalizing a with
 | nil => simp [walkG]
 | cons t ts ih =>
   rw [walkG]
   cases f a t with
   | error n => simp
   | ok c => simpa using ih (nx t c)
theorem walkG_ne (f : UInt8 → UInt8 → Except Int UInt8) (nx : UInt8 → UInt8 → UInt8) (hf : ∀ a t n, f a t = .error n → n ≠ 0) (a : UInt8) (ts : List UInt8) : ∀ n, (walkG f nx a ts).2 = some n → n ≠ 0 := by
 induction ts generalizing a with
 | nil => intro n h; simp [walkG] at h
 | cons t ts ih =>
   intro n
   rw [walkG]
   cases h : f a t with
   | error m => intro e; cases e; exact hf a t _ h
   | ok c => exact ih (nx t c) n
theorem behG_ne (a t : UInt8) (n : Int) (h : behG a t = .error n) : n ≠ 0 := by
 unfold behG at h
 split at h
 · cases h; omega
 · split at h
   · cases h; omega
   · cases h
theorem triG_ne (a t : UInt8) (n : Int) (h : triG a t = .error n) : n ≠ 0 := by
 unfold triG at h
 split at h
 · cases h; omega
 · split at h
   · cases h; omega
   · split at h
     · cases h
     · cases h; omega
def turnG (a : UInt8) (ts : List UInt8) : Except Int (List UInt8) := gatG a (walkG behG (fun _ c => c) a ts)
def backG (a : UInt8) (s : List UInt8) : Except Int (List UInt8) := gatG a (walkG triG (fun t _ => t) a s)
set_option maxRecDepth 100000 in
set_option maxHeartbeats 1000000 in
theorem letters_any (a : UInt8) (A : Option Addr) (l c : Nat) (w : World) :
    Calls Tryd.prog 52 #[eB a, .slice A l c] w fun e w' => e = .returned (.func (.func 74) #[] #[.pointer (some ⟨w.heap.size, 0, none⟩), .pointer (some ⟨w.heap.size + 1, 0, none⟩)]) ∧
      Below w.heap.size w w' ∧ w'.heap.size = w.heap.size + 2 ∧ Boxed w' w.heap.size 5 (eB a) ∧ Boxed w' (w.heap.size + 1) 24 (.slice A l c) := by
  have hmf : ∀ (fn : Fn) (first cap : Array Value) (w : World), (Instr.makeFunc fn first cap).run Tryd.prog w = .ok (.func fn first cap) w := fun _ _ _ _ => rfl
  have hb1 := (Boxed.new w 5 (eB a)).alloc (.cells #[.slice A l c] 24)
  have hb2 := Boxed.new (w.alloc (.cells #[eB a] 5)) 24 (.slice A l c)
  rw [World.size_alloc] at hb2
  have hB : Below w.heap.size w ((w.alloc (.cells #[eB a] 5)).alloc (.cells #[.slice A l c] 24)) := ((Below.refl _ w).alloc (Nat.le_refl _) _).alloc (by simp) _
  have hsz : ((w.alloc (.cells #[eB a] 5)).alloc (.cells #[.slice A l c] 24)).heap.size = w.heap.size + 2 := by simp
  go_enter Tryd.func52, Tryd.ntmps52
  go_wp2
  go_ret
  exact ⟨rfl, hB, hsz, hb1, hb2⟩
set_option maxRecDepth 100000 in
set_option maxHeartbeats 1000000 in
theorem Turn_any (a : UInt8) (tv : Value) (ts : List UInt8) (hreach : ts.length ≤ 1000000) (w : World) (hT : Tab w) (hS : Sl eB w.heap.size w tv ts) :
    Calls Tryd.prog 35 #[eB a, tv] w fun e w' => Below w.heap.size w w' ∧
      ((∃ v r, turnG a ts = .ok r ∧ e = .returned (.tuple #[v, .int .i64 0]) ∧ w'.ownsRow w.heap.size 5 1 v r.length (r.map eB)) ∨ ∃ n, turnG a ts = .error n ∧ e = .returned (.tuple #[.slice none 0 0, .int .i64 n])) := by
  obtain ⟨A, c, htv⟩ := hS.len
  subst htv
  have hlen := walkG_length behG (fun _ c => c) a ts
  have hne := walkG_ne behG (fun _ c => c) behG_ne a ts
  go_enter Tryd.func35, Tryd.ntmps35
  go_wp2_with fail
  go_at_call 52
  refine (letters_any a A ts.length c w).mono ?_
  rintro e w1 ⟨rfl, hB1, hs1, hb1, hb2⟩
  have hT1 := hT.below hB1
  have hS1 := hS.next hB1
  have hlt := hT.lt
  have hG := gathered_any a 74 #[.pointer (some ⟨w.heap.size, 0, none⟩), .pointer (some ⟨w.heap.size + 1, 0, none⟩)] (walkG behG (fun _ c => c) a ts) (by omega) hne w1 (enters_of Tryd.func74 (by kernel_rfl) rfl) hT1
    (fun B g w0 hw0 h1 h2 h3 => letters_seq w.heap.size (w.heap.size + 1) B g a (.slice A ts.length c) ts hreach w0 h3 (by omega) (by omega) (by omega) (by omega) (by omega) (by omega)
     ((hw0.cell (p := ⟨w.heap.size, 0, none⟩) (by show w.heap.size < _; omega)).trans hb1.cell) ((hw0.cell (p := ⟨w.heap.size + 1, 0, none⟩) (by show w.heap.size + 1 < _; omega)).trans hb2.cell) ((hS1.below hw0).more h2)
     (fun h0 A' l' c' he x hx => by
      injection he with e1 e2 e3
      subst e1
      obtain ⟨A2, c2, e, _, hcs⟩ := hS
      injection e with e4 e5 e6
      subst e4
      obtain ⟨b, off, e7, hb, _⟩ := hcs h0
      rw [e7] at hx
      cases hx
      show b ≠ g
      omega) (hT1.below hw0))
  have hgg : gatG a (walkG behG (fun _ c => c) a ts) = turnG a ts := rfl
  rw [hgg] at hG
  generalize walkG behG (fun _ c => c) a ts = R at *
  clear hlen hne hS1 hb1 hb2
  go_wp2_with fail
  go_at_call 51
  refine hG.mono ?_
  rintro e w2 ⟨hB2, ⟨v, hg, rfl, hv⟩ | ⟨n, hg, rfl⟩⟩
  · have Hg := Lib.hid hg
    have hB3 := below_trans hB1 hB2
    have hv3 : w2.ownsRow w.heap.size 5 1 v R.1.length (R.1.map eB) := ⟨hv.1, hv.2.imp id (fun ⟨g, cap, cur, e, hb, rest⟩ => ⟨g, cap, cur, e, by omega, rest⟩)⟩
    clear hg hG hv
    go_wp2_with fail
    go_ret2
    exact ⟨hB3, .inl ⟨v, R.1, Hg.out, rfl, hv3⟩⟩
  · have Hg := Lib.hid hg
    have hB3 := below_trans hB1 hB2
    clear hg hG
    go_wp2_with fail
    go_ret2
    exact ⟨hB3, .inr ⟨n, Hg.out, rfl⟩⟩
set_option maxRecDepth 100000 in
set_option maxHeartbeats 1000000 in
theorem turned_any (a : UInt8) (A : Option Addr) (l c : Nat) (w : World) :
    Calls Tryd.prog 88 #[eB a, .slice A l c] w fun e w' => e = .returned (.func (.func 98) #[] #[.pointer (some ⟨w.heap.size, 0, none⟩), .pointer (some ⟨w.heap.size + 1, 0, none⟩)]) ∧
      Below w.heap.size w w' ∧ w'.heap.size = w.heap.size + 2 ∧ Boxed w' w.heap.size 5 (eB a) ∧ Boxed w' (w.heap.size + 1) 24 (.slice A l c) := by
  have hmf : ∀ (fn : Fn) (first cap : Array Value) (w : World), (Instr.makeFunc fn first cap).run Tryd.prog w = .ok (.func fn first cap) w := fun _ _ _ _ => rfl
  have hb1 := (Boxed.new w 5 (eB a)).alloc (.cells #[.slice A l c] 24)
  have hb2 := Boxed.new (w.alloc (.cells #[eB a] 5)) 24 (.slice A l c)
  rw [World.size_alloc] at hb2
  have hB : Below w.heap.size w ((w.alloc (.cells #[eB a] 5)).alloc (.cells #[.slice A l c] 24)) := ((Below.refl _ w).alloc (Nat.le_refl _) _).alloc (by simp) _
  have hsz : ((w.alloc (.cells #[eB a] 5)).alloc (.cells #[.slice A l c] 24)).heap.size = w.heap.size + 2 := by simp
  go_enter Tryd.func88, Tryd.ntmps88
  go_wp2
  go_ret
  exact ⟨rfl, hB, hsz, hb1, hb2⟩
set_option maxRecDepth 100000 in
set_option maxHeartbeats 1000000 in
theorem Back_any (a : UInt8) (tv : Value) (ts : List UInt8) (hreach : ts.length ≤ 1000000) (w : World) (hT : Tab w) (hS : Sl eB w.heap.size w tv ts) :
    Calls Tryd.prog 67 #[eB a, tv] w fun e w' => Below w.heap.size w w' ∧
      ((∃ v r, backG a ts = .ok r ∧ e = .returned (.tuple #[v, .int .i64 0]) ∧ w'.ownsRow w.heap.size 5 1 v r.length (r.map eB)) ∨ ∃ n, backG a ts = .error n ∧ e = .returned (.tuple #[.slice none 0 0, .int .i64 n])) := by
  obtain ⟨A, c, htv⟩ := hS.len
  subst htv
  have hlen := walkG_length triG (fun t _ => t) a ts
  have hne := walkG_ne triG (fun t _ => t) triG_ne a ts
  go_enter Tryd.func67, Tryd.ntmps67
  go_wp2_with fail
  go_at_call 88
  refine (turned_any a A ts.length c w).mono ?_
  rintro e w1 ⟨rfl, hB1, hs1, hb1, hb2⟩
  have hT1 := hT.below hB1
  have hS1 := hS.next hB1
  have hlt := hT.lt
  have hG := gathered_any a 98 #[.pointer (some ⟨w.heap.size, 0, none⟩), .pointer (some ⟨w.heap.size + 1, 0, none⟩)] (walkG triG (fun t _ => t) a ts) (by omega) hne w1 (enters_of Tryd.func98 (by kernel_rfl) rfl) hT1
    (fun B g w0 hw0 h1 h2 h3 => turned_seq w.heap.size (w.heap.size + 1) B g a (.slice A ts.length c) ts hreach w0 h3 (by omega) (by omega) (by omega) (by omega) (by omega) (by omega)
     ((hw0.cell (p := ⟨w.heap.size, 0, none⟩) (by show w.heap.size < _; omega)).trans hb1.cell) ((hw0.cell (p := ⟨w.heap.size + 1, 0, none⟩) (by show w.heap.size + 1 < _; omega)).trans hb2.cell) ((hS1.below hw0).more h2)
     (fun h0 A' l' c' he x hx => by
      injection he with e1 e2 e3
      subst e1
      obtain ⟨A2, c2, e, _, hcs⟩ := hS
      injection e with e4 e5 e6
      subst e4
      obtain ⟨b, off, e7, hb, _⟩ := hcs h0
      rw [e7] at hx
      cases hx
      show b ≠ g
      omega) (hT1.below hw0))
  have hgg : gatG a (walkG triG (fun t _ => t) a ts) = backG a ts := rfl
  rw [hgg] at hG
  generalize walkG triG (fun t _ => t) a ts = R at *
  clear hlen hne hS1 hb1 hb2
  go_wp2_with fail
  go_at_call 51
  refine hG.mono ?_
  rintro e w2 ⟨hB2, ⟨v, hg, rfl, hv⟩ | ⟨n, hg, rfl⟩⟩
  · have Hg := Lib.hid hg
    have hB3 := below_trans hB1 hB2
    have hv3 : w2.ownsRow w.heap.size 5 1 v R.1.length (R.1.map eB) := ⟨hv.1, hv.2.imp id (fun ⟨g, cap, cur, e, hb, rest⟩ => ⟨g, cap, cur, e, by omega, rest⟩)⟩
    clear hg hG hv
    go_wp2_with fail
    go_ret2
    exact ⟨hB3, .inl ⟨v, R.1, Hg.out, rfl, hv3⟩⟩
  · have Hg := Lib.hid hg
    have hB3 := below_trans hB1 hB2
    clear hg hG
    go_wp2_with fail
    go_ret2
    exact ⟨hB3, .inr ⟨n, Hg.out, rfl⟩⟩
end Go.Proofs.YtjclfkbhakjdaaaDoor.Tu
