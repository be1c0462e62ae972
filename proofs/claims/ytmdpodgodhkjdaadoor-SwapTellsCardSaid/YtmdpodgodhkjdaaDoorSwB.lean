/- Contracts of swap.by, By. -/
import Derived.Test.YtmdpodgodhkjdaaDoorSwA
import Derived.Test.YtmdpodgodhkjdaaDoorSwM
namespace Go.Proofs.YtmdpodgodhkjdaaDoor
open Go.RowKit Go.Shelf
attribute [local go_sem] Oper.semAt_some run_store_func

set_option maxRecDepth 100000 in
set_option maxHeartbeats 2000000 in
theorem by_out (y : List UInt8) (z : Int) (c : UInt8) (h : 1000 < y.length ∨ z < 0 ∨ (y.length : Int) ≤ z) (A : Option Addr) (cap : Nat) (w : World) :
    Calls Tryd.prog 52 #[.slice A y.length cap, .int .i64 z, eB c] w fun e w' => e = .panicked (errno 2) ∧ w = w' := by
  have hd : decide ((1000 : Int) < (y.length : Int)) = true ∨ (decide ((1000 : Int) < (y.length : Int)) = false ∧ decide (z < 0) = true) ∨ (decide ((1000 : Int) < (y.length : Int)) = false ∧ decide (z < 0) = false ∧ decide ((y.length : Int) ≤ z) = true) := by
    by_cases h1 : 1000 < y.length
    · exact .inl (decide_eq_true (by omega))
    · by_cases h2 : z < 0
      · exact .inr (.inl ⟨decide_eq_false (by omega), decide_eq_true h2⟩)
      · exact .inr (.inr ⟨decide_eq_false (by omega), decide_eq_false h2, decide_eq_true (by omega)⟩)
  clear h
  rcases hd with d1 | ⟨d1, d2⟩ | ⟨d1, d2, d3⟩
  all_goals
    go_enter Tryd.func52, Tryd.ntmps52
    go_wp2_with fail
    exact ⟨rfl, rfl, rfl⟩
/-- What by does. -/
abbrev ByIs (y : List UInt8) (z : Int) (c : UInt8) (w : World) : Ending → World → Prop := fun e w' => Below w.heap.size w w' ∧ ((∃ r v, byG y z c = .ok r ∧ e = .returned v ∧ (∃ g cap, v = .slice (some ⟨g, 0, none⟩) r.length cap ∧ w.heap.size ≤ g) ∧ Sl eB w'.heap.size w' v r) ∨ ∃ m, byG y z c = .error m ∧ e = .panicked (errno m))
set_option maxRecDepth 100000 in
set_option maxHeartbeats 2000000 in
theorem by_any (y : List UInt8) (z : Int) (c : UInt8) (sv : Value) (w : World) (hT : Tab w) (hS : Sl eB w.heap.size w sv y) (hreach : y.length ≤ 1000000) :
    Calls Tryd.prog 52 #[sv, .int .i64 z, eB c] w (ByIs y z c w) := by
  obtain ⟨A, cap, rfl⟩ := hS.len
  by_cases h : 1000 < y.length ∨ z < 0 ∨ (y.length : Int) ≤ z
  · refine (by_out y z c h A cap w).mono ?_
    rintro e w' ⟨rfl, rfl⟩
    exact ⟨Below.refl _ _, .inr ⟨2, by rw [byG, if_pos h], rfl⟩⟩
  obtain ⟨p, rfl⟩ : ∃ p : Nat, z = p := ⟨z.toNat, by omega⟩
  have hp : p < y.length := by omega
  have d1 : decide ((1000 : Int) < (y.length : Int)) = false := decide_eq_false (by omega)
  have d2 : decide ((p : Int) < 0) = false := decide_eq_false (by omega)
  have d3 : decide ((y.length : Int) ≤ (p : Int)) = false := decide_eq_false (by omega)
  have hpl : (p : Int) < y.length := by omega
  cases hs : sumsG y with
  | error m =>
    have hg : byG y p c = .error m := by rw [byG, if_neg h, hs]
    have hm0 : m ≠ 0 := by
      rcases sums_cases y with ⟨_, e⟩ | ⟨_, _, _, e⟩ | ⟨_, _, _, e⟩ <;> rw [e] at hs <;> cases hs <;> omega
    have hO := sof_no y m hm0 hs hreach (.slice A y.length cap)
    have Hg := Lib.hid hg
    clear hg hs h hp
    go_enter Tryd.func52, Tryd.ntmps52
    go_wp2_with fail
    go_at_call 62
    refine (hO _ hT hS).mono ?_
    rintro e w1 ⟨rfl, hB⟩
    exact ⟨rfl, hB, .inr ⟨m, Hg.out, rfl⟩⟩
  | ok r =>
    obtain ⟨a, b, d⟩ := r
    have hg : byG y p c = if codeOf c.toNat = -1 then .error 10 else .ok (y.set p c) := by rw [byG, if_neg h, hs, Int.toNat_natCast]
    have hO := sof_yes y a b d hs hreach (.slice A y.length cap)
    have hCl := fun w h => SClone_any (.slice A y.length cap) y (by omega) w h
    clear hs h
    by_cases hc : codeOf c.toNat = -1
    · have Hg := Lib.hid (show byG y p c = .error 10 by rw [hg, if_pos hc])
      have hC := scode_no c hc
      clear hg hc hp
      go_enter Tryd.func52, Tryd.ntmps52
      go_wp2_with fail
      go_at_call 62
      refine (hO _ hT hS).mono ?_
      rintro e w1 ⟨rfl, hB⟩
      go_wp2_with fail
      go_at_call 66
      refine (hC _ (hT.below hB)).mono ?_
      rintro e w' ⟨rfl, rfl⟩
      exact ⟨rfl, hB, .inr ⟨10, Hg.out, rfl⟩⟩
    · have Hg := Lib.hid (show byG y p c = .ok (y.set p c) by rw [hg, if_neg hc])
      have hC := scode_yes c hc
      have Hp := Lib.hid hp
      clear hg hc hp
      go_enter Tryd.func52, Tryd.ntmps52
      go_wp2_with fail
      go_at_call 62
      refine (hO _ hT hS).mono ?_
      rintro e w1 ⟨rfl, hB⟩
      go_wp2_with fail
      go_at_call 66
      refine (hC _ (hT.below hB)).mono ?_
      rintro e w' ⟨rfl, rfl⟩
      go_wp2_with fail
      go_at_call 50
      refine (hCl _ (hS.next hB)).mono ?_
      rintro e w2 ⟨v, rfl, hv, hB2⟩
      obtain ⟨g, cap2, rfl, hgB, hgl, hput⟩ := own_put hv p c Hp.out
      obtain ⟨⟨x0, hc0⟩, hf0, hsl⟩ := hput w2 rfl
      have hSl := hsl w2.heap.size hgl
      have hBf := (below_trans hB hB2).setCell (p := ⟨g, p, none⟩) (Nat.le_trans hB.size hgB) (eB c)
      have hB' := hB
      clear hput hsl hO hC hCl hv hS hB hB2
      go_wp2_with fail
      go_ret
      exact ⟨hBf, .inl ⟨_, _, Hg.out, rfl, ⟨g, cap2, by simp, Nat.le_trans hB'.size hgB⟩, by simpa using hSl⟩⟩
set_option maxRecDepth 100000 in
set_option maxHeartbeats 2000000 in
theorem By1_is (b1 b2 b3 b4 : Nat) (A : Option Addr) (cap : Nat) (y : List UInt8) (z : Int) (c : UInt8) (hreach : y.length ≤ 1000000) (W : World) (hT : Tab W) (hS : Sl eB W.heap.size W (.slice A y.length cap) y) (h1 : W.cell? ⟨b1, 0, none⟩ = some (.slice A y.length cap)) (h2 : W.cell? ⟨b2, 0, none⟩ = some (.int .i64 z)) (h3 : W.cell? ⟨b3, 0, none⟩ = some (eB c)) (h4 : Boxed W b4 22 (.slice none 0 0)) :
    sWork 51 #[.pointer (some ⟨b1, 0, none⟩), .pointer (some ⟨b2, 0, none⟩), .pointer (some ⟨b3, 0, none⟩), .pointer (some ⟨b4, 0, none⟩)] b4 b4 W
      (fun w' => ∃ r v, byG y z c = .ok r ∧ Boxed w' b4 22 v ∧ (∃ g cap, v = .slice (some ⟨g, 0, none⟩) r.length cap ∧ W.heap.size ≤ g) ∧ Sl eB w'.heap.size w' v r) (fun n w' => byG y z c = .error n ∧ Boxed w' b4 22 (.slice none 0 0)) := by
  have hBy := by_any y z c (.slice A y.length cap) W hT hS hreach
  have hl4 := h4.lt
  unfold sWork
  clear hS hT
  go_enter Tryd.func51, Tryd.ntmps51
  go_wp2_with fail
  go_at_call 52
  refine hBy.mono ?_
  rintro e w1 ⟨hB, ⟨r, v, hg, rfl, ⟨g, cap2, rfl, hgl⟩, hv⟩ | ⟨m, hg, rfl⟩⟩
  · have h5 : Boxed w1 b4 22 (.slice none 0 0) := (hB.block _ hl4).trans h4
    have hc5 := h5.cell
    have hf5 := h5.frozen
    have h6 := h5.set (.slice (some ⟨g, 0, none⟩) r.length cap2)
    have hv6 := hv.apart b4 0 (.slice (some ⟨g, 0, none⟩) r.length cap2) (by omega)
    go_wp2_with fail
    go_end0
    exact ⟨kp2_t (kp2_of hB) (kp2_set1 _ _ _ _ _ _), .inl ⟨⟨_, rfl⟩, r, _, hg, h6, ⟨g, cap2, rfl, hgl⟩, by simpa using hv6⟩⟩
  · exact ⟨rfl, kp2_of hB, .inr ⟨m, rfl, hg, (hB.block _ hl4).trans h4⟩⟩
/-- What By does. -/
abbrev ByTells (y : List UInt8) (z : Int) (c : UInt8) (w : World) : Ending → World → Prop := fun e w' => Below w.heap.size w w' ∧ ((∃ r v, byG y z c = .ok r ∧ e = .returned (.tuple #[v, .int .i64 0]) ∧ Sl eB w'.heap.size w' v r) ∨ ∃ m, byG y z c = .error m ∧ e = .returned (.tuple #[.slice none 0 0, .int .i64 m]))
set_option maxRecDepth 100000 in
set_option maxHeartbeats 2000000 in
theorem By_any (y : List UInt8) (z : Int) (c : UInt8) (sv : Value) (w : World) (hT : Tab w) (hS : Sl eB w.heap.size w sv y) (hreach : y.length ≤ 1000000) :
    Calls Tryd.prog 29 #[sv, .int .i64 z, eB c] w (ByTells y z c w) := by
  have hmf : ∀ (fn : Fn) (first cap : Array Value) (w : World), (Instr.makeFunc fn first cap).run Tryd.prog w = .ok (.func fn first cap) w := fun _ _ _ _ => rfl
  obtain ⟨A, cap, rfl⟩ := hS.len
  have hb1 := (((Boxed.new w 22 (.slice A y.length cap)).alloc (.cells #[.int .i64 z] 3)).alloc (.cells #[eB c] 5)).alloc (.cells #[.slice none 0 0] 22)
  have hb2 := ((Boxed.new (w.alloc (.cells #[.slice A y.length cap] 22)) 3 (.int .i64 z)).alloc (.cells #[eB c] 5)).alloc (.cells #[.slice none 0 0] 22)
  have hb3 := (Boxed.new ((w.alloc (.cells #[.slice A y.length cap] 22)).alloc (.cells #[.int .i64 z] 3)) 5 (eB c)).alloc (.cells #[.slice none 0 0] 22)
  have hb4 := Boxed.new (((w.alloc (.cells #[.slice A y.length cap] 22)).alloc (.cells #[.int .i64 z] 3)).alloc (.cells #[eB c] 5)) 22 (.slice none 0 0)
  have hA : Below w.heap.size w ((((w.alloc (.cells #[.slice A y.length cap] 22)).alloc (.cells #[.int .i64 z] 3)).alloc (.cells #[eB c] 5)).alloc (.cells #[.slice none 0 0] 22)) := ((((Below.refl _ w).alloc (Nat.le_refl _) _).alloc (by simp) _).alloc (by simp; omega) _).alloc (by simp; omega) _
  have hs0 : ((((w.alloc (.cells #[.slice A y.length cap] 22)).alloc (.cells #[.int .i64 z] 3)).alloc (.cells #[eB c] 5)).alloc (.cells #[.slice none 0 0] 22)).heap.size = w.heap.size + 4 := by simp
  obtain ⟨W0, hW0⟩ : ∃ W0, (((w.alloc (.cells #[.slice A y.length cap] 22)).alloc (.cells #[.int .i64 z] 3)).alloc (.cells #[eB c] 5)).alloc (.cells #[.slice none 0 0] 22) = W0 := ⟨_, rfl⟩
  rw [World.size_alloc] at hb2
  rw [World.size_alloc, World.size_alloc] at hb3
  rw [World.size_alloc, World.size_alloc, World.size_alloc] at hb4
  rw [hW0] at hb1 hb2 hb3 hb4 hA hs0
  have hA1 := hA.alloc (by omega) (.cells #[.int .i64 0] 24)
  have hwork := By1_is w.heap.size (w.heap.size + 1) (w.heap.size + 1 + 1) (w.heap.size + 1 + 1 + 1) A cap y z c hreach (W0.alloc (.cells #[.int .i64 0] 24)) (hT.below hA1) (hS.next hA1) (hb1.alloc _).cell (hb2.alloc _).cell (hb3.alloc _).cell (hb4.alloc _)
  have hct := scaught_any 51 _ (w.heap.size + 1 + 1 + 1) (w.heap.size + 1 + 1 + 1) W0 (by omega) (by omega) (enters_of Tryd.func51 (by kernel_rfl) rfl) _ _ hwork
  have HW0 := Lib.hid hW0
  clear hwork hb1 hb2 hb3 hb4 hW0 hA1 hS hT
  go_enter Tryd.func29, Tryd.ntmps29
  go_wp2_with fail
  rw [HW0.out]
  go_at_call 46
  refine hct.mono ?_
  rintro e w' ⟨w1, m, hK, rfl, rfl, hlt, hR⟩
  have hBf : Below w.heap.size w (w1.setCell ⟨W0.heap.size, 0, none⟩ (.int .i64 m)) := (below_of_kp2 hK hA (by omega) (by omega) (by omega)).setCell (p := ⟨W0.heap.size, 0, none⟩) (by show w.heap.size ≤ W0.heap.size; omega) _
  clear hct
  rcases hR with ⟨rfl, r, v, hg, hv, ⟨g, cap2, rfl, hgl⟩, hsl⟩ | ⟨hg, hv⟩
  · have hvw := Boxed.set_other (b' := W0.heap.size) (y := .int .i64 0) hv (by omega)
    have hc := hvw.cell
    rw [World.size_alloc] at hgl
    have hsl2 := hsl.apart W0.heap.size 0 (.int .i64 0) (by omega)
    have hsz : (w1.setCell ⟨W0.heap.size, 0, none⟩ (.int .i64 0)).heap.size = w1.heap.size := by simp
    rw [← hsz] at hsl2
    clear hvw hsl hsz hv hlt hK
    generalize w1.setCell ⟨W0.heap.size, 0, none⟩ (.int .i64 0) = w2 at *
    go_wp2_with fail
    go_ret2
    exact ⟨hBf, .inl ⟨r, _, hg, rfl, hsl2⟩⟩
  · have hvw := Boxed.set_other (b' := W0.heap.size) (y := .int .i64 m) hv (by omega)
    have hc := hvw.cell
    clear hvw
    generalize w1.setCell ⟨W0.heap.size, 0, none⟩ (.int .i64 m) = w2 at *
    go_wp2_with fail
    go_ret2
    exact ⟨hBf, .inr ⟨m, hg, rfl⟩⟩
end Go.Proofs.YtmdpodgodhkjdaaDoor
