import Derived.Deep.RegionWith
import Derived.Test.YtkibigbcdlilkaaGreatDoorSwEY
namespace Go.Proofs.YtkibigbcdlilkaaGreatDoor.Sw
open Go.RowKit Go.Shelf
attribute [local go_sem] Oper.semAt_some run_store_func
theorem find_any (y : List UInt8) (s u : Int) (hreach : y.length ≤ 1000000) (sv : Value) (w : World) (hT : Tab w) (hS : Sl eB w.heap.size w sv y) :
    Calls Tryz.prog 120 #[sv, .int .i64 s, .int .i64 u] w (FindIs y s u w) := by
  rcases sums_cases y with ⟨_, e⟩ | ⟨_, _, _, e⟩ | ⟨h2, h1, h4, e⟩
  · exact find_bad y s u 2 (by omega) e hreach sv w hT hS
  · exact find_bad y s u 10 (by omega) e hreach sv w hT hS
  · by_cases hn : sS y y.length % 4 = s ∧ sW y y.length % (6 * y.length + 1) = u
    · obtain ⟨rfl, rfl⟩ := hn
      exact find_same y _ _ _ e hreach sv w hT hS
    · by_cases hr : 0 ≤ s ∧ s < 4 ∧ 0 ≤ u ∧ u ≤ 6 * y.length
      · exact find_main y s u _ _ _ e hn hr.1 hr.2.1 hr.2.2.1 hr.2.2.2 h4 h2 h1 rfl rfl sv w hT hS
      · exact find_none y s u _ _ _ e hn hr hreach sv w hT hS
set_option maxRecDepth 100000 in
set_option maxHeartbeats 2000000 in
theorem Find1_is (b1 b2 b3 b4 b5 : Nat) (A : Option Addr) (cap : Nat) (y : List UInt8) (s u : Int) (hreach : y.length ≤ 1000000) (W : World) (hT : Tab W) (hS : Sl eB W.heap.size W (.slice A y.length cap) y) (h1 : W.cell? ⟨b1, 0, none⟩ = some (.slice A y.length cap)) (h2 : W.cell? ⟨b2, 0, none⟩ = some (.int .i64 s)) (h3 : W.cell? ⟨b3, 0, none⟩ = some (.int .i64 u)) (h4 : Boxed W b4 3 (.int .i64 0)) (h5 : Boxed W b5 5 (.int .u8 0)) (hne : b4 ≠ b5) :
    sWork 119 #[.pointer (some ⟨b1, 0, none⟩), .pointer (some ⟨b2, 0, none⟩), .pointer (some ⟨b3, 0, none⟩), .pointer (some ⟨b4, 0, none⟩), .pointer (some ⟨b5, 0, none⟩)] b4 b5 W
      (fun w' => ∃ z c, findG y s u = .ok (z, c) ∧ Boxed w' b4 3 (.int .i64 z) ∧ Boxed w' b5 5 (eB c)) (fun n w' => findG y s u = .error n ∧ Boxed w' b4 3 (.int .i64 0) ∧ Boxed w' b5 5 (.int .u8 0)) := by
  have hF := find_any y s u hreach (.slice A y.length cap) W hT hS
  have hl4 := h4.lt
  have hl5 := h5.lt
  unfold sWork
  clear hS hT
  go_enter Tryz.func119, Tryz.ntmps119
  go_wp2_with fail
  go_at_call 120
  refine hF.mono ?_
  rintro e w1 ⟨hB, ⟨z, c, hg, rfl⟩ | ⟨m, hg, rfl⟩⟩
  · have g4 : Boxed w1 b4 3 (.int .i64 0) := (hB.block _ hl4).trans h4
    have g5 : Boxed w1 b5 5 (.int .u8 0) := (hB.block _ hl5).trans h5
    have c4 := g4.cell
    have c5 := g5.cell
    have f4 := g4.frozen
    have f5 := g5.frozen
    have q4 := Boxed.set_other (b' := b5) (y := eB c) (g4.set (.int .i64 z)) hne
    have r5 := Boxed.set_other (b' := b4) (y := .int .i64 z) g5 (fun e => hne e.symm)
    have c5' := r5.cell
    have f5' := r5.frozen
    have q5 := r5.set (eB c)
    go_wp2_with fail
    go_end0
    exact ⟨kp2_t (kp2_of hB) (kp2_t (kp2_set1 _ _ _ _ _ _) (kp2_set2 _ _ _ _ _ _)), .inl ⟨⟨_, rfl⟩, z, c, hg, q4, q5⟩⟩
  · exact ⟨rfl, kp2_of hB, .inr ⟨m, rfl, hg, (hB.block _ hl4).trans h4, (hB.block _ hl5).trans h5⟩⟩
abbrev FindTells (y : List UInt8) (s u : Int) (w : World) : Ending → World → Prop := fun e w' => Below w.heap.size w w' ∧ ((∃ z c, findG y s u = .ok (z, c) ∧ e = .returned (.tuple #[.int .i64 z, eB c, .int .i64 0])) ∨ ∃ m, findG y s u = .error m ∧ e = .returned (.tuple #[.int .i64 0, eB 0, .int .i64 m]))
set_option maxRecDepth 100000 in
set_option maxHeartbeats 2000000 in
theorem Find_any (y : List UInt8) (s u : Int) (sv : Value) (w : World) (hT : Tab w) (hS : Sl eB w.heap.size w sv y) (hreach : y.length ≤ 1000000) :
    Calls Tryz.prog 96 #[sv, .int .i64 s, .int .i64 u] w (FindTells y s u w) := by
  have hmf : ∀ (fn : Fn) (first cap : Array Value) (w : World), (Instr.makeFunc fn first cap).run Tryz.prog w = .ok (.func fn first cap) w := fun _ _ _ _ => rfl
  obtain ⟨A, cap, rfl⟩ := hS.len
  have hb1 := ((((Boxed.new w 22 (.slice A y.length cap)).alloc (.cells #[.int .i64 s] 3)).alloc (.cells #[.int .i64 u] 3)).alloc (.cells #[.int .i64 0] 3)).alloc (.cells #[.int .u8 0] 5)
  have hb2 := (((Boxed.new (w.alloc (.cells #[.slice A y.length cap] 22)) 3 (.int .i64 s)).alloc (.cells #[.int .i64 u] 3)).alloc (.cells #[.int .i64 0] 3)).alloc (.cells #[.int .u8 0] 5)
  have hb3 := ((Boxed.new ((w.alloc (.cells #[.slice A y.length cap] 22)).alloc (.cells #[.int .i64 s] 3)) 3 (.int .i64 u)).alloc (.cells #[.int .i64 0] 3)).alloc (.cells #[.int .u8 0] 5)
  have hb4 := (Boxed.new (((w.alloc (.cells #[.slice A y.length cap] 22)).alloc (.cells #[.int .i64 s] 3)).alloc (.cells #[.int .i64 u] 3)) 3 (.int .i64 0)).alloc (.cells #[.int .u8 0] 5)
  have hb5 := Boxed.new ((((w.alloc (.cells #[.slice A y.length cap] 22)).alloc (.cells #[.int .i64 s] 3)).alloc (.cells #[.int .i64 u] 3)).alloc (.cells #[.int .i64 0] 3)) 5 (.int .u8 0)
  obtain ⟨W0, hW0⟩ : ∃ W0, ((((w.alloc (.cells #[.slice A y.length cap] 22)).alloc (.cells #[.int .i64 s] 3)).alloc (.cells #[.int .i64 u] 3)).alloc (.cells #[.int .i64 0] 3)).alloc (.cells #[.int .u8 0] 5) = W0 := ⟨_, rfl⟩
  have hA : Below w.heap.size w W0 := by rw [← hW0]; exact (((((Below.refl _ w).alloc (Nat.le_refl _) _).alloc (by simp) _).alloc (by simp; omega) _).alloc (by simp; omega) _).alloc (by simp; omega) _
  have hs0 : W0.heap.size = w.heap.size + 5 := by rw [← hW0]; simp
  rw [World.size_alloc] at hb2
  rw [World.size_alloc, World.size_alloc] at hb3
  rw [World.size_alloc, World.size_alloc, World.size_alloc] at hb4
  rw [World.size_alloc, World.size_alloc, World.size_alloc, World.size_alloc] at hb5
  rw [hW0] at hb1 hb2 hb3 hb4 hb5
  have hA1 := hA.alloc (by omega) (.cells #[.int .i64 0] 24)
  have hwork := Find1_is w.heap.size (w.heap.size + 1) (w.heap.size + 1 + 1) (w.heap.size + 1 + 1 + 1) (w.heap.size + 1 + 1 + 1 + 1) A cap y s u hreach (W0.alloc (.cells #[.int .i64 0] 24)) (hT.below hA1) (hS.next hA1) (hb1.alloc _).cell (hb2.alloc _).cell (hb3.alloc _).cell (hb4.alloc _) (hb5.alloc _) (by omega)
  have hct := scaught_any 119 _ (w.heap.size + 1 + 1 + 1) (w.heap.size + 1 + 1 + 1 + 1) W0 (by omega) (by omega) (enters_of Tryz.func119 (by kernel_rfl) rfl) _ _ hwork
  have HW0 := Lib.hid hW0
  clear hwork hb1 hb2 hb3 hb4 hb5 hW0 hA1 hS hT
  go_enter Tryz.func96, Tryz.ntmps96
  go_wp2_with fail
  rw [HW0.out]
  go_at_call 118
  refine hct.mono ?_
  rintro e w' ⟨w1, m, hK, rfl, rfl, hlt, hR⟩
  have hBf : Below w.heap.size w (w1.setCell ⟨W0.heap.size, 0, none⟩ (.int .i64 m)) := (below_of_kp2 hK hA (by omega) (by omega) (by omega)).setCell (p := ⟨W0.heap.size, 0, none⟩) (by show w.heap.size ≤ W0.heap.size; omega) _
  clear hct
  obtain ⟨z, c, hv4, hv5, HR⟩ : ∃ z c, Boxed w1 (w.heap.size + 1 + 1 + 1) 3 (.int .i64 z) ∧ Boxed w1 (w.heap.size + 1 + 1 + 1 + 1) 5 (eB c) ∧ Hid ((m = 0 ∧ findG y s u = .ok (z, c)) ∨ (findG y s u = .error m ∧ z = 0 ∧ c = 0)) := by
   rcases hR with ⟨rfl, z, c, hg, h4, h5⟩ | ⟨hg, h4, h5⟩
   · exact ⟨z, c, h4, h5, Lib.hid (.inl ⟨rfl, hg⟩)⟩
   · exact ⟨0, 0, h4, h5, Lib.hid (.inr ⟨hg, rfl, rfl⟩)⟩
  have g4 := Boxed.set_other (b' := W0.heap.size) (y := .int .i64 m) hv4 (by omega)
  have g5 := Boxed.set_other (b' := W0.heap.size) (y := .int .i64 m) hv5 (by omega)
  clear hR hv4 hv5
  generalize w1.setCell ⟨W0.heap.size, 0, none⟩ (.int .i64 m) = w2 at *
  have c4 := g4.cell
  have c5 := g5.cell
  have f4 := g4.frozen
  have f5 := g5.frozen
  have c4d : w2.drew.cell? ⟨w.heap.size + 1 + 1 + 1, 0, none⟩ = some (.int .i64 z) := g4.cell
  have c5d : w2.drew.cell? ⟨w.heap.size + 1 + 1 + 1 + 1, 0, none⟩ = some (eB c) := g5.cell
  have f4d : w2.drew.frozen? ⟨w.heap.size + 1 + 1 + 1, 0, none⟩ = false := g4.frozen
  have f5d : w2.drew.frozen? ⟨w.heap.size + 1 + 1 + 1 + 1, 0, none⟩ = false := g5.frozen
  have q4 := (Boxed.set_other (b' := w.heap.size + 1 + 1 + 1 + 1) (y := eB c) (g4.set (.int .i64 z)) (by omega)).cell
  have q5 := ((Boxed.set_other (b' := w.heap.size + 1 + 1 + 1) (y := .int .i64 z) g5 (by omega)).set (eB c)).cell
  have n1 := ((hBf.setCell (p := ⟨w.heap.size + 1 + 1 + 1, 0, none⟩) (by show w.heap.size ≤ w.heap.size + 1 + 1 + 1; omega) (.int .i64 z)).setCell (p := ⟨w.heap.size + 1 + 1 + 1 + 1, 0, none⟩) (by show w.heap.size ≤ w.heap.size + 1 + 1 + 1 + 1; omega) (eB c))
  have q4 : ((w2.setCell ⟨w.heap.size + 1 + 1 + 1, 0, none⟩ (.int .i64 z)).setCell ⟨w.heap.size + 1 + 1 + 1 + 1, 0, none⟩ (eB c)).drew.cell? ⟨w.heap.size + 1 + 1 + 1, 0, none⟩ = some (.int .i64 z) := q4
  have q5 : ((w2.setCell ⟨w.heap.size + 1 + 1 + 1, 0, none⟩ (.int .i64 z)).setCell ⟨w.heap.size + 1 + 1 + 1 + 1, 0, none⟩ (eB c)).drew.cell? ⟨w.heap.size + 1 + 1 + 1 + 1, 0, none⟩ = some (eB c) := q5
  have n1 : Below w.heap.size w ((w2.setCell ⟨w.heap.size + 1 + 1 + 1, 0, none⟩ (.int .i64 z)).setCell ⟨w.heap.size + 1 + 1 + 1 + 1, 0, none⟩ (eB c)).drew := n1.trans ⟨rfl, rfl, rfl, Nat.le_refl _, fun _ _ => rfl⟩
  go_wp2_with fail
  go_region_with (fail)
  all_goals
   generalize ((w2.setCell ⟨w.heap.size + 1 + 1 + 1, 0, none⟩ (.int .i64 z)).setCell ⟨w.heap.size + 1 + 1 + 1 + 1, 0, none⟩ (.int .u8 c.toNat)).drew = w9 at *
   go_wp2_with fail
   refine bodyPost_ret (v := .tuple #[.int .i64 z, eB c, .int .i64 m]) ?_ rfl ⟨n1, ?_⟩
   · simp [results, Tryz.f96, go_sem, q4, q5]
   · rcases HR.out with ⟨rfl, hg⟩ | ⟨hg, rfl, rfl⟩
     · exact .inl ⟨z, c, hg, rfl⟩
     · exact .inr ⟨m, hg, rfl⟩
abbrev SwapTells (y : List UInt8) (s u : Int) (w : World) : Ending → World → Prop := fun e w' => Below w.heap.size w w' ∧ ((∃ r v, swapG y s u = .ok r ∧ e = .returned (.tuple #[v, .int .i64 0]) ∧ Sl eB w'.heap.size w' v r) ∨ ∃ m, swapG y s u = .error m ∧ e = .returned (.tuple #[.slice none 0 0, .int .i64 m]))
theorem findG_err (y : List UInt8) (s u m : Int) (h : findG y s u = .error m) : m ≠ 0 := by
 unfold findG at h
 rcases sums_cases y with ⟨_, e⟩ | ⟨_, _, _, e⟩ | ⟨_, _, _, e⟩
 · rw [e] at h; cases h; omega
 · rw [e] at h; cases h; omega
 · rw [e] at h
   simp only at h
   split at h
   · cases h
   · split at h
     · cases h; omega
     · split at h
       · cases h; omega
       · cases h
set_option maxRecDepth 100000 in
set_option maxHeartbeats 2000000 in
theorem Swap_any (y : List UInt8) (s u : Int) (sv : Value) (w : World) (hT : Tab w) (hS : Sl eB w.heap.size w sv y) (hreach : y.length ≤ 1000000) :
    Calls Tryz.prog 84 #[sv, .int .i64 s, .int .i64 u] w (SwapTells y s u w) := by
  obtain ⟨A, cap, rfl⟩ := hS.len
  have hF := Find_any y s u (.slice A y.length cap) w hT hS hreach
  have hBy := fun z c w hT hS => By_any y z c (.slice A y.length cap) w hT hS hreach
  have hCl := fun w h => SClone_any (.slice A y.length cap) y (by omega) w h
  cases hg : findG y s u with
  | error m =>
    have Hg := Lib.hid (show swapG y s u = .error m by rw [swapG, hg])
    have hm := findG_err y s u m hg
    have hm' : (m != 0) = true := by simpa using hm
    have hF' : Calls Tryz.prog 96 #[.slice A y.length cap, .int .i64 s, .int .i64 u] w fun e w' => e = .returned (.tuple #[.int .i64 0, eB 0, .int .i64 m]) ∧ Below w.heap.size w w' := by
     refine hF.mono ?_
     rintro e w' ⟨hB, ⟨z, c, h, rfl⟩ | ⟨m', h, rfl⟩⟩
     · rw [hg] at h; cases h
     · rw [hg] at h; cases h; exact ⟨rfl, hB⟩
    clear hF hBy hCl hm hg
    go_enter Tryz.func84, Tryz.ntmps84
    go_wp2_with fail
    go_at_call 96
    refine hF'.mono ?_
    rintro e w1 ⟨rfl, hB⟩
    go_wp2_with fail
    go_ret2
    exact ⟨hB, .inr ⟨m, Hg.out, rfl⟩⟩
  | ok r =>
    obtain ⟨z, c⟩ := r
    have hF' : Calls Tryz.prog 96 #[.slice A y.length cap, .int .i64 s, .int .i64 u] w fun e w' => e = .returned (.tuple #[.int .i64 z, eB c, .int .i64 0]) ∧ Below w.heap.size w w' := by
     refine hF.mono ?_
     rintro e w' ⟨hB, ⟨z', c', h, rfl⟩ | ⟨m', h, rfl⟩⟩
     · rw [hg] at h; cases h; exact ⟨rfl, hB⟩
     · rw [hg] at h; cases h
    by_cases hz : z = -1
    · have Hg := Lib.hid (show swapG y s u = .ok y by rw [swapG, hg]; simp [hz])
      have hz' : (z == -1) = true := by simpa using hz
      clear hF hBy hg hz
      go_enter Tryz.func84, Tryz.ntmps84
      go_wp2_with fail
      go_at_call 96
      refine hF'.mono ?_
      rintro e w1 ⟨rfl, hB⟩
      go_wp2_with fail
      go_at_call 97
      refine (hCl _ (hS.next hB)).mono ?_
      rintro e w2 ⟨v, rfl, hv, hB2⟩
      go_wp2_with fail
      go_ret2
      exact ⟨below_trans hB hB2, .inl ⟨y, v, Hg.out, rfl, hv.sl⟩⟩
    · have Hg := Lib.hid (show swapG y s u = byG y z c by rw [swapG, hg]; simp [hz])
      have hz' : (z == -1) = false := by simpa using hz
      clear hF hCl hg hz
      go_enter Tryz.func84, Tryz.ntmps84
      go_wp2_with fail
      go_at_call 96
      refine hF'.mono ?_
      rintro e w1 ⟨rfl, hB⟩
      go_wp2_with fail
      go_at_call 98
      refine (hBy z c _ (hT.below hB) (hS.next hB)).mono ?_
      rintro e w2 ⟨hB2, ⟨r, v, h, rfl, hv⟩ | ⟨m, h, rfl⟩⟩
      · go_wp2_with fail
        go_ret2
        exact ⟨below_trans hB hB2, .inl ⟨r, v, by rw [Hg.out]; exact h, rfl, hv⟩⟩
      · go_wp2_with fail
        go_ret2
        exact ⟨below_trans hB hB2, .inr ⟨m, by rw [Hg.out]; exact h, rfl⟩⟩
end Go.Proofs.YtkibigbcdlilkaaGreatDoor.Sw
namespace Go.Proofs.YtkibigbcdlilkaaGreatDoor.Sw
open Go.RowKit Go.Shelf
theorem byG_ok (y : List UInt8) (p : Nat) (c : UInt8) (h2 : 2 ≤ y.length) (h1 : y.length ≤ 1000) (hy : FourL y) (hp : p < y.length) (hc : codeOf c.toNat ≠ -1) : byG y p c = .ok (y.set p c) := by
 rw [byG, if_neg (by omega), four_sums y h2 h1 hy]
 simp only [if_neg hc, Int.toNat_natCast]
theorem swapG_cases (y : List UInt8) (s u : Int) (h2 : 2 ≤ y.length) (h1 : y.length ≤ 1000) (hy : FourL y) (s0 : 0 ≤ s) (s4 : s < 4) (u0 : 0 ≤ u) (u6 : u ≤ 6 * y.length) :
    (∃ p c, p < y.length ∧ codeOf c.toNat ≠ -1 ∧ swapG y s u = .ok (y.set p c) ∧ sS (y.set p c) y.length % 4 = s ∧ sW (y.set p c) y.length % (6 * y.length + 1) = u) ∨
    (swapG y s u = .error 130 ∧ ∀ p c, p < y.length → codeOf c.toNat ≠ -1 → ¬ (sS (y.set p c) y.length % 4 = s ∧ sW (y.set p c) y.length % (6 * y.length + 1) = u)) := by
  by_cases hsame : sS y y.length % 4 = s ∧ sW y y.length % (6 * y.length + 1) = u
  · refine .inl ⟨0, atB y 0, by omega, hy 0 (by omega), ?_⟩
    rw [set_same y 0 (by omega)]
    refine ⟨?_, hsame.1, hsame.2⟩
    rw [swapG, findG, four_sums y h2 h1 hy]
    simp only [if_pos hsame]
    simp
  · have hf : findG y s u = match (List.range y.length).find? (hitB y s u) with
        | none => .error 130
        | some p => .ok ((p : Int), letB y s p) := by
      rw [findG, four_sums y h2 h1 hy]
      simp only [if_neg hsame]
      rw [if_neg (by omega)]
      rfl
    cases hq : (List.range y.length).find? (hitB y s u) with
    | none =>
      rw [hq] at hf
      refine .inr ⟨by rw [swapG, hf], fun p c hp hc hh => ?_⟩
      have h3 := (hit_only y hy s u p c hp hc u0 u6 hh.1 hh.2).1
      have h4 := List.find?_eq_none.1 hq p (by simpa using hp)
      exact h4 h3
    | some p =>
      rw [hq] at hf
      have hp : p < y.length := by simpa using List.mem_of_find?_eq_some hq
      have hh := List.find?_some hq
      refine .inl ⟨p, letB y s p, hp, letterOf_ok _, ?_, letB_S y s p hp s0 s4, (hit_iff y s u p hp u0 u6).1 hh⟩
      rw [swapG, hf]
      simp only
      rw [if_neg (by omega), byG_ok y p (letB y s p) h2 h1 hy hp (letterOf_ok _)]
end Go.Proofs.YtkibigbcdlilkaaGreatDoor.Sw
