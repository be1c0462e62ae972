/- Contracts of word.Make and word.Field. -/
import Derived.Test.YtnlndaknljbhcaaDoorWdHZ
namespace Go.Proofs.YtnlndaknljbhcaaDoor
open Go.RowKit Go.Shelf
attribute [local go_sem] Oper.semAt_some run_store_func

theorem sl_set1 {W : World} {v : Value} {xs : List UInt8} {b : Nat} (h : Sl eB W.heap.size W v xs) (hn : ∀ k, v.ownBlock = some k → k ≠ b) (j : Nat) (u : Value) : Sl eB (W.setCell ⟨b, j, none⟩ u).heap.size (W.setCell ⟨b, j, none⟩ u) v xs := by
  have hs : (W.setCell ⟨b, j, none⟩ u).heap.size = W.heap.size := by simp [World.setCell]
  rw [hs]
  obtain ⟨A, c, rfl, hc, hcs⟩ := h
  refine ⟨A, c, rfl, hc, fun h0 => ?_⟩
  obtain ⟨g, off, rfl, hg, hcell⟩ := hcs h0
  have hb := hn g rfl
  exact ⟨g, off, rfl, hg, fun i y hy => (World.cell?_of_block (w := W) (Below.heap_setCell _ _ _ _ (by show g ≠ b; exact hb))).trans (hcell i y hy)⟩
set_option maxRecDepth 100000 in
set_option maxHeartbeats 2000000 in
theorem Make1_is (b1 b3 : Nat) (A : Option Addr) (c : Nat) (x : List UInt8) (W : World) (hT : Tab W) (hTB : TabB W) (hS : Sl eB W.heap.size W (.slice A x.length c) x) (h1 : W.cell? ⟨b1, 0, none⟩ = some (.slice A x.length c)) (h3 : Boxed W b3 22 (.slice none 0 0)) :
    WorkIs 31 #[.pointer (some ⟨b1, 0, none⟩), .pointer (some ⟨b3, 0, none⟩)] b3 W
      (fun w' => ∃ f v, wfG x = .ok f ∧ Boxed w' b3 22 v ∧ Sl eB w'.heap.size w' v (wordL x f) ∧ ∀ k, v.ownBlock = some k → W.heap.size ≤ k) (fun m w' => wfG x = .error m ∧ Boxed w' b3 22 (.slice none 0 0)) := by
  have hM := made_any _ x W hT hTB hS
  have hl := h3.lt
  unfold WorkIs
  go_enter Tryd.func31, Tryd.ntmps31
  go_wp2_with fail
  go_at_call 32
  refine hM.mono ?_
  rintro e w1 ⟨hB, ⟨f, v, hf, rfl, hv, hfr⟩ | ⟨m, hm, rfl⟩⟩
  · have h3' : Boxed w1 b3 22 (.slice none 0 0) := (hB.block _ hl).trans h3
    obtain ⟨Av, cv, e⟩ := hv.len
    have hb3 := h3'.set v
    have hsl := sl_set1 (b := b3) hv (fun k hk => by have := hfr k hk; omega) 0 v
    have hK : Keep W.heap.size b3 W (w1.setCell ⟨b3, 0, none⟩ v) := keep_t (keep_of hB) (keep_set _ _ _ _ _)
    have hc := h3'.cell
    have hfz := h3'.frozen
    have Hx := Lib.hid (And.intro hf (And.intro hb3 (And.intro hsl (And.intro hK hfr))))
    clear hf hb3 hsl hK hfr hv hM
    subst e
    go_wp2_with fail
    go_end0
    exact ⟨Hx.out.2.2.2.1, .inl ⟨⟨_, rfl⟩, f, _, Hx.out.1, Hx.out.2.1, Hx.out.2.2.1, Hx.out.2.2.2.2⟩⟩
  · exact ⟨rfl, keep_of hB, .inr ⟨m, rfl, hm, (hB.block _ hl).trans h3⟩⟩
set_option maxRecDepth 100000 in
set_option maxHeartbeats 2000000 in
theorem WMake_any (sv : Value) (x : List UInt8) (w : World) (hT : Tab w) (hTB : TabB w) (hS : Sl eB w.heap.size w sv x) :
    Calls Tryd.prog 9 #[sv] w fun e w' => Below w.heap.size w w' ∧
      ((∃ f v, wfG x = .ok f ∧ e = .returned (.tuple #[v, .int .i64 0]) ∧ Sl eB w'.heap.size w' v (wordL x f) ∧ ∀ k, v.ownBlock = some k → w.heap.size ≤ k) ∨ ∃ m, wfG x = .error m ∧ e = .returned (.tuple #[.slice none 0 0, .int .i64 m])) := by
  have hmf : ∀ (fn : Fn) (first cap : Array Value) (w : World), (Instr.makeFunc fn first cap).run Tryd.prog w = .ok (.func fn first cap) w := fun _ _ _ _ => rfl
  obtain ⟨A, c, rfl⟩ := hS.len
  have hb1 := (Boxed.new w 22 (.slice A x.length c)).alloc (.cells #[.slice none 0 0] 22)
  have hb3 := Boxed.new (w.alloc (.cells #[.slice A x.length c] 22)) 22 (.slice none 0 0)
  rw [World.size_alloc] at hb3
  have hA : Below w.heap.size w ((w.alloc (.cells #[.slice A x.length c] 22)).alloc (.cells #[.slice none 0 0] 22)) := ((Below.refl _ w).alloc (Nat.le_refl _) _).alloc (by simp) _
  have hs0 : ((w.alloc (.cells #[.slice A x.length c] 22)).alloc (.cells #[.slice none 0 0] 22)).heap.size = w.heap.size + 2 := by simp
  obtain ⟨W0, hW0⟩ : ∃ W0, (w.alloc (.cells #[.slice A x.length c] 22)).alloc (.cells #[.slice none 0 0] 22) = W0 := ⟨_, rfl⟩
  rw [hW0] at hb1 hb3 hA hs0
  have hA4 := below_alloc W0 (.cells #[.int .i64 0] 24)
  have hB4 := below_trans hA hA4
  have hwork := Make1_is w.heap.size (w.heap.size + 1) A c x (W0.alloc (.cells #[.int .i64 0] 24)) (hT.below hB4) (hTB.below hB4) (hS.next hB4) (hb1.alloc _).cell (hb3.alloc _)
  have hct := wcaught_any 31 _ (w.heap.size + 1) W0 (by omega) (enters_of Tryd.func31 (by kernel_rfl) rfl) _ _ hwork
  have HW0 := Lib.hid hW0
  clear hwork hA4 hB4 hb1 hb3 hW0
  go_enter Tryd.func9, Tryd.ntmps9
  go_wp2_with fail
  rw [HW0.out]
  go_at_call 30
  refine hct.mono ?_
  rintro e w' ⟨w1, m, hK, rfl, rfl, hlt, hR⟩
  have hBf : Below w.heap.size w (w1.setCell ⟨W0.heap.size, 0, none⟩ (.int .i64 m)) := (below_of_keep hK hA (by omega) (by omega)).setCell (p := ⟨W0.heap.size, 0, none⟩) (by show w.heap.size ≤ W0.heap.size; omega) _
  clear hct
  rcases hR with ⟨rfl, f, v, hf, hv, hsl, hfr⟩ | ⟨hm, hv⟩
  · have hvw := Boxed.set_other (b' := W0.heap.size) (y := .int .i64 0) hv (by omega)
    have hs2 := sl_set1 (b := W0.heap.size) hsl (fun k hk => by have := hfr k hk; simp at this; omega) 0 (.int .i64 0)
    have hfw : ∀ k, v.ownBlock = some k → w.heap.size ≤ k := fun k hk => by
      have := hfr k hk
      simp at this
      omega
    have hc := hvw.cell
    obtain ⟨Av, cv, e⟩ := hsl.len
    have Hx := Lib.hid (And.intro hf (And.intro hs2 hfw))
    clear hsl hvw hfr hf hs2 hfw
    generalize w1.setCell ⟨W0.heap.size, 0, none⟩ (.int .i64 0) = w2 at *
    subst e
    go_wp2_with fail
    go_ret2
    exact ⟨hBf, .inl ⟨f, _, Hx.out.1, rfl, Hx.out.2.1, Hx.out.2.2⟩⟩
  · have hvw := Boxed.set_other (b' := W0.heap.size) (y := .int .i64 m) hv (by omega)
    have hc := hvw.cell
    have Hm := Lib.hid hm
    clear hvw hm
    generalize w1.setCell ⟨W0.heap.size, 0, none⟩ (.int .i64 m) = w2 at *
    go_wp2_with fail
    go_ret2
    exact ⟨hBf, .inr ⟨m, Hm.out, rfl⟩⟩
set_option maxRecDepth 100000 in
set_option maxHeartbeats 2000000 in
theorem Field1_is (b1 b3 : Nat) (A : Option Addr) (c : Nat) (x : List UInt8) (W : World) (hT : Tab W) (hTB : TabB W) (hS : Sl eB W.heap.size W (.slice A x.length c) x) (h1 : W.cell? ⟨b1, 0, none⟩ = some (.slice A x.length c)) (h3 : Boxed W b3 22 (.slice none 0 0)) :
    WorkIs 33 #[.pointer (some ⟨b1, 0, none⟩), .pointer (some ⟨b3, 0, none⟩)] b3 W
      (fun w' => ∃ f v, wfG x = .ok f ∧ Boxed w' b3 22 v ∧ Sl eB w'.heap.size w' v f ∧ ∀ k, v.ownBlock = some k → W.heap.size ≤ k) (fun m w' => wfG x = .error m ∧ Boxed w' b3 22 (.slice none 0 0)) := by
  have hM := field_any _ x W hT hTB hS
  have hl := h3.lt
  unfold WorkIs
  go_enter Tryd.func33, Tryd.ntmps33
  go_wp2_with fail
  go_at_call 34
  refine hM.mono ?_
  rintro e w1 ⟨hB, ⟨f, v, hf, rfl, hv, hfr⟩ | ⟨m, hm, rfl⟩⟩
  · have h3' : Boxed w1 b3 22 (.slice none 0 0) := (hB.block _ hl).trans h3
    obtain ⟨Av, cv, e⟩ := hv.len
    have hb3 := h3'.set v
    have hsl := sl_set1 (b := b3) hv (fun k hk => by have := hfr k hk; omega) 0 v
    have hK : Keep W.heap.size b3 W (w1.setCell ⟨b3, 0, none⟩ v) := keep_t (keep_of hB) (keep_set _ _ _ _ _)
    have hc := h3'.cell
    have hfz := h3'.frozen
    have Hx := Lib.hid (And.intro hf (And.intro hb3 (And.intro hsl (And.intro hK hfr))))
    clear hf hb3 hsl hK hfr hv hM
    subst e
    go_wp2_with fail
    go_end0
    exact ⟨Hx.out.2.2.2.1, .inl ⟨⟨_, rfl⟩, f, _, Hx.out.1, Hx.out.2.1, Hx.out.2.2.1, Hx.out.2.2.2.2⟩⟩
  · exact ⟨rfl, keep_of hB, .inr ⟨m, rfl, hm, (hB.block _ hl).trans h3⟩⟩
set_option maxRecDepth 100000 in
set_option maxHeartbeats 2000000 in
theorem WField_any (sv : Value) (x : List UInt8) (w : World) (hT : Tab w) (hTB : TabB w) (hS : Sl eB w.heap.size w sv x) :
    Calls Tryd.prog 11 #[sv] w fun e w' => Below w.heap.size w w' ∧
      ((∃ f v, wfG x = .ok f ∧ e = .returned (.tuple #[v, .int .i64 0]) ∧ Sl eB w'.heap.size w' v f ∧ ∀ k, v.ownBlock = some k → w.heap.size ≤ k) ∨ ∃ m, wfG x = .error m ∧ e = .returned (.tuple #[.slice none 0 0, .int .i64 m])) := by
  have hmf : ∀ (fn : Fn) (first cap : Array Value) (w : World), (Instr.makeFunc fn first cap).run Tryd.prog w = .ok (.func fn first cap) w := fun _ _ _ _ => rfl
  obtain ⟨A, c, rfl⟩ := hS.len
  have hb1 := (Boxed.new w 22 (.slice A x.length c)).alloc (.cells #[.slice none 0 0] 22)
  have hb3 := Boxed.new (w.alloc (.cells #[.slice A x.length c] 22)) 22 (.slice none 0 0)
  rw [World.size_alloc] at hb3
  have hA : Below w.heap.size w ((w.alloc (.cells #[.slice A x.length c] 22)).alloc (.cells #[.slice none 0 0] 22)) := ((Below.refl _ w).alloc (Nat.le_refl _) _).alloc (by simp) _
  have hs0 : ((w.alloc (.cells #[.slice A x.length c] 22)).alloc (.cells #[.slice none 0 0] 22)).heap.size = w.heap.size + 2 := by simp
  obtain ⟨W0, hW0⟩ : ∃ W0, (w.alloc (.cells #[.slice A x.length c] 22)).alloc (.cells #[.slice none 0 0] 22) = W0 := ⟨_, rfl⟩
  rw [hW0] at hb1 hb3 hA hs0
  have hA4 := below_alloc W0 (.cells #[.int .i64 0] 24)
  have hB4 := below_trans hA hA4
  have hwork := Field1_is w.heap.size (w.heap.size + 1) A c x (W0.alloc (.cells #[.int .i64 0] 24)) (hT.below hB4) (hTB.below hB4) (hS.next hB4) (hb1.alloc _).cell (hb3.alloc _)
  have hct := wcaught_any 33 _ (w.heap.size + 1) W0 (by omega) (enters_of Tryd.func33 (by kernel_rfl) rfl) _ _ hwork
  have HW0 := Lib.hid hW0
  clear hwork hA4 hB4 hb1 hb3 hW0
  go_enter Tryd.func11, Tryd.ntmps11
  go_wp2_with fail
  rw [HW0.out]
  go_at_call 30
  refine hct.mono ?_
  rintro e w' ⟨w1, m, hK, rfl, rfl, hlt, hR⟩
  have hBf : Below w.heap.size w (w1.setCell ⟨W0.heap.size, 0, none⟩ (.int .i64 m)) := (below_of_keep hK hA (by omega) (by omega)).setCell (p := ⟨W0.heap.size, 0, none⟩) (by show w.heap.size ≤ W0.heap.size; omega) _
  clear hct
  rcases hR with ⟨rfl, f, v, hf, hv, hsl, hfr⟩ | ⟨hm, hv⟩
  · have hvw := Boxed.set_other (b' := W0.heap.size) (y := .int .i64 0) hv (by omega)
    have hs2 := sl_set1 (b := W0.heap.size) hsl (fun k hk => by have := hfr k hk; simp at this; omega) 0 (.int .i64 0)
    have hfw : ∀ k, v.ownBlock = some k → w.heap.size ≤ k := fun k hk => by
      have := hfr k hk
      simp at this
      omega
    have hc := hvw.cell
    obtain ⟨Av, cv, e⟩ := hsl.len
    have Hx := Lib.hid (And.intro hf (And.intro hs2 hfw))
    clear hsl hvw hfr hf hs2 hfw
    generalize w1.setCell ⟨W0.heap.size, 0, none⟩ (.int .i64 0) = w2 at *
    subst e
    go_wp2_with fail
    go_ret2
    exact ⟨hBf, .inl ⟨f, _, Hx.out.1, rfl, Hx.out.2.1, Hx.out.2.2⟩⟩
  · have hvw := Boxed.set_other (b' := W0.heap.size) (y := .int .i64 m) hv (by omega)
    have hc := hvw.cell
    have Hm := Lib.hid hm
    clear hvw hm
    generalize w1.setCell ⟨W0.heap.size, 0, none⟩ (.int .i64 m) = w2 at *
    go_wp2_with fail
    go_ret2
    exact ⟨hBf, .inr ⟨m, Hm.out, rfl⟩⟩
end Go.Proofs.YtnlndaknljbhcaaDoor
