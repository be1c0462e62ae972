/- Contract of sums.Pack. -/
import Derived.Test.YtheealkoooiloaaDoorSuI
namespace Go.Proofs.YtheealkoooiloaaDoor
open Go.RowKit Go.Shelf
attribute [local go_sem] Oper.semAt_some run_store_func

theorem rightB_nat {a b c n : Int} (h : rightB a b c n = true) : ∃ a' b' c' n' : Nat, a = a' ∧ b = b' ∧ c = c' ∧ n = n' ∧ 2 ≤ n' ∧ n' ≤ 1000 ∧ a' < n' ∧ b' < 4 ∧ c' ≤ 6 * n' := by
  unfold rightB mayB at h
  simp only [Bool.and_eq_true, decide_eq_true_eq] at h
  exact ⟨a.toNat, b.toNat, c.toNat, n.toNat, by omega, by omega, by omega, by omega, by omega, by omega, by omega, by omega, by omega⟩
theorem own_shape {W : World} {base : Nat} {e : TypeId} {v : Value} {n : Nat} {xs : List Value} (h : W.ownsRow base e 1 v n xs) : ∃ A l c, v = .slice A l c := by
  rcases h.2 with ⟨rfl, _⟩ | ⟨g, cap, cur, rfl, _⟩
  · exact ⟨_, _, _, rfl⟩
  · exact ⟨_, _, _, rfl⟩
set_option maxRecDepth 100000 in
set_option maxHeartbeats 2000000 in
theorem Pack1_no (b1 b2 b3 : Nat) (a b c n : Int) (hbad : rightB a b c n = false) (W : World) (h1 : Rowed W b1 24 (c3 a b c)) (h2 : W.cell? ⟨b2, 0, none⟩ = some (.int .i64 n)) (h3 : Boxed W b3 22 (.slice none 0 0)) :
    WorkIs 28 #[.pointer (some ⟨b1, 0, none⟩), .pointer (some ⟨b2, 0, none⟩), .pointer (some ⟨b3, 0, none⟩)] b3 W
      (fun _ => False) (fun m w' => m = 2 ∧ Boxed w' b3 22 (.slice none 0 0)) := by
  have hR := fun w => Right_any a b c n w
  rw [hbad] at hR
  have hl := h3.lt
  clear hbad
  unfold WorkIs
  go_enter Tryd.func28, Tryd.ntmps28
  go_wp2_with (refine wpList_load_row rfl 24 (.tmp 0) rfl b1 rfl _ (c3 a b c) _ _ h1 Tryd.underlying24 rfl (size_c3 a b c) ?_)
  go_at_call 17
  refine (hR _).mono ?_
  rintro e w1 ⟨rfl, hB⟩
  go_wp2_with fail
  go_at_call 29
  refine (must_not _).mono ?_
  rintro e w' ⟨rfl, rfl⟩
  exact ⟨rfl, keep_of hB, .inr ⟨2, rfl, rfl, (hB.block _ hl).trans h3⟩⟩
set_option maxRecDepth 100000 in
set_option maxHeartbeats 2000000 in
theorem Pack1_yes (b1 b2 b3 : Nat) (a b c n : Nat) (hn2 : 2 ≤ n) (hn1 : n ≤ 1000) (hok : rightB a b c n = true) (W : World) (h1 : Rowed W b1 24 (c3 a b c)) (h2 : W.cell? ⟨b2, 0, none⟩ = some (.int .i64 n)) (h2l : b2 < W.heap.size) (h3 : Boxed W b3 22 (.slice none 0 0)) :
    WorkIs 28 #[.pointer (some ⟨b1, 0, none⟩), .pointer (some ⟨b2, 0, none⟩), .pointer (some ⟨b3, 0, none⟩)] b3 W
      (fun w' => ∃ v, Boxed w' b3 22 v ∧ w'.ownsRow 0 5 1 v (longN n) ((packL a b c n).map eB) ∧ ∀ k, v.ownBlock = some k → W.heap.size ≤ k) (fun _ _ => False) := by
  have hR := fun w => Right_any a b c n w
  rw [hok] at hR
  have hP := fun w => pack_any a b c n hn2 hn1 w
  have hl := h3.lt
  clear hok hn2 hn1
  generalize longN n = L at *
  generalize packL a b c n = PL at *
  unfold WorkIs
  go_enter Tryd.func28, Tryd.ntmps28
  go_wp2_with (refine wpList_load_row rfl 24 (.tmp 0) rfl b1 rfl _ (c3 a b c) _ _ h1 Tryd.underlying24 rfl (size_c3 a b c) ?_)
  go_at_call 17
  refine (hR _).mono ?_
  rintro e w1 ⟨rfl, hB⟩
  have h1' := h1.below hB h1.lt
  have h2' := (hB.cell (p := ⟨b2, 0, none⟩) h2l).trans h2
  have h3' : Boxed w1 b3 22 (.slice none 0 0) := (hB.block _ hl).trans h3
  clear hR
  go_wp2_with fail
  go_at_call 29
  refine (must_ok _).mono ?_
  rintro e w' ⟨rfl, rfl⟩
  go_wp2_with (refine wpList_load_row rfl 24 (.tmp 0) rfl b1 rfl _ (c3 a b c) _ _ h1' Tryd.underlying24 rfl (size_c3 a b c) ?_)
  go_at_call 30
  refine (hP _).mono ?_
  rintro e w2 ⟨v, rfl, hv, hB2, hfr⟩
  have h3'' : Boxed w2 b3 22 (.slice none 0 0) := (hB2.block _ h3'.lt).trans h3'
  have hnr := h3''.not_row (by decide) hv
  obtain ⟨A, l, cp, rfl⟩ := own_shape hv
  have hb3 := h3''.set (.slice A l cp)
  have hv3 := hv.kept (grownBy_setCell' w2 b3 (.slice A l cp)) (.inr hnr.symm)
  have hK : Keep W.heap.size b3 W (w2.setCell ⟨b3, 0, none⟩ (.slice A l cp)) := keep_t (keep_of (below_trans hB hB2)) (keep_set _ _ _ _ _)
  have hc := h3''.cell
  have hf := h3''.frozen
  clear hP hv h1 h1' h2 h2' h3 h3'
  go_wp2_with fail
  go_end0
  exact ⟨hK, .inl ⟨⟨_, rfl⟩, _, hb3, hv3, fun k hk => Nat.le_trans hB.size (hfr k hk)⟩⟩
set_option maxRecDepth 100000 in
set_option maxHeartbeats 2000000 in
theorem Pack_own (a b c n : Nat) (hn2 : 2 ≤ n) (hn1 : n ≤ 1000) (hok : rightB a b c n = true) (w : World) :
    Calls Tryd.prog 11 #[v3 a b c, .int .i64 n] w fun e w' => Below w.heap.size w w' ∧ ∃ v, e = .returned (.tuple #[v, .int .i64 0]) ∧ w'.ownsRow 0 5 1 v (longN n) ((packL a b c n).map eB) ∧ ∀ k, v.ownBlock = some k → w.heap.size ≤ k := by
  have hmf : ∀ (fn : Fn) (first cap : Array Value) (w : World), (Instr.makeFunc fn first cap).run Tryd.prog w = .ok (.func fn first cap) w := fun _ _ _ _ => rfl
  have hcl : (v3 a b c).cells = c3 a b c := rfl
  have hb1 := ((Rowed.new w 24 (c3 a b c)).alloc (.cells #[.int .i64 n] 3)).alloc (.cells #[.slice none 0 0] 22)
  have hb2 := (Boxed.new (w.alloc (.cells (c3 a b c) 24)) 3 (.int .i64 n)).alloc (.cells #[.slice none 0 0] 22)
  have hb3 := Boxed.new ((w.alloc (.cells (c3 a b c) 24)).alloc (.cells #[.int .i64 n] 3)) 22 (.slice none 0 0)
  rw [World.size_alloc] at hb2
  rw [World.size_alloc, World.size_alloc] at hb3
  have hA : Below w.heap.size w (((w.alloc (.cells (c3 a b c) 24)).alloc (.cells #[.int .i64 n] 3)).alloc (.cells #[.slice none 0 0] 22)) := (((Below.refl _ w).alloc (Nat.le_refl _) _).alloc (by simp) _).alloc (by simp; omega) _
  have hs0 : (((w.alloc (.cells (c3 a b c) 24)).alloc (.cells #[.int .i64 n] 3)).alloc (.cells #[.slice none 0 0] 22)).heap.size = w.heap.size + 3 := by simp
  obtain ⟨W0, hW0⟩ : ∃ W0, ((w.alloc (.cells (c3 a b c) 24)).alloc (.cells #[.int .i64 n] 3)).alloc (.cells #[.slice none 0 0] 22) = W0 := ⟨_, rfl⟩
  rw [hW0] at hb1 hb2 hb3 hA hs0
  have hwork := Pack1_yes w.heap.size (w.heap.size + 1) (w.heap.size + 1 + 1) a b c n hn2 hn1 hok (W0.alloc (.cells #[.int .i64 0] 26)) (hb1.alloc _) (hb2.alloc _).cell (by simp; omega) (hb3.alloc _)
  have hct := caught_any 28 _ (w.heap.size + 1 + 1) W0 (by omega) (enters_of Tryd.func28 (by kernel_rfl) rfl) _ _ hwork
  have HW0 := Lib.hid hW0
  clear hwork hb1 hb2 hb3 hW0
  go_enter Tryd.func11, Tryd.ntmps11
  go_wp2_with fail
  rw [HW0.out]
  go_at_call 24
  refine hct.mono ?_
  rintro e w' ⟨w1, m, hK, rfl, rfl, hlt, hR⟩
  have hBf : Below w.heap.size w (w1.setCell ⟨W0.heap.size, 0, none⟩ (.int .i64 m)) := (below_of_keep hK hA (by omega) (by omega)).setCell (p := ⟨W0.heap.size, 0, none⟩) (by show w.heap.size ≤ W0.heap.size; omega) _
  clear hct
  rcases hR with ⟨rfl, v, hv, hr, hfr⟩ | hF
  · have hvw := Boxed.set_other (b' := W0.heap.size) (y := .int .i64 0) hv (by omega)
    have hne : v.ownBlock ≠ some W0.heap.size := fun e => by
      have := hfr _ e
      simp at this
      omega
    have hsl := hr.kept (grownBy_setCell' w1 W0.heap.size (.int .i64 0)) (.inr hne)
    have hfw : ∀ k, v.ownBlock = some k → w.heap.size ≤ k := fun k hk => by
      have := hfr k hk
      simp at this
      omega
    have hc := hvw.cell
    obtain ⟨A, l, cp, rfl⟩ := own_shape hr
    clear hr hvw hfr
    generalize w1.setCell ⟨W0.heap.size, 0, none⟩ (.int .i64 0) = w2 at *
    go_wp2_with fail
    go_ret2
    exact ⟨hBf, _, rfl, hsl, hfw⟩
  · exact hF.elim
theorem Pack_yes (a b c n : Nat) (hn2 : 2 ≤ n) (hn1 : n ≤ 1000) (hok : rightB a b c n = true) (w : World) :
    Calls Tryd.prog 11 #[v3 a b c, .int .i64 n] w fun e w' => Below w.heap.size w w' ∧ ∃ v, e = .returned (.tuple #[v, .int .i64 0]) ∧ Sl eB w'.heap.size w' v (packL a b c n) :=
  (Pack_own a b c n hn2 hn1 hok w).mono fun _ _ ⟨hB, v, he, hv, _⟩ => ⟨hB, v, he, Sl.of_own hv⟩
set_option maxRecDepth 100000 in
set_option maxHeartbeats 2000000 in
theorem Pack_no (a b c n : Int) (hbad : rightB a b c n = false) (w : World) :
    Calls Tryd.prog 11 #[v3 a b c, .int .i64 n] w fun e w' => Below w.heap.size w w' ∧ e = .returned (.tuple #[.slice none 0 0, .int .i64 2]) := by
  have hmf : ∀ (fn : Fn) (first cap : Array Value) (w : World), (Instr.makeFunc fn first cap).run Tryd.prog w = .ok (.func fn first cap) w := fun _ _ _ _ => rfl
  have hcl : (v3 a b c).cells = c3 a b c := rfl
  have hb1 := ((Rowed.new w 24 (c3 a b c)).alloc (.cells #[.int .i64 n] 3)).alloc (.cells #[.slice none 0 0] 22)
  have hb2 := (Boxed.new (w.alloc (.cells (c3 a b c) 24)) 3 (.int .i64 n)).alloc (.cells #[.slice none 0 0] 22)
  have hb3 := Boxed.new ((w.alloc (.cells (c3 a b c) 24)).alloc (.cells #[.int .i64 n] 3)) 22 (.slice none 0 0)
  rw [World.size_alloc] at hb2
  rw [World.size_alloc, World.size_alloc] at hb3
  have hA : Below w.heap.size w (((w.alloc (.cells (c3 a b c) 24)).alloc (.cells #[.int .i64 n] 3)).alloc (.cells #[.slice none 0 0] 22)) := (((Below.refl _ w).alloc (Nat.le_refl _) _).alloc (by simp) _).alloc (by simp; omega) _
  have hs0 : (((w.alloc (.cells (c3 a b c) 24)).alloc (.cells #[.int .i64 n] 3)).alloc (.cells #[.slice none 0 0] 22)).heap.size = w.heap.size + 3 := by simp
  obtain ⟨W0, hW0⟩ : ∃ W0, ((w.alloc (.cells (c3 a b c) 24)).alloc (.cells #[.int .i64 n] 3)).alloc (.cells #[.slice none 0 0] 22) = W0 := ⟨_, rfl⟩
  rw [hW0] at hb1 hb2 hb3 hA hs0
  have hwork := Pack1_no w.heap.size (w.heap.size + 1) (w.heap.size + 1 + 1) a b c n hbad (W0.alloc (.cells #[.int .i64 0] 26)) (hb1.alloc _) (hb2.alloc _).cell (hb3.alloc _)
  have hct := caught_any 28 _ (w.heap.size + 1 + 1) W0 (by omega) (enters_of Tryd.func28 (by kernel_rfl) rfl) _ _ hwork
  have HW0 := Lib.hid hW0
  clear hwork hb1 hb2 hb3 hW0
  go_enter Tryd.func11, Tryd.ntmps11
  go_wp2_with fail
  rw [HW0.out]
  go_at_call 24
  refine hct.mono ?_
  rintro e w' ⟨w1, m, hK, rfl, rfl, hlt, hR⟩
  have hBf : Below w.heap.size w (w1.setCell ⟨W0.heap.size, 0, none⟩ (.int .i64 m)) := (below_of_keep hK hA (by omega) (by omega)).setCell (p := ⟨W0.heap.size, 0, none⟩) (by show w.heap.size ≤ W0.heap.size; omega) _
  clear hct
  rcases hR with ⟨rfl, hF⟩ | ⟨rfl, hv⟩
  · exact hF.elim
  · have hvw := Boxed.set_other (b' := W0.heap.size) (y := .int .i64 2) hv (by omega)
    have hc := hvw.cell
    clear hvw
    generalize w1.setCell ⟨W0.heap.size, 0, none⟩ (.int .i64 2) = w2 at *
    go_wp2_with fail
    go_ret2
    exact ⟨hBf, rfl⟩
end Go.Proofs.YtheealkoooiloaaDoor
