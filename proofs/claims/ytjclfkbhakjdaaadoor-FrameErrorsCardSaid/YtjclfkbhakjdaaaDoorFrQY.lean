import Derived.Test.YtjclfkbhakjdaaaDoorFrPY
namespace Go.Proofs.YtjclfkbhakjdaaaDoor
open Go.RowKit Go.Shelf
attribute [local go_sem] Oper.semAt_some run_store_func
theorem rowed_set_other {W : World} {g g' : Nat} {t : TypeId} {cs : Array Value} (h : Rowed W g t cs) (hne : g ≠ g') (j : Nat) (u : Value) : Rowed (W.setCell ⟨g', j, none⟩ u) g t cs := (Below.heap_setCell _ _ _ _ (by show g ≠ g'; exact hne)).trans h
def BackTold (r : Except Int (Int × Int × List UInt8)) (G PL : Int) (pay : List UInt8) (v : Value) (E : Int) : Prop :=
 (r = .ok (G, PL, pay) ∧ E = 0) ∨ (r = .error E ∧ E ≠ 0 ∧ G = 0 ∧ PL = 0 ∧ pay = [] ∧ v = .slice none 0 0)
set_option maxRecDepth 100000 in
set_option maxHeartbeats 4000000 in
theorem Back_any (P D R : Int) (sv : Value) (x : List UInt8) (w : World) (hT : Tabs w) (hS : Sl eB w.heap.size w sv x) :
    Calls Tryd.prog 9 #[shV P D R, sv] w fun e w' => ∃ G PL pay v E, e = .returned (.tuple #[frV G PL v, .int .i64 E]) ∧ BackTold (backF P D R x) G PL pay v E ∧ Sl eB w'.heap.size w' v pay ∧ Below w.heap.size w w' := by
  have hmf : ∀ (fn : Fn) (first cap : Array Value) (w : World), (Instr.makeFunc fn first cap).run Tryd.prog w = .ok (.func fn first cap) w := fun _ _ _ _ => rfl
  obtain ⟨A, c, rfl⟩ := hS.len
  have hc1 : (shV P D R).cells = shB P D R := rfl
  obtain ⟨W0, hW0⟩ : ∃ W0, (((w.alloc (.cells (shB P D R) 23)).alloc (.cells #[.slice A x.length c] 24)).alloc (.cells (frB 0 0 (.slice none 0 0)) 26)).alloc (.cells (frB 0 0 (.slice none 0 0)) 26) = W0 := ⟨_, rfl⟩
  have hs0 : W0.heap.size = w.heap.size + 4 := by rw [← hW0]; simp
  have hA : Below w.heap.size w W0 := by rw [← hW0]; exact (((below_alloc w _).alloc (by simp) _).alloc (by simp; omega) _).alloc (by simp; omega) _
  have h0 : Rowed W0 w.heap.size 23 (shB P D R) := by rw [← hW0]; exact (((Rowed.new w 23 (shB P D R)).alloc _).alloc _).alloc _
  have h1 : Boxed W0 (w.heap.size + 1) 24 (.slice A x.length c) := by
   rw [← hW0]
   have := ((Boxed.new (w.alloc (.cells (shB P D R) 23)) 24 (.slice A x.length c)).alloc (.cells (frB 0 0 (.slice none 0 0)) 26)).alloc (.cells (frB 0 0 (.slice none 0 0)) 26)
   rwa [World.size_alloc] at this
  have h2 : Rowed W0 (w.heap.size + 2) 26 (frB 0 0 (.slice none 0 0)) := by
   rw [← hW0]
   have := (Rowed.new ((w.alloc (.cells (shB P D R) 23)).alloc (.cells #[.slice A x.length c] 24)) 26 (frB 0 0 (.slice none 0 0))).alloc (.cells (frB 0 0 (.slice none 0 0)) 26)
   simpa only [World.size_alloc] using this
  have h3 : Rowed W0 (w.heap.size + 3) 26 (frB 0 0 (.slice none 0 0)) := by
   rw [← hW0]
   have := Rowed.new (((w.alloc (.cells (shB P D R) 23)).alloc (.cells #[.slice A x.length c] 24)).alloc (.cells (frB 0 0 (.slice none 0 0)) 26)) 26 (frB 0 0 (.slice none 0 0))
   simpa only [World.size_alloc] using this
  have hT0 := hT.below hA
  have hS0 := hS.next hA
  have hWd := below_alloc W0 (.cells #[.int .i64 0] 28)
  have hbe := Boxed.new W0 28 (.int .i64 0)
  have hsz1 : (W0.alloc (.cells #[.int .i64 0] 28)).heap.size = W0.heap.size + 1 := by simp
  have hwork : WorkIs 26 #[.pointer (some ⟨w.heap.size, 0, none⟩), .pointer (some ⟨w.heap.size + 1, 0, none⟩), .pointer (some ⟨w.heap.size + 3, 0, none⟩)] (w.heap.size + 3) (W0.alloc (.cells #[.int .i64 0] 28))
      (fun w' => Boxed w' W0.heap.size 28 (.int .i64 0) ∧ ∃ G PL pay A l c, backF P D R x = .ok (G, PL, pay) ∧ Rowed w' (w.heap.size + 3) 26 (frB G PL (.slice A l c)) ∧ Sl eB w'.heap.size w' (.slice A l c) pay)
      (fun n w' => backF P D R x = .error n ∧ n ≠ 0 ∧ Rowed w' (w.heap.size + 3) 26 (frB 0 0 (.slice none 0 0))) := by
   refine (Back1_any P D R _ x _ _ _ _ (h0.alloc _) (h1.alloc _) (h3.alloc _) (hT0.below hWd) (hS0.next hWd)).mono ?_
   rintro e w' ⟨W2, hB, ⟨G, PL, pay, A', l, c', hf, rfl, hv, hx2, rfl⟩ | ⟨m, hf, hm, rfl, rfl⟩⟩
   · have hb2 : Boxed W2 W0.heap.size 28 (.int .i64 0) := (hB.block _ (by rw [hsz1]; omega)).trans hbe
     have r1 : Rowed (W2.setCell ⟨w.heap.size + 3, 0, none⟩ (.int .i64 G)) (w.heap.size + 3) 26 (frB G 0 (.slice none 0 0)) := hx2.set 0 (.int .i64 G)
     have r2 : Rowed ((W2.setCell ⟨w.heap.size + 3, 0, none⟩ (.int .i64 G)).setCell ⟨w.heap.size + 3, 1, none⟩ (.int .i64 PL)) (w.heap.size + 3) 26 (frB G PL (.slice none 0 0)) := r1.set 1 (.int .i64 PL)
     have r3 : Rowed (((W2.setCell ⟨w.heap.size + 3, 0, none⟩ (.int .i64 G)).setCell ⟨w.heap.size + 3, 1, none⟩ (.int .i64 PL)).setCell ⟨w.heap.size + 3, 2, none⟩ (.slice A' l c')) (w.heap.size + 3) 26 (frB G PL (.slice A' l c')) := r2.set 2 _
     have hs3 := sl_setfr (sl_setfr (sl_setfr hv hx2 0 (.int .i64 G)) r1 1 (.int .i64 PL)) r2 2 (.slice A' l c')
     have hsz : (((W2.setCell ⟨w.heap.size + 3, 0, none⟩ (.int .i64 G)).setCell ⟨w.heap.size + 3, 1, none⟩ (.int .i64 PL)).setCell ⟨w.heap.size + 3, 2, none⟩ (.slice A' l c')).heap.size = W2.heap.size := by simp
     refine ⟨keep_t (keep_t (keep_t (keep_of hB) (keep_set _ _ _ _ _)) (keep_set _ _ _ _ _)) (keep_set _ _ _ _ _), .inl ⟨⟨_, rfl⟩, ?_, G, PL, pay, A', l, c', hf, r3, by rw [hsz]; exact hs3⟩⟩
     have hne : W0.heap.size ≠ w.heap.size + 3 := by omega
     have e1 := fun (X : World) (j : Nat) (u : Value) (h : Boxed X W0.heap.size 28 (.int .i64 0)) => show Boxed (X.setCell ⟨w.heap.size + 3, j, none⟩ u) W0.heap.size 28 (.int .i64 0) from (Below.heap_setCell _ _ _ _ (by show W0.heap.size ≠ w.heap.size + 3; exact hne)).trans h
     exact e1 _ _ _ (e1 _ _ _ (e1 _ _ _ hb2))
   · exact ⟨keep_of hB, .inr ⟨m, rfl, hf, hm, (hB.block _ (by rw [hsz1]; omega)).trans (h3.alloc _)⟩⟩
  have hq := caught_any 26 _ (w.heap.size + 3) W0 (by omega) (enters_of Tryd.func26 (by kernel_rfl) rfl) _ _ hwork
  generalize backF P D R x = BF at *
  clear h0 h1 h3 hT0 hS0 hWd hbe hsz1 hwork hS hT
  go_enter Tryd.func9, Tryd.ntmps9
  go_wp2_with fail
  go_at_call 16
  refine hq.mono ?_
  rintro e w' ⟨w1, n, hK, rfl, rfl, hlt, ⟨rfl, hb, G, PL, pay, A', l, c', rfl, hr, hs⟩ | ⟨rfl, hn, hr⟩⟩
  · have hr2 := rowed_set_other hr (show w.heap.size + 3 ≠ W0.heap.size by omega) 0 (.int .i64 0)
    have hk2 : Rowed w1 (w.heap.size + 2) 26 (frB 0 0 (.slice none 0 0)) := (hK.2 _ (by omega) (by omega)).trans h2
    have hx2 := rowed_set_other hk2 (show w.heap.size + 2 ≠ W0.heap.size by omega) 0 (.int .i64 0)
    have hs2 : Sl eB (w1.setCell ⟨W0.heap.size, 0, none⟩ (.int .i64 0)).heap.size (w1.setCell ⟨W0.heap.size, 0, none⟩ (.int .i64 0)) (.slice A' l c') pay := by
     have := sl_setbox hs hb (.int .i64 0)
     simpa using this
    have hB : Below w.heap.size w (w1.setCell ⟨W0.heap.size, 0, none⟩ (.int .i64 0)) := (hA.trans (keep_below19 hK (by omega) (by omega))).setCell (p := ⟨W0.heap.size, 0, none⟩) (by show w.heap.size ≤ W0.heap.size; omega) _
    clear hq hK hr hs hk2 h2 hb
    generalize w1.setCell ⟨W0.heap.size, 0, none⟩ (.int .i64 0) = w2 at *
    have f0 := hr2.cell 0
    have f1 := hr2.cell 1
    have f2 := hr2.cell 2
    have z0 := hx2.cell 0
    have z1 := hx2.cell 1
    have z2 := hx2.cell 2
    have zf := hx2.frozen
    have r1 : Rowed (w2.setCell ⟨w.heap.size + 2, 0, none⟩ (.int .i64 G)) (w.heap.size + 2) 26 (frB G 0 (.slice none 0 0)) := hx2.set 0 (.int .i64 G)
    have r2 : Rowed ((w2.setCell ⟨w.heap.size + 2, 0, none⟩ (.int .i64 G)).setCell ⟨w.heap.size + 2, 1, none⟩ (.int .i64 PL)) (w.heap.size + 2) 26 (frB G PL (.slice none 0 0)) := r1.set 1 (.int .i64 PL)
    have r3 : Rowed (((w2.setCell ⟨w.heap.size + 2, 0, none⟩ (.int .i64 G)).setCell ⟨w.heap.size + 2, 1, none⟩ (.int .i64 PL)).setCell ⟨w.heap.size + 2, 2, none⟩ (.slice A' l c')) (w.heap.size + 2) 26 (frB G PL (.slice A' l c')) := r2.set 2 _
    have hs3 := sl_setfr (sl_setfr (sl_setfr hs2 hx2 0 (.int .i64 G)) r1 1 (.int .i64 PL)) r2 2 (.slice A' l c')
    have hB3 := ((hB.setCell (p := ⟨w.heap.size + 2, 0, none⟩) (by show w.heap.size ≤ w.heap.size + 2; omega) (.int .i64 G)).setCell (p := ⟨w.heap.size + 2, 1, none⟩) (by show w.heap.size ≤ w.heap.size + 2; omega) (.int .i64 PL)).setCell (p := ⟨w.heap.size + 2, 2, none⟩) (by show w.heap.size ≤ w.heap.size + 2; omega) (.slice A' l c')
    have hsz : (((w2.setCell ⟨w.heap.size + 2, 0, none⟩ (.int .i64 G)).setCell ⟨w.heap.size + 2, 1, none⟩ (.int .i64 PL)).setCell ⟨w.heap.size + 2, 2, none⟩ (.slice A' l c')).heap.size = w2.heap.size := by simp
    rw [← hsz] at hs3
    have R3 := Lib.hid r3
    have HS3 := Lib.hid hs3
    have HB3 := Lib.hid hB3
    clear r1 r2 r3 hs3 hB3 hsz hx2 hr2 hs2 hB hA
    go_wp2_with fail
    have t0 := R3.out.cell 0
    have t1 := R3.out.cell 1
    have t2 := R3.out.cell 2
    have hs3 := HS3.out
    have hB3 := HB3.out
    generalize ((w2.setCell ⟨w.heap.size + 2, 0, none⟩ (.int .i64 G)).setCell ⟨w.heap.size + 2, 1, none⟩ (.int .i64 PL)).setCell ⟨w.heap.size + 2, 2, none⟩ (.slice A' l c') = w8 at *
    refine bodyPost_ret (v := .tuple #[frV G PL (.slice A' l c'), .int .i64 0]) ?_ rfl ⟨G, PL, pay, _, 0, rfl, .inl ⟨rfl, rfl⟩, hs3, hB3⟩
    simp [results, Tryd.f9, go_sem, t0, t1, t2]
  · have hr2 := rowed_set_other hr (show w.heap.size + 3 ≠ W0.heap.size by omega) 0 (.int .i64 n)
    have hk2 : Rowed w1 (w.heap.size + 2) 26 (frB 0 0 (.slice none 0 0)) := (hK.2 _ (by omega) (by omega)).trans h2
    have hx2 := rowed_set_other hk2 (show w.heap.size + 2 ≠ W0.heap.size by omega) 0 (.int .i64 n)
    have hB : Below w.heap.size w (w1.setCell ⟨W0.heap.size, 0, none⟩ (.int .i64 n)) := (hA.trans (keep_below19 hK (by omega) (by omega))).setCell (p := ⟨W0.heap.size, 0, none⟩) (by show w.heap.size ≤ W0.heap.size; omega) _
    clear hq hK hr hk2 h2
    generalize w1.setCell ⟨W0.heap.size, 0, none⟩ (.int .i64 n) = w2 at *
    have f0 := hr2.cell 0
    have f1 := hr2.cell 1
    have f2 := hr2.cell 2
    have z0 := hx2.cell 0
    have z1 := hx2.cell 1
    have z2 := hx2.cell 2
    have zf := hx2.frozen
    have r1 : Rowed (w2.setCell ⟨w.heap.size + 2, 0, none⟩ (.int .i64 0)) (w.heap.size + 2) 26 (frB 0 0 (.slice none 0 0)) := hx2.set 0 (.int .i64 0)
    have r2 : Rowed ((w2.setCell ⟨w.heap.size + 2, 0, none⟩ (.int .i64 0)).setCell ⟨w.heap.size + 2, 1, none⟩ (.int .i64 0)) (w.heap.size + 2) 26 (frB 0 0 (.slice none 0 0)) := r1.set 1 (.int .i64 0)
    have r3 : Rowed (((w2.setCell ⟨w.heap.size + 2, 0, none⟩ (.int .i64 0)).setCell ⟨w.heap.size + 2, 1, none⟩ (.int .i64 0)).setCell ⟨w.heap.size + 2, 2, none⟩ (.slice none 0 0)) (w.heap.size + 2) 26 (frB 0 0 (.slice none 0 0)) := r2.set 2 _
    have hB3 := ((hB.setCell (p := ⟨w.heap.size + 2, 0, none⟩) (by show w.heap.size ≤ w.heap.size + 2; omega) (.int .i64 0)).setCell (p := ⟨w.heap.size + 2, 1, none⟩) (by show w.heap.size ≤ w.heap.size + 2; omega) (.int .i64 0)).setCell (p := ⟨w.heap.size + 2, 2, none⟩) (by show w.heap.size ≤ w.heap.size + 2; omega) (.slice none 0 0)
    have R3 := Lib.hid r3
    have HB3 := Lib.hid hB3
    clear r1 r2 r3 hB3 hx2 hr2 hB hA
    go_wp2_with fail
    have t0 := R3.out.cell 0
    have t1 := R3.out.cell 1
    have t2 := R3.out.cell 2
    have hB3 := HB3.out
    generalize ((w2.setCell ⟨w.heap.size + 2, 0, none⟩ (.int .i64 0)).setCell ⟨w.heap.size + 2, 1, none⟩ (.int .i64 0)).setCell ⟨w.heap.size + 2, 2, none⟩ (.slice none 0 0) = w8 at *
    refine bodyPost_ret (v := .tuple #[frV 0 0 (.slice none 0 0), .int .i64 n]) ?_ rfl ⟨0, 0, [], _, n, rfl, .inr ⟨rfl, hn, rfl, rfl, rfl, rfl⟩, Sl.nil _ _ _, hB3⟩
    simp [results, Tryd.f9, go_sem, t0, t1, t2]
end Go.Proofs.YtjclfkbhakjdaaaDoor
