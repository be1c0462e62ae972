/- Contract of gap.Gap. -/
import Derived.Test.YtmdpodgodhkjdaaDoorGpH
namespace Go.Proofs.YtmdpodgodhkjdaaDoor
open Go.RowKit Go.Shelf
attribute [local go_sem] Oper.semAt_some run_store_func

/-- The insertion that Gap asks for does what it should. -/
def InsOk (y : List UInt8) (t s : Int) : Prop := ∀ p, fitsG y = none → (List.range (y.length + 1)).find? (hitG y t s) = some p → InsIs y p (missL y s)
theorem gap_any (y : List UInt8) (t s : Int) (hI : InsOk y t s) (hreach : y.length ≤ 1000000) (sv : Value) (w : World) (hT : Tab w) (hS : Sl eB w.heap.size w sv y) :
    Calls Tryd.prog 44 #[sv, .int .i64 t, .int .i64 s] w (GapIs y t s w) := by
  cases hf : fitsG y with
  | some m => exact gap_bad y t s m hf hreach sv w hT hS
  | none =>
    by_cases hs : s < 0 ∨ 3 < s
    · exact gap_num y t s hf hs hreach sv w hT hS
    · exact gap_main y t s hf (by omega) (by omega) (fun p hp => hI p hf hp) sv w hT hS
set_option maxRecDepth 100000 in
set_option maxHeartbeats 1000000 in
theorem Gap1_is (b1 b2 b3 b4 : Nat) (A : Option Addr) (cap : Nat) (y : List UInt8) (t s : Int) (hI : InsOk y t s) (hreach : y.length ≤ 1000000) (W : World) (hT : Tab W) (hS : Sl eB W.heap.size W (.slice A y.length cap) y) (h1 : W.cell? ⟨b1, 0, none⟩ = some (.slice A y.length cap)) (h2 : W.cell? ⟨b2, 0, none⟩ = some (.int .i64 t)) (h3 : W.cell? ⟨b3, 0, none⟩ = some (.int .i64 s)) (h4 : Boxed W b4 22 (.slice none 0 0)) :
    gWork 43 #[.pointer (some ⟨b1, 0, none⟩), .pointer (some ⟨b2, 0, none⟩), .pointer (some ⟨b3, 0, none⟩), .pointer (some ⟨b4, 0, none⟩)] b4 b4 W
      (fun w' => ∃ x, gapG y t s = .ok x ∧ ∃ v, Boxed w' b4 22 v ∧ Own8 W.heap.size w' v x) (fun n w' => gapG y t s = .error n ∧ Boxed w' b4 22 (.slice none 0 0)) := by
  have hM := gap_any y t s hI hreach (.slice A y.length cap) W hT hS
  have hl4 := h4.lt
  unfold gWork
  clear hS hT hI
  go_enter Tryd.func43, Tryd.ntmps43
  go_wp2_with fail
  go_at_call 44
  refine hM.mono ?_
  rintro e w1 ⟨hB, ⟨x, v, hg, rfl, hv⟩ | ⟨m, hg, rfl⟩⟩
  · obtain ⟨A', k', rfl⟩ := hv.sl.len
    have h5 : Boxed w1 b4 22 (.slice none 0 0) := (hB.block _ hl4).trans h4
    have hc5 := h5.cell
    have hf5 := h5.frozen
    have h6 := h5.set (.slice A' x.length k')
    have hv2 : Own8 W.heap.size (w1.setCell ⟨b4, 0, none⟩ (.slice A' x.length k')) (.slice A' x.length k') x := ownsRow_setCell_below hv (by show b4 < W.heap.size; omega) _
    go_wp2_with fail
    go_end0
    exact ⟨kp2_t (kp2_of hB) (kp2_set1 _ _ _ _ _ _), .inl ⟨⟨_, rfl⟩, x, hg, _, h6, hv2⟩⟩
  · exact ⟨rfl, kp2_of hB, .inr ⟨m, rfl, hg, (hB.block _ hl4).trans h4⟩⟩
/-- What Gap does. -/
abbrev GapTells (y : List UInt8) (t s : Int) (w : World) : Ending → World → Prop := fun e w' => Below w.heap.size w w' ∧ ((∃ x v, gapG y t s = .ok x ∧ e = .returned (.tuple #[v, .int .i64 0]) ∧ Sl eB w'.heap.size w' v x) ∨ ∃ m, gapG y t s = .error m ∧ e = .returned (.tuple #[.slice none 0 0, .int .i64 m]))
set_option maxRecDepth 100000 in
set_option maxHeartbeats 2000000 in
theorem Gap_any (y : List UInt8) (t s : Int) (hI : InsOk y t s) (sv : Value) (w : World) (hT : Tab w) (hS : Sl eB w.heap.size w sv y) (hreach : y.length ≤ 1000000) :
    Calls Tryd.prog 18 #[sv, .int .i64 t, .int .i64 s] w (GapTells y t s w) := by
  have hmf : ∀ (fn : Fn) (first cap : Array Value) (w : World), (Instr.makeFunc fn first cap).run Tryd.prog w = .ok (.func fn first cap) w := fun _ _ _ _ => rfl
  obtain ⟨A, cap, rfl⟩ := hS.len
  have hb1 := (((Boxed.new w 22 (.slice A y.length cap)).alloc (.cells #[.int .i64 t] 3)).alloc (.cells #[.int .i64 s] 3)).alloc (.cells #[.slice none 0 0] 22)
  have hb2 := ((Boxed.new (w.alloc (.cells #[.slice A y.length cap] 22)) 3 (.int .i64 t)).alloc (.cells #[.int .i64 s] 3)).alloc (.cells #[.slice none 0 0] 22)
  have hb3 := (Boxed.new ((w.alloc (.cells #[.slice A y.length cap] 22)).alloc (.cells #[.int .i64 t] 3)) 3 (.int .i64 s)).alloc (.cells #[.slice none 0 0] 22)
  have hb4 := Boxed.new (((w.alloc (.cells #[.slice A y.length cap] 22)).alloc (.cells #[.int .i64 t] 3)).alloc (.cells #[.int .i64 s] 3)) 22 (.slice none 0 0)
  obtain ⟨W0, hW0⟩ : ∃ W0, (((w.alloc (.cells #[.slice A y.length cap] 22)).alloc (.cells #[.int .i64 t] 3)).alloc (.cells #[.int .i64 s] 3)).alloc (.cells #[.slice none 0 0] 22) = W0 := ⟨_, rfl⟩
  have hA : Below w.heap.size w W0 := by rw [← hW0]; exact ((((Below.refl _ w).alloc (Nat.le_refl _) _).alloc (by simp) _).alloc (by simp; omega) _).alloc (by simp; omega) _
  have hs0 : W0.heap.size = w.heap.size + 4 := by rw [← hW0]; simp
  rw [World.size_alloc] at hb2
  rw [World.size_alloc, World.size_alloc] at hb3
  rw [World.size_alloc, World.size_alloc, World.size_alloc] at hb4
  rw [hW0] at hb1 hb2 hb3 hb4
  have hA1 := hA.alloc (by omega) (.cells #[.int .i64 0] 24)
  have hs1 : (W0.alloc (.cells #[.int .i64 0] 24)).heap.size = W0.heap.size + 1 := by simp
  have hwork := Gap1_is w.heap.size (w.heap.size + 1) (w.heap.size + 1 + 1) (w.heap.size + 1 + 1 + 1) A cap y t s hI hreach (W0.alloc (.cells #[.int .i64 0] 24)) (hT.below hA1) (hS.next hA1) (hb1.alloc _).cell (hb2.alloc _).cell (hb3.alloc _).cell (hb4.alloc _)
  have hct := gcaught_any 43 _ (w.heap.size + 1 + 1 + 1) (w.heap.size + 1 + 1 + 1) W0 (by omega) (by omega) (enters_of Tryd.func43 (by kernel_rfl) rfl) _ _ hwork
  have HW0 := Lib.hid hW0
  clear hwork hb1 hb2 hb3 hb4 hW0 hA1 hS hT hI
  go_enter Tryd.func18, Tryd.ntmps18
  go_wp2_with fail
  rw [HW0.out]
  go_at_call 33
  refine hct.mono ?_
  rintro e w' ⟨w1, m, hK, rfl, rfl, hlt, hR⟩
  have hBf : Below w.heap.size w (w1.setCell ⟨W0.heap.size, 0, none⟩ (.int .i64 m)) := (below_of_kp2 hK hA (by omega) (by omega) (by omega)).setCell (p := ⟨W0.heap.size, 0, none⟩) (by show w.heap.size ≤ W0.heap.size; omega) _
  clear hct
  rcases hR with ⟨rfl, x, hg, v, hv, hrow⟩ | ⟨hg, hv⟩
  all_goals
    have hvw := fun x => Boxed.set_other (b' := W0.heap.size) (y := x) hv (by omega)
  · have hc := (hvw (.int .i64 0)).cell
    have hrow2 : Own8 (W0.alloc (.cells #[.int .i64 0] 24)).heap.size (w1.setCell ⟨W0.heap.size, 0, none⟩ (.int .i64 0)) v x := ownsRow_setCell_below hrow (by show W0.heap.size < _; rw [hs1]; omega) _
    clear hvw hv hrow
    generalize w1.setCell ⟨W0.heap.size, 0, none⟩ (.int .i64 0) = w2 at *
    go_wp2_with fail
    go_ret2
    exact ⟨hBf, .inl ⟨x, v, hg, rfl, hrow2.sl⟩⟩
  · have hc := (hvw (.int .i64 m)).cell
    clear hvw hv
    generalize w1.setCell ⟨W0.heap.size, 0, none⟩ (.int .i64 m) = w2 at *
    go_wp2_with fail
    go_ret2
    exact ⟨hBf, .inr ⟨m, hg, rfl⟩⟩
end Go.Proofs.YtmdpodgodhkjdaaDoor
