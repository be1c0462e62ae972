/- Contract of gap.Rises, caught. -/
import Derived.Test.YtmdpodgodhkjdaaDoorGpF
namespace Go.Proofs.YtmdpodgodhkjdaaDoor
open Go.RowKit Go.Shelf
attribute [local go_sem] Oper.semAt_some run_store_func

/-- What Rises does. -/
abbrev RisesTells (y : List UInt8) (c : UInt8) (w : World) : Ending → World → Prop := fun e w' => Below w.heap.size w w' ∧ ((∃ l v, risesG y c = .ok l ∧ e = .returned (.tuple #[v, .int .i64 0]) ∧ Sl eI w'.heap.size w' v l) ∨ ∃ m, risesG y c = .error m ∧ e = .returned (.tuple #[.slice none 0 0, .int .i64 m]))
set_option maxRecDepth 100000 in
set_option maxHeartbeats 2000000 in
theorem GRises_any (y : List UInt8) (c : UInt8) (sv : Value) (w : World) (hT : Tab w) (hS : Sl eB w.heap.size w sv y) (hreach : y.length ≤ 1000000) :
    Calls Tryd.prog 16 #[sv, eB c] w (RisesTells y c w) := by
  have hmf : ∀ (fn : Fn) (first cap : Array Value) (w : World), (Instr.makeFunc fn first cap).run Tryd.prog w = .ok (.func fn first cap) w := fun _ _ _ _ => rfl
  obtain ⟨A, cap, rfl⟩ := hS.len
  have hb1 := ((Boxed.new w 22 (.slice A y.length cap)).alloc (.cells #[eB c] 5)).alloc (.cells #[.slice none 0 0] 27)
  have hb2 := (Boxed.new (w.alloc (.cells #[.slice A y.length cap] 22)) 5 (eB c)).alloc (.cells #[.slice none 0 0] 27)
  have hb3 := Boxed.new ((w.alloc (.cells #[.slice A y.length cap] 22)).alloc (.cells #[eB c] 5)) 27 (.slice none 0 0)
  obtain ⟨W0, hW0⟩ : ∃ W0, ((w.alloc (.cells #[.slice A y.length cap] 22)).alloc (.cells #[eB c] 5)).alloc (.cells #[.slice none 0 0] 27) = W0 := ⟨_, rfl⟩
  have hA : Below w.heap.size w W0 := by rw [← hW0]; exact (((Below.refl _ w).alloc (Nat.le_refl _) _).alloc (by simp) _).alloc (by simp; omega) _
  have hs0 : W0.heap.size = w.heap.size + 3 := by rw [← hW0]; simp
  rw [World.size_alloc] at hb2
  rw [World.size_alloc, World.size_alloc] at hb3
  rw [hW0] at hb1 hb2 hb3
  have hA1 := hA.alloc (by omega) (.cells #[.int .i64 0] 24)
  have hs1 : (W0.alloc (.cells #[.int .i64 0] 24)).heap.size = W0.heap.size + 1 := by simp
  have hwork := Rises1_is w.heap.size (w.heap.size + 1) (w.heap.size + 1 + 1) w.heap.size A cap y c hreach (W0.alloc (.cells #[.int .i64 0] 24)) (hT.below hA1) (hS.below hA1) (by omega) (by omega) (by omega) (hb1.alloc _).cell (hb2.alloc _).cell (hb3.alloc _)
  have hct := gcaught_any 39 _ (w.heap.size + 1 + 1) (w.heap.size + 1 + 1) W0 (by omega) (by omega) (enters_of Tryd.func39 (by kernel_rfl) rfl) _ _ hwork
  have HW0 := Lib.hid hW0
  clear hwork hb1 hb2 hb3 hW0 hA1 hS hT
  go_enter Tryd.func16, Tryd.ntmps16
  go_wp2_with fail
  rw [HW0.out]
  go_at_call 33
  refine hct.mono ?_
  rintro e w' ⟨w1, m, hK, rfl, rfl, hlt, hR⟩
  have hBf : Below w.heap.size w (w1.setCell ⟨W0.heap.size, 0, none⟩ (.int .i64 m)) := (below_of_kp2 hK hA (by omega) (by omega) (by omega)).setCell (p := ⟨W0.heap.size, 0, none⟩) (by show w.heap.size ≤ W0.heap.size; omega) _
  clear hct
  rcases hR with ⟨rfl, l, hg, v, hv, hrow⟩ | ⟨hg, hv⟩
  all_goals
    have hvw := fun x => Boxed.set_other (b' := W0.heap.size) (y := x) hv (by omega)
  · have hc := (hvw (.int .i64 0)).cell
    have hrow2 : (w1.setCell ⟨W0.heap.size, 0, none⟩ (.int .i64 0)).ownsRow (W0.alloc (.cells #[.int .i64 0] 24)).heap.size 3 1 v l.length (l.map eI) := ownsRow_setCell_below hrow (by show W0.heap.size < _; rw [hs1]; omega) _
    clear hvw hv hrow
    generalize w1.setCell ⟨W0.heap.size, 0, none⟩ (.int .i64 0) = w2 at *
    go_wp2_with fail
    go_ret2
    exact ⟨hBf, .inl ⟨l, v, hg, rfl, Sl.of_own hrow2⟩⟩
  · have hc := (hvw (.int .i64 m)).cell
    clear hvw hv
    generalize w1.setCell ⟨W0.heap.size, 0, none⟩ (.int .i64 m) = w2 at *
    go_wp2_with fail
    go_ret2
    exact ⟨hBf, .inr ⟨m, hg, rfl⟩⟩
end Go.Proofs.YtmdpodgodhkjdaaDoor
