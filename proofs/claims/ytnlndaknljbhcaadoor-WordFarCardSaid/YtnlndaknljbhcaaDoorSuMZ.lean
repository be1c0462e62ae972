/- Contract of sums.Unpack. -/
import Derived.Test.YtnlndaknljbhcaaDoorSuLZ
namespace Go.Proofs.YtnlndaknljbhcaaDoor
open Go.RowKit Go.Shelf
attribute [local go_sem] Oper.semAt_some run_store_func

set_option maxRecDepth 100000 in
set_option maxHeartbeats 2000000 in
theorem Unpack1_is (b1 b2 b3 : Nat) (A : Option Addr) (c : Nat) (x : List UInt8) (n : Int) (W : World) (hS : Sl eB W.heap.size W (.slice A x.length c) x) (h1 : W.cell? ⟨b1, 0, none⟩ = some (.slice A x.length c)) (h2 : W.cell? ⟨b2, 0, none⟩ = some (.int .i64 n)) (h3 : Rowed W b3 28 (c3 0 0 0)) :
    WorkIs 75 #[.pointer (some ⟨b1, 0, none⟩), .pointer (some ⟨b2, 0, none⟩), .pointer (some ⟨b3, 0, none⟩)] b3 W
      (fun w' => ∃ a b c : Nat, unG x n = some (a, b, c) ∧ Rowed w' b3 28 (c3 a b c)) (fun m w' => m = 2 ∧ unG x n = none ∧ Rowed w' b3 28 (c3 0 0 0)) := by
  have hb := unpack_any _ x n W hS
  have hl := h3.lt
  unfold WorkIs
  go_enter Tryd.func75, Tryd.ntmps75
  go_wp2_with fail
  go_at_call 76
  refine hb.mono ?_
  rintro e w1 ⟨hB, ⟨a, b, d, hc, rfl⟩ | ⟨hn, rfl⟩⟩
  · have h3' : Rowed w1 b3 28 (c3 0 0 0) := h3.below hB hl
    have hK : Keep W.heap.size b3 W (w1.setRow b3 (c3 a b d)) := keep_setRow (keep_of hB) _
    have hrow := setRow_heap w1 b3 (c3 0 0 0) (c3 a b d) _ _ h3'
    have Hc := Lib.hid hc
    clear hc hb
    go_wp2_with (refine wpList_store_row rfl 28 (.tmp 2) (.tmp 5) rfl b3 (c3 a b d) rfl rfl _ _ h3' (size_c3 a b d) rfl (one_c3 a b d) ?_)
    go_end0
    exact ⟨hK, .inl ⟨⟨_, rfl⟩, a, b, d, Hc.out, hrow⟩⟩
  · exact ⟨rfl, keep_of hB, .inr ⟨2, rfl, rfl, hn, h3.below hB hl⟩⟩
set_option maxRecDepth 100000 in
set_option maxHeartbeats 2000000 in
theorem Unpack_any (sv : Value) (x : List UInt8) (n : Int) (w : World) (hS : Sl eB w.heap.size w sv x) :
    Calls Tryd.prog 61 #[sv, .int .i64 n] w fun e w' => Below w.heap.size w w' ∧
      ((∃ a b c : Nat, unG x n = some (a, b, c) ∧ e = .returned (.tuple #[v3 a b c, .int .i64 0])) ∨ (unG x n = none ∧ e = .returned (.tuple #[v3 0 0 0, .int .i64 2]))) := by
  have hmf : ∀ (fn : Fn) (first cap : Array Value) (w : World), (Instr.makeFunc fn first cap).run Tryd.prog w = .ok (.func fn first cap) w := fun _ _ _ _ => rfl
  obtain ⟨A, c, rfl⟩ := hS.len
  obtain ⟨hz, hsz⟩ := zero_of_info infoS
  have hc0 : (v3 0 0 0).cells = #[.int .i64 0, .int .i64 0, .int .i64 0] := rfl
  have hb1 := (((Boxed.new w 22 (.slice A x.length c)).alloc (.cells #[.int .i64 n] 3)).alloc (.cells (c3 0 0 0) 28)).alloc (.cells (c3 0 0 0) 28)
  have hbn := ((Boxed.new (w.alloc (.cells #[.slice A x.length c] 22)) 3 (.int .i64 n)).alloc (.cells (c3 0 0 0) 28)).alloc (.cells (c3 0 0 0) 28)
  have hb2 := (Rowed.new ((w.alloc (.cells #[.slice A x.length c] 22)).alloc (.cells #[.int .i64 n] 3)) 28 (c3 0 0 0)).alloc (.cells (c3 0 0 0) 28)
  have hb3 := Rowed.new (((w.alloc (.cells #[.slice A x.length c] 22)).alloc (.cells #[.int .i64 n] 3)).alloc (.cells (c3 0 0 0) 28)) 28 (c3 0 0 0)
  rw [World.size_alloc] at hbn
  rw [World.size_alloc, World.size_alloc] at hb2
  rw [World.size_alloc, World.size_alloc, World.size_alloc] at hb3
  have hA : Below w.heap.size w ((((w.alloc (.cells #[.slice A x.length c] 22)).alloc (.cells #[.int .i64 n] 3)).alloc (.cells (c3 0 0 0) 28)).alloc (.cells (c3 0 0 0) 28)) := ((((Below.refl _ w).alloc (Nat.le_refl _) _).alloc (by simp) _).alloc (by simp; omega) _).alloc (by simp; omega) _
  have hs0 : ((((w.alloc (.cells #[.slice A x.length c] 22)).alloc (.cells #[.int .i64 n] 3)).alloc (.cells (c3 0 0 0) 28)).alloc (.cells (c3 0 0 0) 28)).heap.size = w.heap.size + 4 := by simp
  obtain ⟨W0, hW0⟩ : ∃ W0, (((w.alloc (.cells #[.slice A x.length c] 22)).alloc (.cells #[.int .i64 n] 3)).alloc (.cells (c3 0 0 0) 28)).alloc (.cells (c3 0 0 0) 28) = W0 := ⟨_, rfl⟩
  rw [hW0] at hb1 hbn hb2 hb3 hA hs0
  have hA4 := below_alloc W0 (.cells #[.int .i64 0] 24)
  have hB4 := below_trans hA hA4
  have hwork := Unpack1_is w.heap.size (w.heap.size + 1) (w.heap.size + 1 + 1 + 1) A c x n (W0.alloc (.cells #[.int .i64 0] 24)) (hS.next hB4) (hb1.alloc _).cell (hbn.alloc _).cell (hb3.alloc _)
  have hct := caught_any 75 _ (w.heap.size + 1 + 1 + 1) W0 (by omega) (enters_of Tryd.func75 (by kernel_rfl) rfl) _ _ hwork
  have HW0 := Lib.hid hW0
  clear hwork hA4 hB4 hb1 hbn hb3 hW0
  go_enter Tryd.func61, Tryd.ntmps61
  go_wp2_with fail
  rw [HW0.out]
  go_at_call 66
  refine hct.mono ?_
  rintro e w' ⟨w1, m, hK, rfl, rfl, hlt, hR⟩
  have hBf : Below w.heap.size w (w1.setCell ⟨W0.heap.size, 0, none⟩ (.int .i64 m)) := (below_of_keep hK hA (by omega) (by omega)).setCell (p := ⟨W0.heap.size, 0, none⟩) (by show w.heap.size ≤ W0.heap.size; omega) _
  have hb2' : Rowed w1 (w.heap.size + 1 + 1) 28 (c3 0 0 0) := (hK.2 _ (by omega) (by omega)).trans hb2
  have hb2w := hb2'.other W0.heap.size 0 (.int .i64 m) (by omega)
  clear hct
  rcases hR with ⟨rfl, a, b, d, hg, hv⟩ | ⟨rfl, hg, hv⟩
  · have hvw := hv.other W0.heap.size 0 (.int .i64 0) (by omega)
    have Hg := Lib.hid hg
    clear hg
    generalize w1.setCell ⟨W0.heap.size, 0, none⟩ (.int .i64 0) = w2 at *
    have hrow := setRow_heap w2 (w.heap.size + 1 + 1) (c3 0 0 0) (c3 a b d) _ _ hb2w
    have hB3 := below_setRow hBf (w.heap.size + 1 + 1) (c3 a b d) (by omega)
    go_wp2_with (first
      | (refine wpList_load_row rfl 28 (.tmp 6) rfl (w.heap.size + 1 + 1 + 1) rfl _ (c3 a b d) _ _ hvw Tryd.underlying28 rfl (size_c3 a b d) ?_)
      | (refine wpList_store_row rfl 28 (.tmp 4) (.tmp 10) rfl (w.heap.size + 1 + 1) (c3 a b d) rfl rfl _ _ hb2w (size_c3 a b d) rfl (one_c3 a b d) ?_))
    refine bodyPost_ret (v := .tuple #[v3 a b d, .int .i64 0]) ?_ rfl ⟨hB3, .inl ⟨a, b, d, Hg.out, rfl⟩⟩
    exact results_cell_slot (p := 4) (q := 5) rfl _ _ (w.heap.size + 1 + 1) _ _ _ _ rfl hrow Tryd.underlying28 rfl (size_c3 a b d)
  · have hvw := hv.other W0.heap.size 0 (.int .i64 2) (by omega)
    have Hg := Lib.hid hg
    clear hg
    generalize w1.setCell ⟨W0.heap.size, 0, none⟩ (.int .i64 2) = w2 at *
    have hrow := setRow_heap w2 (w.heap.size + 1 + 1) (c3 0 0 0) (c3 0 0 0) _ _ hb2w
    have hB3 := below_setRow hBf (w.heap.size + 1 + 1) (c3 0 0 0) (by omega)
    go_wp2_with (first
      | (refine wpList_load_row rfl 28 (.tmp 6) rfl (w.heap.size + 1 + 1 + 1) rfl _ (c3 0 0 0) _ _ hvw Tryd.underlying28 rfl (size_c3 0 0 0) ?_)
      | (refine wpList_store_row rfl 28 (.tmp 4) (.tmp 10) rfl (w.heap.size + 1 + 1) (c3 0 0 0) rfl rfl _ _ hb2w (size_c3 0 0 0) rfl (one_c3 0 0 0) ?_))
    refine bodyPost_ret (v := .tuple #[v3 0 0 0, .int .i64 2]) ?_ rfl ⟨hB3, .inr ⟨Hg.out, rfl⟩⟩
    exact results_cell_slot (p := 4) (q := 5) rfl _ _ (w.heap.size + 1 + 1) _ _ _ _ rfl hrow Tryd.underlying28 rfl (size_c3 0 0 0)
end Go.Proofs.YtnlndaknljbhcaaDoor
