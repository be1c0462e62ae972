/- Contracts of turn.Behind, Trit. -/
import Derived.Test.YtniiblamoimcjaaDoorTuH
namespace Go.Proofs.YtniiblamoimcjaaDoor
open Go.RowKit Go.Shelf
attribute [local go_sem] Oper.semAt_some run_store_func

/-- Work that sets one byte. -/
theorem Behind1_is (b1 b2 b3 : Nat) (a t : UInt8) (W : World) (hT : Tab W) (h1 : W.cell? ⟨b1, 0, none⟩ = some (eB a)) (h2 : W.cell? ⟨b2, 0, none⟩ = some (eB t)) (h3 : Boxed W b3 5 (eB 0)) :
    WorkIs 21 #[.pointer (some ⟨b1, 0, none⟩), .pointer (some ⟨b2, 0, none⟩), .pointer (some ⟨b3, 0, none⟩)] b3 W
      (fun w' => ∃ c, behG a t = .ok c ∧ Boxed w' b3 5 (eB c)) (fun n w' => behG a t = .error n ∧ Boxed w' b3 5 (eB 0)) := by
  have hb := behind_any a t W hT
  have hl := h3.lt
  unfold WorkIs
  go_enter Tryd.func21, Tryd.ntmps21
  go_wp2_with fail
  go_at_call 22
  refine hb.mono ?_
  rintro e w1 ⟨hB, ⟨c, hc, rfl⟩ | ⟨n, hn, rfl⟩⟩
  · have h3' : Boxed w1 b3 5 (eB 0) := (hB.block _ hl).trans h3
    have hcc := h3'.cell
    have hf := h3'.frozen
    have hset := h3'.set (eB c)
    have hK : Keep W.heap.size b3 W (w1.setCell ⟨b3, 0, none⟩ (eB c)) := keep_t (keep_of hB) (keep_set _ _ _ _ _)
    have Hc := Lib.hid hc
    clear hc hb
    go_wp2
    go_end0
    exact ⟨hK, .inl ⟨⟨_, rfl⟩, c, Hc.out, hset⟩⟩
  · exact ⟨rfl, keep_of hB, .inr ⟨n, rfl, hn, (hB.block _ hl).trans h3⟩⟩
set_option maxRecDepth 100000 in
set_option maxHeartbeats 1000000 in
theorem Behind_any (a t : UInt8) (w : World) (hT : Tab w) :
    Calls Tryd.prog 9 #[eB a, eB t] w fun e w' => Below w.heap.size w w' ∧ ((∃ c, behG a t = .ok c ∧ e = .returned (.tuple #[eB c, .int .i64 0])) ∨ ∃ n, behG a t = .error n ∧ e = .returned (.tuple #[eB 0, .int .i64 n])) := by
  have hmf : ∀ (fn : Fn) (first cap : Array Value) (w : World), (Instr.makeFunc fn first cap).run Tryd.prog w = .ok (.func fn first cap) w := fun _ _ _ _ => rfl
  have hb1 := ((Boxed.new w 5 (eB a)).alloc (.cells #[eB t] 5)).alloc (.cells #[.int .u8 0] 5)
  have hb2 := (Boxed.new (w.alloc (.cells #[eB a] 5)) 5 (eB t)).alloc (.cells #[.int .u8 0] 5)
  have hb3 : Boxed (((w.alloc (.cells #[eB a] 5)).alloc (.cells #[eB t] 5)).alloc (.cells #[.int .u8 0] 5)) ((w.alloc (.cells #[eB a] 5)).alloc (.cells #[eB t] 5)).heap.size 5 (eB 0) := Boxed.new _ _ _
  rw [World.size_alloc] at hb2
  rw [World.size_alloc, World.size_alloc] at hb3
  have hA : Below w.heap.size w (((w.alloc (.cells #[eB a] 5)).alloc (.cells #[eB t] 5)).alloc (.cells #[.int .u8 0] 5)) := (((Below.refl _ w).alloc (Nat.le_refl _) _).alloc (by simp) _).alloc (by simp; omega) _
  have hs0 : (((w.alloc (.cells #[eB a] 5)).alloc (.cells #[eB t] 5)).alloc (.cells #[.int .u8 0] 5)).heap.size = w.heap.size + 3 := by simp
  have hcs := hb3.cell
  have hfs := hb3.frozen
  obtain ⟨W0, hW0⟩ : ∃ W0, ((w.alloc (.cells #[eB a] 5)).alloc (.cells #[eB t] 5)).alloc (.cells #[.int .u8 0] 5) = W0 := ⟨_, rfl⟩
  rw [hW0] at hb1 hb2 hb3 hA hs0
  have hA4 := below_alloc W0 (.cells #[.int .i64 0] 24)
  have hB4 := below_trans hA hA4
  have hwork := Behind1_is w.heap.size (w.heap.size + 1) (w.heap.size + 1 + 1) a t (W0.alloc (.cells #[.int .i64 0] 24)) (hT.below hB4) (hb1.alloc _).cell (hb2.alloc _).cell (hb3.alloc _)
  have hct := caught_any 21 _ (w.heap.size + 1 + 1) W0 (by omega) (enters_of Tryd.func21 (by kernel_rfl) rfl) _ _ hwork
  have HW0 := Lib.hid hW0
  clear hwork hA4 hB4 hb1 hb2 hb3 hW0
  go_enter Tryd.func9, Tryd.ntmps9
  go_wp2_with fail
  rw [HW0.out]
  go_at_call 20
  refine hct.mono ?_
  rintro e w' ⟨w1, n, hK, rfl, rfl, hlt, hR⟩
  have hBf : Below w.heap.size w (w1.setCell ⟨W0.heap.size, 0, none⟩ (.int .i64 n)) := (below_of_keep hK hA (by omega) (by omega)).setCell (p := ⟨W0.heap.size, 0, none⟩) (by show w.heap.size ≤ W0.heap.size; omega) _
  clear hct hcs hfs
  rcases hR with ⟨rfl, c, hg, hv⟩ | ⟨hg, hv⟩
  · have hc := (Boxed.set_other (b' := W0.heap.size) (y := .int .i64 0) hv (by omega)).cell
    have Hg := Lib.hid hg
    clear hg
    generalize w1.setCell ⟨W0.heap.size, 0, none⟩ (.int .i64 0) = w2 at *
    go_wp2_with fail
    go_ret2
    exact ⟨hBf, .inl ⟨c, Hg.out, rfl⟩⟩
  · have hc := (Boxed.set_other (b' := W0.heap.size) (y := .int .i64 n) hv (by omega)).cell
    have Hg := Lib.hid hg
    clear hg
    generalize w1.setCell ⟨W0.heap.size, 0, none⟩ (.int .i64 n) = w2 at *
    go_wp2_with fail
    go_ret2
    exact ⟨hBf, .inr ⟨n, Hg.out, rfl⟩⟩
/-- Work that sets one byte. -/
theorem Trit1_is (b1 b2 b3 : Nat) (a t : UInt8) (W : World) (hT : Tab W) (h1 : W.cell? ⟨b1, 0, none⟩ = some (eB a)) (h2 : W.cell? ⟨b2, 0, none⟩ = some (eB t)) (h3 : Boxed W b3 5 (eB 0)) :
    WorkIs 25 #[.pointer (some ⟨b1, 0, none⟩), .pointer (some ⟨b2, 0, none⟩), .pointer (some ⟨b3, 0, none⟩)] b3 W
      (fun w' => ∃ c, triG a t = .ok c ∧ Boxed w' b3 5 (eB c)) (fun n w' => triG a t = .error n ∧ Boxed w' b3 5 (eB 0)) := by
  have hb := trit_any a t W hT
  have hl := h3.lt
  unfold WorkIs
  go_enter Tryd.func25, Tryd.ntmps25
  go_wp2_with fail
  go_at_call 26
  refine hb.mono ?_
  rintro e w1 ⟨hB, ⟨c, hc, rfl⟩ | ⟨n, hn, rfl⟩⟩
  · have h3' : Boxed w1 b3 5 (eB 0) := (hB.block _ hl).trans h3
    have hcc := h3'.cell
    have hf := h3'.frozen
    have hset := h3'.set (eB c)
    have hK : Keep W.heap.size b3 W (w1.setCell ⟨b3, 0, none⟩ (eB c)) := keep_t (keep_of hB) (keep_set _ _ _ _ _)
    have Hc := Lib.hid hc
    clear hc hb
    go_wp2
    go_end0
    exact ⟨hK, .inl ⟨⟨_, rfl⟩, c, Hc.out, hset⟩⟩
  · exact ⟨rfl, keep_of hB, .inr ⟨n, rfl, hn, (hB.block _ hl).trans h3⟩⟩
set_option maxRecDepth 100000 in
set_option maxHeartbeats 1000000 in
theorem Trit_any (a t : UInt8) (w : World) (hT : Tab w) :
    Calls Tryd.prog 11 #[eB a, eB t] w fun e w' => Below w.heap.size w w' ∧ ((∃ c, triG a t = .ok c ∧ e = .returned (.tuple #[eB c, .int .i64 0])) ∨ ∃ n, triG a t = .error n ∧ e = .returned (.tuple #[eB 0, .int .i64 n])) := by
  have hmf : ∀ (fn : Fn) (first cap : Array Value) (w : World), (Instr.makeFunc fn first cap).run Tryd.prog w = .ok (.func fn first cap) w := fun _ _ _ _ => rfl
  have hb1 := ((Boxed.new w 5 (eB a)).alloc (.cells #[eB t] 5)).alloc (.cells #[.int .u8 0] 5)
  have hb2 := (Boxed.new (w.alloc (.cells #[eB a] 5)) 5 (eB t)).alloc (.cells #[.int .u8 0] 5)
  have hb3 : Boxed (((w.alloc (.cells #[eB a] 5)).alloc (.cells #[eB t] 5)).alloc (.cells #[.int .u8 0] 5)) ((w.alloc (.cells #[eB a] 5)).alloc (.cells #[eB t] 5)).heap.size 5 (eB 0) := Boxed.new _ _ _
  rw [World.size_alloc] at hb2
  rw [World.size_alloc, World.size_alloc] at hb3
  have hA : Below w.heap.size w (((w.alloc (.cells #[eB a] 5)).alloc (.cells #[eB t] 5)).alloc (.cells #[.int .u8 0] 5)) := (((Below.refl _ w).alloc (Nat.le_refl _) _).alloc (by simp) _).alloc (by simp; omega) _
  have hs0 : (((w.alloc (.cells #[eB a] 5)).alloc (.cells #[eB t] 5)).alloc (.cells #[.int .u8 0] 5)).heap.size = w.heap.size + 3 := by simp
  have hcs := hb3.cell
  have hfs := hb3.frozen
  obtain ⟨W0, hW0⟩ : ∃ W0, ((w.alloc (.cells #[eB a] 5)).alloc (.cells #[eB t] 5)).alloc (.cells #[.int .u8 0] 5) = W0 := ⟨_, rfl⟩
  rw [hW0] at hb1 hb2 hb3 hA hs0
  have hA4 := below_alloc W0 (.cells #[.int .i64 0] 24)
  have hB4 := below_trans hA hA4
  have hwork := Trit1_is w.heap.size (w.heap.size + 1) (w.heap.size + 1 + 1) a t (W0.alloc (.cells #[.int .i64 0] 24)) (hT.below hB4) (hb1.alloc _).cell (hb2.alloc _).cell (hb3.alloc _)
  have hct := caught_any 25 _ (w.heap.size + 1 + 1) W0 (by omega) (enters_of Tryd.func25 (by kernel_rfl) rfl) _ _ hwork
  have HW0 := Lib.hid hW0
  clear hwork hA4 hB4 hb1 hb2 hb3 hW0
  go_enter Tryd.func11, Tryd.ntmps11
  go_wp2_with fail
  rw [HW0.out]
  go_at_call 20
  refine hct.mono ?_
  rintro e w' ⟨w1, n, hK, rfl, rfl, hlt, hR⟩
  have hBf : Below w.heap.size w (w1.setCell ⟨W0.heap.size, 0, none⟩ (.int .i64 n)) := (below_of_keep hK hA (by omega) (by omega)).setCell (p := ⟨W0.heap.size, 0, none⟩) (by show w.heap.size ≤ W0.heap.size; omega) _
  clear hct hcs hfs
  rcases hR with ⟨rfl, c, hg, hv⟩ | ⟨hg, hv⟩
  · have hc := (Boxed.set_other (b' := W0.heap.size) (y := .int .i64 0) hv (by omega)).cell
    have Hg := Lib.hid hg
    clear hg
    generalize w1.setCell ⟨W0.heap.size, 0, none⟩ (.int .i64 0) = w2 at *
    go_wp2_with fail
    go_ret2
    exact ⟨hBf, .inl ⟨c, Hg.out, rfl⟩⟩
  · have hc := (Boxed.set_other (b' := W0.heap.size) (y := .int .i64 n) hv (by omega)).cell
    have Hg := Lib.hid hg
    clear hg
    generalize w1.setCell ⟨W0.heap.size, 0, none⟩ (.int .i64 n) = w2 at *
    go_wp2_with fail
    go_ret2
    exact ⟨hBf, .inr ⟨n, Hg.out, rfl⟩⟩
end Go.Proofs.YtniiblamoimcjaaDoor
