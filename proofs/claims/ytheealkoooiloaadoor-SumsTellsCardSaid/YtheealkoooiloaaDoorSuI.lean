/- Contracts of sums.pack, Pack. -/
import Derived.Test.YtheealkoooiloaaDoorSuH
namespace Go.Proofs.YtheealkoooiloaaDoor
open Go.RowKit Go.Shelf
attribute [local go_sem] Oper.semAt_some run_store_func

/-- The bits of sums. -/
def packL (a b c n : Nat) : List UInt8 := bitsOf 0 (zb n) ++ bitsOf a (tb n) ++ bitsOf b 2 ++ bitsOf c (wb n)
theorem packL_length (a b c n : Nat) : (packL a b c n).length = longN n := by simp [packL, bitsOf_length, longN]; omega
theorem below_grow {B b : Nat} {w W W' : World} {v v' : Value} (h : Grow b W v W' v') (hB : Below B w W) (hbW : B ≤ W.heap.size) (hb : B ≤ b) (hv : ∀ k, v.ownBlock = some k → B ≤ k) : Below B w W' :=
  ⟨h.1.1.trans hB.os, h.1.2.1.trans hB.tape, h.1.2.2.1.trans hB.output, Nat.le_trans hB.size h.1.2.2.2, fun k hk => (h.2.1 k (by omega) (by omega) (fun e => by have := hv k e.symm; omega)).trans (hB.block k hk)⟩
set_option maxRecDepth 100000 in
set_option maxHeartbeats 8000000 in
theorem pack_any (a b c n : Nat) (h2 : 2 ≤ n) (h1 : n ≤ 1000) (w : World) :
    Calls Tryd.prog 30 #[v3 a b c, .int .i64 n] w fun e w' => ∃ v, e = .returned v ∧ w'.ownsRow 0 5 1 v (longN n) ((packL a b c n).map eB) ∧ Below w.heap.size w w' ∧ ∀ k, v.ownBlock = some k → w.heap.size ≤ k := by
  have hmf : ∀ (fn : Fn) (first cap : Array Value) (w : World), (Instr.makeFunc fn first cap).run Tryd.prog w = .ok (.func fn first cap) w := fun _ _ _ _ => rfl
  obtain ⟨i0, hi, hz0, hz1, hz2⟩ := info_parts info_u8
  have hLg := fun w => Long_yes n h2 h1 w
  have hWd := fun w => widths_any n h2 h1 w
  have ht10 := tb_le n h1
  have hw13 := wb_le n h1
  have hz2' : zb n ≤ 1 := by unfold zb; omega
  have Hl := Lib.hid (show longN n = zb n + tb n + 2 + wb n from rfl)
  have Hp := Lib.hid (show packL a b c n = bitsOf 0 (zb n) ++ bitsOf a (tb n) ++ bitsOf b 2 ++ bitsOf c (wb n) from rfl)
  have hln : longN n ≤ 1000 := by unfold longN; omega
  generalize packL a b c n = PL at *
  generalize longN n = L at *
  generalize zb n = z at *
  generalize tb n = t at *
  generalize wb n = u at *
  obtain ⟨C, hCs, hmk⟩ : ∃ C : Array Value, C.size = L ∧ ∀ w, (Instr.makeSlice 22 (.int .i64 0) (.int .i64 (L : Int))).run Tryd.prog w = .ok (.slice (some ⟨w.heap.size, 0, none⟩) 0 L) (w.alloc (.cells C 5)) := by
    refine ⟨madeCells (Value.cells (.int .u8 0)) (L * i0.size), by simp [madeCells, hz1, Value.cells], fun w => ?_⟩
    have := run_make (P := Tryd.prog) w 22 5 i0 (.int .u8 0) Tryd.underlying22 hi hz0 .i64 .i64 0 (L : Int) (by omega) (by omega) (by rw [hz2]; omega) (by omega)
    simpa using this
  have hcl : (v3 a b c).cells = c3 a b c := rfl
  have hr := Rowed.new w 24 (c3 a b c)
  have hA0 := below_alloc w (.cells (c3 a b c) 24)
  have hlt0 := hr.lt
  have hbd : ∀ (a b c d : Int) w, (Instr.build 58 #[(0, .int .i64 a), (1, .int .i64 b), (2, .int .i64 c), (3, .int .i64 d)]).run Tryd.prog w = .ok (v4 a b c d) w := fun _ _ _ _ _ => by kernel_rfl
  go_enter Tryd.func30, Tryd.ntmps30
  go_wp2_with fail
  generalize w.alloc (.cells (c3 a b c) 24) = w0 at *
  go_at_call 19
  refine (hLg _).mono ?_
  rintro e w1 ⟨rfl, hB1⟩
  have hr1 := hr.below hB1 hlt0
  have hA1 := hA0.trans (hB1.mono hA0.size)
  have hlt1 := hr1.lt
  have hrA := (hr1.alloc (.cells C 5)).alloc (.cells #[.slice (some ⟨w1.heap.size, 0, none⟩) 0 L] 22)
  have k0 := hrA.cell 0
  have k1 := hrA.cell 1
  have k2 := hrA.cell 2
  simp at k0 k1 k2
  have hbx := Boxed.new (w1.alloc (.cells C 5)) 22 (.slice (some ⟨w1.heap.size, 0, none⟩) 0 L)
  rw [World.size_alloc] at hbx
  have hrw : ((w1.alloc (.cells C 5)).alloc (.cells #[.slice (some ⟨w1.heap.size, 0, none⟩) 0 L] 22)).ownsRow 0 5 1 (.slice (some ⟨w1.heap.size, 0, none⟩) 0 L) 0 ([].map eB) :=
    ⟨rfl, .inr ⟨w1.heap.size, L, C, rfl, Nat.zero_le _, (Rowed.new w1 5 C).alloc _, Nat.zero_le _, by unfold maxLen; omega, by omega, by simp⟩⟩
  have hA2 := (hA1.alloc hA1.size (.cells C 5)).alloc (by have := hA1.size; simp; omega) (.cells #[.slice (some ⟨w1.heap.size, 0, none⟩) 0 L] 22)
  have hs2 : ((w1.alloc (.cells C 5)).alloc (.cells #[.slice (some ⟨w1.heap.size, 0, none⟩) 0 L] 22)).heap.size = w1.heap.size + 2 := by simp
  clear hr hr1 hrA hA0 hA1 hB1 hLg
  go_wp2_with fail
  have hbx3 := hbx.alloc (.cells #[.int .i64 0, .int .i64 a, .int .i64 b, .int .i64 c] 58)
  have hrw3 : (((w1.alloc (.cells C 5)).alloc (.cells #[.slice (some ⟨w1.heap.size, 0, none⟩) 0 L] 22)).alloc (.cells #[.int .i64 0, .int .i64 a, .int .i64 b, .int .i64 c] 58)).ownsRow 0 5 1 (.slice (some ⟨w1.heap.size, 0, none⟩) 0 L) 0 ([].map eB) := hrw.alloc _
  have hpt := Rowed.new ((w1.alloc (.cells C 5)).alloc (.cells #[.slice (some ⟨w1.heap.size, 0, none⟩) 0 L] 22)) 58 #[.int .i64 0, .int .i64 a, .int .i64 b, .int .i64 c]
  rw [hs2] at hpt
  have hA3 := hA2.alloc hA2.size (.cells #[.int .i64 0, .int .i64 a, .int .i64 b, .int .i64 c] 58)
  have hs3 : (((w1.alloc (.cells C 5)).alloc (.cells #[.slice (some ⟨w1.heap.size, 0, none⟩) 0 L] 22)).alloc (.cells #[.int .i64 0, .int .i64 a, .int .i64 b, .int .i64 c] 58)).heap.size = w1.heap.size + 3 := by simp
  clear hbx hrw hA2 hs2 k0 k1 k2 hmk hcl hbd
  generalize ((w1.alloc (.cells C 5)).alloc (.cells #[.slice (some ⟨w1.heap.size, 0, none⟩) 0 L] 22)).alloc (.cells #[.int .i64 0, .int .i64 a, .int .i64 b, .int .i64 c] 58) = w3 at *
  go_at_call 37
  refine (hWd _).mono ?_
  rintro e w4 ⟨rfl, hB4⟩
  have hA4 := hA3.trans (hB4.mono hA3.size)
  have hsz4 := hB4.size
  have hv0 : Boxed w4 (w1.heap.size + 1) 22 (.slice (some ⟨w1.heap.size, 0, none⟩) 0 L) := (hB4.block _ hbx3.lt).trans hbx3
  have hr0 : w4.ownsRow 0 5 1 (.slice (some ⟨w1.heap.size, 0, none⟩) 0 L) 0 ([].map eB) := World.ownsRow.kept hrw3 (row := none) ⟨hB4.os, hB4.tape, hB4.output, hB4.size, fun k hk _ => hB4.block k hk⟩ (.inr (by simp [Value.ownBlock]))
  have hp0 : Rowed w4 (w1.heap.size + 2) 58 #[.int .i64 0, .int .i64 a, .int .i64 b, .int .i64 c] := (hB4.block _ (by omega)).trans hpt
  have hG0 : Grow (w1.heap.size + 1) w4 (.slice (some ⟨w1.heap.size, 0, none⟩) 0 L) w4 (.slice (some ⟨w1.heap.size, 0, none⟩) 0 L) := grow_r _ _ _
  have hlt4 : w1.heap.size + 3 ≤ w4.heap.size := by omega
  clear hbx3 hrw3 hpt hA3 hB4 hWd hs3 hsz4
  have j0 : ∀ w, (Instr.index 58 (v4 z t 2 u) (.int .i64 0)).run Tryd.prog w = .ok (.int .i64 z) w := fun _ => by kernel_rfl
  have j1 : ∀ w, (Instr.index 58 (v4 z t 2 u) (.int .i64 1)).run Tryd.prog w = .ok (.int .i64 t) w := fun _ => by kernel_rfl
  have j2 : ∀ w, (Instr.index 58 (v4 z t 2 u) (.int .i64 2)).run Tryd.prog w = .ok (.int .i64 2) w := fun _ => by kernel_rfl
  have j3 : ∀ w, (Instr.index 58 (v4 z t 2 u) (.int .i64 3)).run Tryd.prog w = .ok (.int .i64 u) w := fun _ => by kernel_rfl
  have hpp : ∀ {W : World} {v' : Value}, Grow (w1.heap.size + 1) w4 (.slice (some ⟨w1.heap.size, 0, none⟩) 0 L) W v' → Rowed W (w1.heap.size + 2) 58 #[.int .i64 0, .int .i64 a, .int .i64 b, .int .i64 c] := fun h => (h.2.1 _ (by omega) (by omega) (by simp [Value.ownBlock])).trans hp0
  have c0 := hp0.cell 0
  simp at c0
  go_wp2_with fail
  refine wp_loop_rounds 6 ?_
  rw [rounds_succ]
  go_wp2_with fail
  refine (put_any 0 z (w1.heap.size + 1) 0 (by omega) (by omega) (.slice (some ⟨w1.heap.size, 0, none⟩) 0 L) [] w4 hv0 hr0).mono ?_
  rintro e W1 ⟨rfl, u1, hv1, hr1, hg⟩
  have hG1 := grow_t hG0 hg
  have c1 := (hpp hG1).cell 1
  simp at c1
  clear hg hv0 hr0 hG0 c0
  go_wp2_with fail
  rw [rounds_succ]
  go_wp2_with fail
  refine (put_any a t (w1.heap.size + 1) (0 + z) (by omega) (by omega) u1 ([] ++ bitsOf 0 z) W1 hv1 hr1).mono ?_
  rintro e W2 ⟨rfl, u2, hv2, hr2, hg⟩
  have hG2 := grow_t hG1 hg
  have c2 := (hpp hG2).cell 2
  simp at c2
  clear hg hv1 hr1 hG1 c1
  go_wp2_with fail
  rw [rounds_succ]
  go_wp2_with fail
  refine (put_any b 2 (w1.heap.size + 1) (0 + z + t) (by omega) (by omega) u2 ([] ++ bitsOf 0 z ++ bitsOf a t) W2 hv2 hr2).mono ?_
  rintro e W3 ⟨rfl, u3, hv3, hr3, hg⟩
  have hG3 := grow_t hG2 hg
  have c3 := (hpp hG3).cell 3
  simp at c3
  clear hg hv2 hr2 hG2 c2
  go_wp2_with fail
  rw [rounds_succ]
  go_wp2_with fail
  refine (put_any c u (w1.heap.size + 1) (0 + z + t + 2) (by omega) (by omega) u3 ([] ++ bitsOf 0 z ++ bitsOf a t ++ bitsOf b 2) W3 hv3 hr3).mono ?_
  rintro e W4 ⟨rfl, u4, hv4, hr4, hg⟩
  have hG4 := grow_t hG3 hg
  clear hg hv3 hr3 hG3 c3
  have cb := hv4.cell
  go_wp2_with fail
  rw [rounds_succ]
  go_wp2_with fail
  go_ret
  refine ⟨u4, rfl, ?_, below_grow hG4 hA4 (by omega) (by omega) (fun k hk => by simp [Value.ownBlock] at hk; omega), fun k hk => ?_⟩
  · rw [Hl.out, Hp.out]
    simpa using hr4
  · rcases hG4.2.2 k hk with e | e
    · simp [Value.ownBlock] at e; omega
    · omega
end Go.Proofs.YtheealkoooiloaaDoor
