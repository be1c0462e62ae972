/- Contract of bits.Number. -/
import Derived.Test.YtbkmnpagmpkcjaaDoorBtF
namespace Go.Proofs.YtbkmnpagmpkcjaaDoor
open Go.RowKit Go.Shelf
attribute [local go_sem] Oper.semAt_some

/-- A block of memory that holds these cells. -/
def Rowed (W : World) (g : Nat) (t : TypeId) (cs : Array Value) : Prop := W.heap[g]? = some (.cells cs t (0, 0))
theorem Rowed.lt {W : World} {g : Nat} {t : TypeId} {cs : Array Value} (h : Rowed W g t cs) : g < W.heap.size := (Array.getElem?_eq_some_iff.1 h).1
theorem Rowed.cell {W : World} {g : Nat} {t : TypeId} {cs : Array Value} (h : Rowed W g t cs) (j : Nat) : W.cell? ⟨g, j, none⟩ = cs[j]? := by simp [World.cell?, show W.heap[g]? = _ from h]
theorem Rowed.frozen {W : World} {g : Nat} {t : TypeId} {cs : Array Value} (h : Rowed W g t cs) (j : Nat) : W.frozen? ⟨g, j, none⟩ = false := by simp [World.frozen?, show W.heap[g]? = _ from h]
theorem Rowed.set {W : World} {g : Nat} {t : TypeId} {cs : Array Value} (j : Nat) (v : Value) (h : Rowed W g t cs) : Rowed (W.setCell ⟨g, j, none⟩ v) g t (cs.setIfInBounds j v) := by
  obtain ⟨hlt, hk⟩ := Array.getElem?_eq_some_iff.1 h
  show (W.heap.modify g _)[g]? = _
  rw [Array.getElem?_eq_getElem (by rw [Array.size_modify]; exact hlt), Array.getElem_modify_self, hk]
  rfl
theorem grownBy_setCellAt (W : World) (b j : Nat) (v : Value) : W.grownBy (W.setCell ⟨b, j, none⟩ v) (some b) :=
  ⟨rfl, rfl, rfl, (KeepsWalks.setCell W _ v).size, fun k _ hk => Below.heap_setCell _ _ _ k (fun e => hk (by rw [e]))⟩

/-- The bits of a number, the highest first, of which k are put. -/
def numAt (x m k : Nat) : Array Value := ((List.range m).map fun j => if j < k then eB (bitAt x (m - 1 - j)) else .int .u8 0).toArray
/-- The bits of a number, the highest first. -/
def numOf (x m : Nat) : List UInt8 := (List.range m).map fun j => bitAt x (m - 1 - j)
theorem numAt_size (x m k : Nat) : (numAt x m k).size = m := by simp [numAt]
theorem numAt_set (x m k : Nat) (_h : k < m) : (numAt x m k).setIfInBounds k (eB (bitAt x (m - 1 - k))) = numAt x m (k + 1) := by
  apply Array.ext
  · simp [numAt]
  · intro j h1 h2
    simp only [numAt_size] at h2
    rw [Array.getElem_setIfInBounds (by simpa [numAt_size] using h2)]
    simp only [numAt, List.getElem_toArray, List.getElem_map, List.getElem_range]
    by_cases hj : k = j
    · subst hj; simp
    · rw [if_neg hj]
      by_cases h3 : j < k
      · rw [if_pos h3, if_pos (by omega)]
      · rw [if_neg h3, if_neg (by omega)]
theorem numAt_all (x m : Nat) : numAt x m m = ((numOf x m).map eB).toArray := by
  simp only [numAt, numOf, List.map_map]
  congr 1
  apply List.map_congr_left
  intro j hj
  simp only [List.mem_range] at hj
  rw [if_pos hj]
  rfl
theorem need_quiet (x : Int) (h0 : 0 ≤ x) (h1 : x ≤ 18446744073709551615) (w : World) :
    Calls Tryd.prog 14 #[.int .u64 x] w fun e w' => e = .returned (.int .i64 (Lib.bitLen x.toNat)) ∧ w' = w := (Need_any x h0 h1 w).mono fun _ _ h => ⟨h.1, h.2.symm⟩

set_option maxRecDepth 100000 in
set_option maxHeartbeats 2000000 in
theorem Number_yes (x m : Nat) (hx : x < 18446744073709551616) (hm : m ≤ 64) (hl : Lib.bitLen x ≤ m) (w : World) :
    Calls Tryd.prog 15 #[.int .u64 x, .int .i64 m] w fun e W' => ∃ v, Below w.heap.size w W' ∧ e = .returned (.tuple #[v, .int .i64 0]) ∧ Sl eB W'.heap.size W' v (numOf x m) := by
  obtain ⟨i0, hi, hz0, hz1, hz2⟩ := info_parts info_u8
  have hneed := fun w => need_quiet (x : Int) (by omega) (by omega) w
  simp only [Int.toNat_natCast] at hneed
  have d1 : decide ((m : Int) < 0) = false := decide_eq_false (by omega)
  have d2 : decide ((64 : Int) < m) = false := decide_eq_false (by omega)
  have d3 : decide ((m : Int) < Lib.bitLen x) = false := decide_eq_false (by omega)
  have d4 : decide (m < Lib.bitLen x) = false := decide_eq_false (by omega)
  have hmk : ∀ w, (Instr.makeSlice 24 (.int .i64 (m : Int)) (.int .i64 (m : Int))).run Tryd.prog w = .ok (.slice (some ⟨w.heap.size, 0, none⟩) m m) (w.alloc (.cells (numAt x m 0) 5)) := by
    intro w
    have h1 := run_make w 24 5 i0 (.int .u8 0) Tryd.underlying24 hi hz0 .i64 .i64 (m : Int) (m : Int) (by omega) (by omega) (by rw [hz2]; omega) (by omega)
    have h2 : madeCells (Value.int .u8 0).cells ((m : Int).toNat * i0.size) = numAt x m 0 := by
      rw [hz1]
      apply Array.ext
      · simp [madeCells, numAt, Value.cells]
      · intro j _ _
        simp [madeCells, numAt, Value.cells, Nat.mod_one]
    rw [h2] at h1
    simpa using h1
  go_enter Tryd.func15, Tryd.ntmps15
  go_wp2_with fail
  obtain ⟨W0, hW0⟩ : ∃ W0, (w.alloc (Obj.cells #[Value.int IntKind.u64 x] 34)).alloc (Obj.cells #[Value.int IntKind.i64 m] 3) = W0 := ⟨_, rfl⟩
  have hB0 : Below w.heap.size w W0 := by rw [← hW0]; exact ((Below.refl _ w).alloc (Nat.le_refl _) _).alloc (by simp) _
  have hs0 : W0.heap.size = w.heap.size + 2 := by rw [← hW0]; simp
  have b1 : Boxed W0 w.heap.size 34 (.int .u64 x) := by rw [← hW0]; exact (Boxed.new w 34 (.int .u64 x)).alloc _
  have b2 : Boxed W0 (w.heap.size + 1) 3 (.int .i64 m) := by
    rw [← hW0]
    have := Boxed.new (w.alloc (Obj.cells #[Value.int IntKind.u64 x] 34)) 3 (.int .i64 m)
    simpa only [World.size_alloc] using this
  rw [hW0]
  clear hW0
  have c1 := b1.cell
  have c2 := b2.cell
  go_quiet ((go_at_call 14; exact Calls.quiet_of_same (hneed _)))
  obtain ⟨W1, hW1⟩ : ∃ W1, W0.drewN nq = W1 := ⟨_, rfl⟩
  have hB1 : Below w.heap.size w W1 := by rw [← hW1]; exact hB0.trans (below_drewN _ _)
  have hs1 : W1.heap.size = w.heap.size + 2 := by rw [← hW1]; exact hs0
  have b1 : Boxed W1 w.heap.size 34 (.int .u64 x) := by rw [← hW1]; exact b1
  have b2 : Boxed W1 (w.heap.size + 1) 3 (.int .i64 m) := by rw [← hW1]; exact b2
  rw [hW1]
  clear hW1 hB0 hs0
  have c1 := b1.cell
  have c2 := b2.cell
  go_wp2_with fail
  obtain ⟨W2, hW2⟩ : ∃ W2, (W1.alloc (Obj.cells (numAt x m 0) 5)).alloc (Obj.cells #[Value.slice (some { block := w.heap.size + 2, off := 0 }) m m] 24) = W2 := ⟨_, rfl⟩
  have hB2 : Below w.heap.size w W2 := by rw [← hW2]; exact (hB1.alloc (by omega) _).alloc (by simp; omega) _
  have b1 : Boxed W2 w.heap.size 34 (.int .u64 x) := by rw [← hW2]; exact (b1.alloc _).alloc _
  have b2 : Boxed W2 (w.heap.size + 1) 3 (.int .i64 m) := by rw [← hW2]; exact (b2.alloc _).alloc _
  have b3 : Boxed W2 (w.heap.size + 2 + 1) 24 (Value.slice (some { block := w.heap.size + 2, off := 0 }) m m) := by
    rw [← hW2]
    have := Boxed.new (W1.alloc (Obj.cells (numAt x m 0) 5)) 24 (Value.slice (some { block := w.heap.size + 2, off := 0 }) m m)
    rw [World.size_alloc, hs1] at this
    exact this
  have b4 : Rowed W2 (w.heap.size + 2) 5 (numAt x m 0) := by
    rw [← hW2]
    have h0 : (W1.alloc (Obj.cells (numAt x m 0) 5)).heap[W1.heap.size]? = some (.cells (numAt x m 0) 5 (0, 0)) := World.alloc_heap_new W1 _
    rw [hs1] at h0
    exact (Below.heap_alloc _ _ _ (by simp; omega)).trans h0
  rw [hW2]
  clear hW2 c1 c2 hB1 hmk hneed
  go_loopw [26] (fun i wr => ∃ k : Nat, k ≤ m ∧ i = .int .i64 k ∧ Below w.heap.size w wr ∧ Boxed wr w.heap.size 34 (.int .u64 x) ∧ Boxed wr (w.heap.size + 1) 3 (.int .i64 m) ∧ Boxed wr (w.heap.size + 2 + 1) 24 (Value.slice (some { block := w.heap.size + 2, off := 0 }) m m) ∧ Rowed wr (w.heap.size + 2) 5 (numAt x m k)) (fun i _ => m - (intOf i).toNat)
  case atStart => exact ⟨0, Nat.zero_le _, rfl, hB2, b1, b2, b3, b4⟩
  case round =>
    obtain ⟨k, hk, rfl, hB, r1, r2, r3, r4⟩ := hrel
    clear b1 b2 b3 b4 hB2
    by_cases hlt : k < m
    · have cg := r4.cell k
      rw [show (numAt x m k)[k]? = some (.int .u8 0) by simp [numAt, hlt]] at cg
      have fg := r4.frozen k
      go_wp2_with (go_at_call 22; refine (put_any x m k w.heap.size (w.heap.size + 1) (w.heap.size + 2 + 1) (w.heap.size + 2) _ hx hm hlt _ r1.cell r2.cell r3.cell cg fg).mono ?_; rintro e w' ⟨nq, ⟨v, rfl⟩, rfl⟩)
      go_roundw
      case rel =>
        refine ⟨k + 1, by omega, by go_num, (hB.trans (below_drewN wr nq)).setCell (p := ⟨w.heap.size + 2, k, none⟩) (by simp) (eB (bitAt x (m - 1 - k))), ?_, ?_, ?_, ?_⟩
        · exact Boxed.kept (W := wr.drewN nq) r1 (grownBy_setCellAt (wr.drewN nq) (w.heap.size + 2) k _) (by simp)
        · exact Boxed.kept (W := wr.drewN nq) r2 (grownBy_setCellAt (wr.drewN nq) (w.heap.size + 2) k _) (by simp)
        · exact Boxed.kept (W := wr.drewN nq) r3 (grownBy_setCellAt (wr.drewN nq) (w.heap.size + 2) k _) (by simp)
        · rw [← numAt_set x m k hlt]
          exact Rowed.set (W := wr.drewN nq) k _ r4
      case measure => simp [intOf]; omega
    · obtain rfl : k = m := by omega
      have c3 := r3.cell
      go_wp2
      go_ret2
      refine ⟨.slice (some ⟨w.heap.size + 2, 0, none⟩) k k, hB, rfl, ?_⟩
      have hln : (numOf x k).length = k := by simp [numOf]
      refine ⟨some ⟨w.heap.size + 2, 0, none⟩, k, by rw [hln], by omega, fun _ => ⟨w.heap.size + 2, 0, rfl, r4.lt, fun j y hy => ?_⟩⟩
      rw [Nat.zero_add, r4.cell, numAt_all]
      simp [hy]

set_option maxRecDepth 100000 in
set_option maxHeartbeats 2000000 in
theorem Number_no (x : Nat) (m : Int) (hx : x < 18446744073709551616) (hl : ¬ ((Lib.bitLen x : Int) ≤ m ∧ m ≤ 64)) (w : World) :
    Calls Tryd.prog 15 #[.int .u64 x, .int .i64 m] w fun e W' => Below w.heap.size w W' ∧ e = .returned (.tuple #[.slice none 0 0, .int .i64 2]) := by
  have hneed := fun w => need_quiet (x : Int) (by omega) (by omega) w
  simp only [Int.toNat_natCast] at hneed
  go_enter Tryd.func15, Tryd.ntmps15
  go_wp2_with fail
  obtain ⟨W0, hW0⟩ : ∃ W0, (w.alloc (Obj.cells #[Value.int IntKind.u64 x] 34)).alloc (Obj.cells #[Value.int IntKind.i64 m] 3) = W0 := ⟨_, rfl⟩
  have hB0 : Below w.heap.size w W0 := by rw [← hW0]; exact ((Below.refl _ w).alloc (Nat.le_refl _) _).alloc (by simp) _
  have b1 : Boxed W0 w.heap.size 34 (.int .u64 x) := by rw [← hW0]; exact (Boxed.new w 34 (.int .u64 x)).alloc _
  have b2 : Boxed W0 (w.heap.size + 1) 3 (.int .i64 m) := by
    rw [← hW0]
    have := Boxed.new (w.alloc (Obj.cells #[Value.int IntKind.u64 x] 34)) 3 (.int .i64 m)
    simpa only [World.size_alloc] using this
  rw [hW0]
  clear hW0
  have c1 := b1.cell
  have c2 := b2.cell
  clear b1 b2
  by_cases h1 : m < 0
  · have d1 : decide (m < 0) = true := decide_eq_true h1
    clear h1 hl
    go_quiet (fail)
    go_wp2
    go_ret2
    exact ⟨hB0.trans (below_drewN _ _), rfl⟩
  · have d1 : decide (m < 0) = false := decide_eq_false h1
    by_cases h2 : 64 < m
    · have d2 : decide (64 < m) = true := decide_eq_true h2
      clear h1 h2 hl
      go_quiet (fail)
      go_wp2
      go_ret2
      exact ⟨hB0.trans (below_drewN _ _), rfl⟩
    · have d2 : decide (64 < m) = false := decide_eq_false h2
      have d3 : decide (m < Lib.bitLen x) = true := decide_eq_true (by omega)
      clear h1 h2 hl
      go_quiet ((go_at_call 14; exact Calls.quiet_of_same (hneed _)))
      go_wp2
      go_ret2
      exact ⟨hB0.trans (below_drewN _ _), rfl⟩
end Go.Proofs.YtbkmnpagmpkcjaaDoor
