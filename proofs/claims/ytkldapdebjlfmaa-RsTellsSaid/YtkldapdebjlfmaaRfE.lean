/- Contracts of helixref04.Shift, by any number, and of helixref04.Scale. -/
import Derived.Test.YtkldapdebjlfmaaRfD
namespace Go.Proofs.Ytkldapdebjlfmaa
open Go.RowKit Go.Shelf
attribute [local go_sem] Oper.semAt_some

/-- Shifted by m. -/
def shN (m : Nat) (p : List UInt8) : List UInt8 := List.replicate m 0 ++ p
def clampN (n : Int) : Nat := (min (max n 0) 1000).toNat
theorem clampN_le (n : Int) : clampN n ≤ 1000 := by unfold clampN; omega
theorem made_own (w : World) (m c : Nat) (hc : m ≤ c) (hm : c ≤ 1000000) :
    (w.alloc (.cells (cellsF (fun _ => 0) c) 5)).ownsRow w.heap.size 5 1 (.slice (some ⟨w.heap.size, 0, none⟩) m c) m ((List.replicate m (0 : UInt8)).map eB) := by
  refine ⟨by simp, .inr ⟨w.heap.size, c, cellsF (fun _ => 0) c, rfl, Nat.le_refl _, World.alloc_heap_new w _, hc, by unfold maxLen; omega, by rw [cellsF_size]; omega, ?_⟩⟩
  apply List.ext_getElem
  · simp [cellsF]; omega
  · intro i h1 h2
    simp [cellsF]
theorem make_two (m c : Nat) (hc : m ≤ c) (hm : c ≤ 1000000) (z y : Int) (hz : z = m) (hy : y = c) (w : World) : (Instr.makeSlice 22 (.int .i64 z) (.int .i64 y)).run Try.prog w = .ok (.slice (some ⟨w.heap.size, 0, none⟩) m c) (w.alloc (.cells (cellsF (fun _ => 0) c) 5)) := by
  subst hz
  subst hy
  obtain ⟨i0, hi, hz0, hz1, hz2⟩ := info_parts info_u8
  have h1 := run_make (P := Try.prog) w 22 5 i0 (.int .u8 0) Try.underlying22 hi hz0 .i64 .i64 (m : Int) (c : Int) (by omega) (by omega) (by rw [hz2]; omega) (by omega)
  have h2 : madeCells (Value.int .u8 0).cells ((c : Int).toNat * i0.size) = cellsF (fun _ => 0) c := by
    rw [hz1]
    apply Array.ext
    · simp [madeCells, cellsF, Value.cells]
    · intro j _ _
      simp [madeCells, cellsF, Value.cells, Nat.mod_one]
  rw [h2, Int.toNat_natCast, Int.toNat_natCast] at h1
  exact h1

set_option maxRecDepth 100000 in
set_option maxHeartbeats 2000000 in
theorem RShift_A (pv : Value) (p : List UInt8) (n : Int) (hn : n < 0) (hp : p.length ≤ 10000) (w : World) (hP : Sl eB w.heap.size w pv p) :
    Calls Try.prog 31 #[pv, .int .i64 n] w fun e w' => ∃ v, e = .returned v ∧ Own8 w.heap.size w' v (tr (C (shN (clampN n) p)) (shN (clampN n) p).length) ∧ Below w.heap.size w w' := by
  obtain ⟨i0, hi, hz0, hz1, hz2⟩ := info_parts info_u8
  obtain ⟨A, c, rfl⟩ := hP.len
  have hml := clampN_le n
  obtain ⟨m, hm⟩ : ∃ m, clampN n = m := ⟨_, rfl⟩
  have hmz : (0 : Int) = (m : Int) := by rw [← hm]; unfold clampN; omega
  rw [hm]
  rw [hm] at hml
  clear hm
  have hmk := fun w => make_two m m (Nat.le_refl _) (by omega) (0 : Int) (0 : Int) (by omega) (by omega) w
  have hrow := made_own w m m (Nat.le_refl _) (by omega)
  have hB1 := below_alloc w (.cells (cellsF (fun _ => 0) m) 5)
  have hT := fun v w hS => RTrim_any v (shN m p) (by simp [shN]; omega) w hS
  have hP1 := hP.below hB1
  have hr1 : m + p.length ≤ 11000 := by omega
  clear hml hmz hP
  go_enter Try.func31, Try.ntmps31
  go_wp2_with
    (at_builtin
     refine wpList_append_sl _ rfl (.tmp 8) (.tmp 9) _ rfl w.heap.size 5 i0 (.int .u8 0) 1 Try.underlying22 hi hz0 hz1 hz2 rfl _ m _ hrow rfl w.heap.size (.slice A p.length c) p hP1 rfl (fun _ => rfl) (by unfold maxLen; omega) (by omega) (by simp) ?_
     intro v1 w1 hown1 hg1 hat1
     have hB2 : Below w.heap.size w w1 := hB1.trans (below_grown hrow hg1 (by simp) (Nat.le_refl _)))
  all_goals first | (exfalso; omega) | skip
  have hown2 : Own8 w.heap.size w1 v1 (shN m p) := by
    unfold Own8 shN
    rw [List.length_append, List.length_replicate, List.map_append]
    exact hown1
  go_wp2_with fail
  go_at_call 45
  refine (hT v1 w1 hown2.sl).mono ?_
  rintro e w2 ⟨v2, rfl, hv2, hB3⟩
  go_wp2
  go_ret
  exact ⟨v2, rfl, hv2.mono hB2.size, below_trans hB2 hB3⟩
set_option maxRecDepth 100000 in
set_option maxHeartbeats 2000000 in
theorem RShift_B (pv : Value) (p : List UInt8) (n : Int) (hn : 0 ≤ n) (hn2 : n ≤ 1000) (hp : p.length ≤ 10000) (w : World) (hP : Sl eB w.heap.size w pv p) :
    Calls Try.prog 31 #[pv, .int .i64 n] w fun e w' => ∃ v, e = .returned v ∧ Own8 w.heap.size w' v (tr (C (shN (clampN n) p)) (shN (clampN n) p).length) ∧ Below w.heap.size w w' := by
  obtain ⟨i0, hi, hz0, hz1, hz2⟩ := info_parts info_u8
  obtain ⟨A, c, rfl⟩ := hP.len
  have hml := clampN_le n
  obtain ⟨m, hm⟩ : ∃ m, clampN n = m := ⟨_, rfl⟩
  have hmz : (n : Int) = (m : Int) := by rw [← hm]; unfold clampN; omega
  rw [hm]
  rw [hm] at hml
  clear hm
  have hmk := fun w => make_two m m (Nat.le_refl _) (by omega) (n : Int) (n : Int) (by omega) (by omega) w
  have hrow := made_own w m m (Nat.le_refl _) (by omega)
  have hB1 := below_alloc w (.cells (cellsF (fun _ => 0) m) 5)
  have hT := fun v w hS => RTrim_any v (shN m p) (by simp [shN]; omega) w hS
  have hP1 := hP.below hB1
  have hr1 : m + p.length ≤ 11000 := by omega
  clear hml hmz hP
  go_enter Try.func31, Try.ntmps31
  go_wp2_with
    (at_builtin
     refine wpList_append_sl _ rfl (.tmp 8) (.tmp 9) _ rfl w.heap.size 5 i0 (.int .u8 0) 1 Try.underlying22 hi hz0 hz1 hz2 rfl _ m _ hrow rfl w.heap.size (.slice A p.length c) p hP1 rfl (fun _ => rfl) (by unfold maxLen; omega) (by omega) (by simp) ?_
     intro v1 w1 hown1 hg1 hat1
     have hB2 : Below w.heap.size w w1 := hB1.trans (below_grown hrow hg1 (by simp) (Nat.le_refl _)))
  all_goals first | (exfalso; omega) | skip
  have hown2 : Own8 w.heap.size w1 v1 (shN m p) := by
    unfold Own8 shN
    rw [List.length_append, List.length_replicate, List.map_append]
    exact hown1
  go_wp2_with fail
  go_at_call 45
  refine (hT v1 w1 hown2.sl).mono ?_
  rintro e w2 ⟨v2, rfl, hv2, hB3⟩
  go_wp2
  go_ret
  exact ⟨v2, rfl, hv2.mono hB2.size, below_trans hB2 hB3⟩
set_option maxRecDepth 100000 in
set_option maxHeartbeats 2000000 in
theorem RShift_C (pv : Value) (p : List UInt8) (n : Int) (hn : 1000 < n) (hp : p.length ≤ 10000) (w : World) (hP : Sl eB w.heap.size w pv p) :
    Calls Try.prog 31 #[pv, .int .i64 n] w fun e w' => ∃ v, e = .returned v ∧ Own8 w.heap.size w' v (tr (C (shN (clampN n) p)) (shN (clampN n) p).length) ∧ Below w.heap.size w w' := by
  obtain ⟨i0, hi, hz0, hz1, hz2⟩ := info_parts info_u8
  obtain ⟨A, c, rfl⟩ := hP.len
  have hml := clampN_le n
  obtain ⟨m, hm⟩ : ∃ m, clampN n = m := ⟨_, rfl⟩
  have hmz : (1000 : Int) = (m : Int) := by rw [← hm]; unfold clampN; omega
  rw [hm]
  rw [hm] at hml
  clear hm
  have hmk := fun w => make_two m m (Nat.le_refl _) (by omega) (1000 : Int) (1000 : Int) (by omega) (by omega) w
  have hrow := made_own w m m (Nat.le_refl _) (by omega)
  have hB1 := below_alloc w (.cells (cellsF (fun _ => 0) m) 5)
  have hT := fun v w hS => RTrim_any v (shN m p) (by simp [shN]; omega) w hS
  have hP1 := hP.below hB1
  have hr1 : m + p.length ≤ 11000 := by omega
  clear hml hmz hP
  go_enter Try.func31, Try.ntmps31
  go_wp2_with
    (at_builtin
     refine wpList_append_sl _ rfl (.tmp 8) (.tmp 9) _ rfl w.heap.size 5 i0 (.int .u8 0) 1 Try.underlying22 hi hz0 hz1 hz2 rfl _ m _ hrow rfl w.heap.size (.slice A p.length c) p hP1 rfl (fun _ => rfl) (by unfold maxLen; omega) (by omega) (by simp) ?_
     intro v1 w1 hown1 hg1 hat1
     have hB2 : Below w.heap.size w w1 := hB1.trans (below_grown hrow hg1 (by simp) (Nat.le_refl _)))
  all_goals first | (exfalso; omega) | skip
  have hown2 : Own8 w.heap.size w1 v1 (shN m p) := by
    unfold Own8 shN
    rw [List.length_append, List.length_replicate, List.map_append]
    exact hown1
  go_wp2_with fail
  go_at_call 45
  refine (hT v1 w1 hown2.sl).mono ?_
  rintro e w2 ⟨v2, rfl, hv2, hB3⟩
  go_wp2
  go_ret
  exact ⟨v2, rfl, hv2.mono hB2.size, below_trans hB2 hB3⟩
theorem RShift_any (pv : Value) (p : List UInt8) (n : Int) (hp : p.length ≤ 10000) (w : World) (hP : Sl eB w.heap.size w pv p) :
    Calls Try.prog 31 #[pv, .int .i64 n] w fun e w' => ∃ v, e = .returned v ∧ Own8 w.heap.size w' v (tr (C (shN (clampN n) p)) (shN (clampN n) p).length) ∧ Below w.heap.size w w' := by
  by_cases h1 : n < 0
  · exact RShift_A pv p n h1 hp w hP
  · by_cases h2 : n ≤ 1000
    · exact RShift_B pv p n (by omega) h2 hp w hP
    · exact RShift_C pv p n (by omega) hp w hP

set_option maxRecDepth 100000 in
set_option maxHeartbeats 1000000 in
theorem RScale_any (pv : Value) (p : List UInt8) (c : UInt8) (hreach : p.length ≤ 10000) (w : World) (hS : Sl eB w.heap.size w pv p) :
    Calls Try.prog 52 #[pv, eB c] w fun e w' => ∃ v, e = .returned v ∧ Own8 w.heap.size w' v (tr (fun n => ma c (C p n)) (p.length + 1)) ∧ Below w.heap.size w w' := by
  obtain ⟨A, cap, rfl⟩ := hS.len
  have hA := below_alloc w (.cells #[eB c] 5)
  have hq := Sl.new eB w [c] #[eB c] 5 (0, 0) 1 1 rfl (Nat.le_refl _) rfl
  have hm := RMul_any _ _ p [c] (by omega) (by simp) _ (hS.next hA) hq
  rw [C_one, PM_one, List.length_singleton] at hm
  go_enter Try.func52, Try.ntmps52
  go_wp2_with fail
  go_at_call 26
  refine hm.mono ?_
  rintro e w1 ⟨v1, rfl, hv1, hB1⟩
  go_wp2
  go_ret
  exact ⟨v1, rfl, hv1.mono hA.size, below_trans hA hB1⟩

end Go.Proofs.Ytkldapdebjlfmaa
