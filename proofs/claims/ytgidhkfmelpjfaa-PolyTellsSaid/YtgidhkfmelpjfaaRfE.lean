/- Contracts of poly.Shift and helixref04.Shift, by any number; of helixref04.Scale and Roots. -/
import Derived.Test.YtgidhkfmelpjfaaRfD
namespace Go.Proofs.Ytgidhkfmelpjfaa
open Go.RowKit Go.Shelf
attribute [local go_sem] Oper.semAt_some

/-- Shifted by m. -/
def shN (m : Nat) (p : List UInt8) : List UInt8 := List.replicate m 0 ++ p
def clampN (n : Int) : Nat := (min (max n 0) 1000).toNat
theorem clampN_le (n : Int) : clampN n ≤ 1000 := by unfold clampN; omega
theorem made_own (w : World) (m c : Nat) (hc : m ≤ c) (hm : c ≤ 1000000) :
    (w.alloc (.cells (cellsF (fun _ => 0) c) 5)).ownsRow w.heap.size 5 1 (.slice (some ⟨w.heap.size, 0, none⟩) m c) m ((List.replicate m (0 : UInt8)).map eB) := by
  refine ⟨by simp, .inr ⟨w.heap.size, c, cellsF (fun _ => 0) c, rfl, Nat.le_refl _, World.alloc_heap_new w _, hc, by unfold maxLen; omega, by rw [cellsF_size]; omega, ?_⟩⟩
  apply List.ext_getElem
  · simp [cellsF]; omega
  · intro i h1 h2
    simp [cellsF]
theorem make_two (m c : Nat) (hc : m ≤ c) (hm : c ≤ 1000000) (z y : Int) (hz : z = m) (hy : y = c) (w : World) : (Instr.makeSlice 22 (.int .i64 z) (.int .i64 y)).run Try.prog w = .ok (.slice (some ⟨w.heap.size, 0, none⟩) m c) (w.alloc (.cells (cellsF (fun _ => 0) c) 5)) := by
  subst hz
  subst hy
  obtain ⟨i0, hi, hz0, hz1, hz2⟩ := info_parts info_u8
  have h1 := run_make (P := Try.prog) w 22 5 i0 (.int .u8 0) Try.underlying22 hi hz0 .i64 .i64 (m : Int) (c : Int) (by omega) (by omega) (by rw [hz2]; omega) (by omega)
  have h2 : madeCells (Value.int .u8 0).cells ((c : Int).toNat * i0.size) = cellsF (fun _ => 0) c := by
    rw [hz1]
    apply Array.ext
    · simp [madeCells, cellsF, Value.cells]
    · intro j _ _
      simp [madeCells, cellsF, Value.cells, Nat.mod_one]
  rw [h2, Int.toNat_natCast, Int.toNat_natCast] at h1
  exact h1

set_option maxRecDepth 100000 in
set_option maxHeartbeats 2000000 in
theorem Shift_A (pv : Value) (p : List UInt8) (n : Int) (hn : n < 0) (hp : p.length ≤ 10000) (w : World) (hP : Sl eB w.heap.size w pv p) :
    Calls Try.prog 21 #[pv, .int .i64 n] w fun e w' => ∃ v, e = .returned v ∧ Own8 w.heap.size w' v (tr (C (shN (clampN n) p)) (shN (clampN n) p).length) ∧ Below w.heap.size w w' := by
  obtain ⟨i0, hi, hz0, hz1, hz2⟩ := info_parts info_u8
  obtain ⟨A, c, rfl⟩ := hP.len
  have hml := clampN_le n
  obtain ⟨m, hm⟩ : ∃ m, clampN n = m := ⟨_, rfl⟩
  have hmz : (0 : Int) = (m : Int) := by rw [← hm]; unfold clampN; omega
  rw [hm]
  rw [hm] at hml
  clear hm
  have hmk := fun w => make_two m (m + p.length) (by omega) (by omega) (0 : Int) ((p.length : Int)) (by omega) (by omega) w
  have hwr : IntKind.i64.wrap ((p.length : Int)) = (p.length : Int) := IntWalk.i64_in _ (by omega)
  have hrow := made_own w m (m + p.length) (by omega) (by omega)
  have hB1 := below_alloc w (.cells (cellsF (fun _ => 0) (m + p.length)) 5)
  have hT := fun v w hS => Trim_any v (shN m p) (by simp [shN]; omega) w hS
  have hP1 := hP.below hB1
  have hr1 : m + p.length ≤ 11000 := by omega
  clear hml hmz hP
  go_enter Try.func21, Try.ntmps21
  go_wp2_with
    (at_builtin
     refine wpList_append_sl _ rfl (.tmp 13) (.tmp 14) _ rfl w.heap.size 5 i0 (.int .u8 0) 1 Try.underlying22 hi hz0 hz1 hz2 rfl _ m _ hrow rfl w.heap.size (.slice A p.length c) p hP1 rfl (fun _ => rfl) (by unfold maxLen; omega) (by omega) (by simp) ?_
     intro v1 w1 hown1 hg1 hat1
     have hB2 : Below w.heap.size w w1 := hB1.trans (below_grown hrow hg1 (by simp) (Nat.le_refl _)))
  all_goals first | (exfalso; omega) | skip
  have hown2 : Own8 w.heap.size w1 v1 (shN m p) := by
    unfold Own8 shN
    rw [List.length_append, List.length_replicate, List.map_append]
    exact hown1
  go_wp2_with fail
  go_at_call 13
  refine (hT v1 w1 hown2.sl).mono ?_
  rintro e w2 ⟨v2, rfl, hv2, hB3⟩
  go_wp2
  go_ret
  exact ⟨v2, rfl, hv2.mono hB2.size, below_trans hB2 hB3⟩
set_option maxRecDepth 100000 in
set_option maxHeartbeats 2000000 in
theorem Shift_B (pv : Value) (p : List UInt8) (n : Int) (hn : 0 ≤ n) (hn2 : n ≤ 1000) (hp : p.length ≤ 10000) (w : World) (hP : Sl eB w.heap.size w pv p) :
    Calls Try.prog 21 #[pv, .int .i64 n] w fun e w' => ∃ v, e = .returned v ∧ Own8 w.heap.size w' v (tr (C (shN (clampN n) p)) (shN (clampN n) p).length) ∧ Below w.heap.size w w' := by
  obtain ⟨i0, hi, hz0, hz1, hz2⟩ := info_parts info_u8
  obtain ⟨A, c, rfl⟩ := hP.len
  have hml := clampN_le n
  obtain ⟨m, hm⟩ : ∃ m, clampN n = m := ⟨_, rfl⟩
  have hmz : (n : Int) = (m : Int) := by rw [← hm]; unfold clampN; omega
  rw [hm]
  rw [hm] at hml
  clear hm
  have hmk := fun w => make_two m (m + p.length) (by omega) (by omega) (n : Int) (n + (p.length : Int)) (by omega) (by omega) w
  have hwr : IntKind.i64.wrap (n + (p.length : Int)) = n + (p.length : Int) := IntWalk.i64_in _ (by omega)
  have hrow := made_own w m (m + p.length) (by omega) (by omega)
  have hB1 := below_alloc w (.cells (cellsF (fun _ => 0) (m + p.length)) 5)
  have hT := fun v w hS => Trim_any v (shN m p) (by simp [shN]; omega) w hS
  have hP1 := hP.below hB1
  have hr1 : m + p.length ≤ 11000 := by omega
  clear hml hmz hP
  go_enter Try.func21, Try.ntmps21
  go_wp2_with
    (at_builtin
     refine wpList_append_sl _ rfl (.tmp 13) (.tmp 14) _ rfl w.heap.size 5 i0 (.int .u8 0) 1 Try.underlying22 hi hz0 hz1 hz2 rfl _ m _ hrow rfl w.heap.size (.slice A p.length c) p hP1 rfl (fun _ => rfl) (by unfold maxLen; omega) (by omega) (by simp) ?_
     intro v1 w1 hown1 hg1 hat1
     have hB2 : Below w.heap.size w w1 := hB1.trans (below_grown hrow hg1 (by simp) (Nat.le_refl _)))
  all_goals first | (exfalso; omega) | skip
  have hown2 : Own8 w.heap.size w1 v1 (shN m p) := by
    unfold Own8 shN
    rw [List.length_append, List.length_replicate, List.map_append]
    exact hown1
  go_wp2_with fail
  go_at_call 13
  refine (hT v1 w1 hown2.sl).mono ?_
  rintro e w2 ⟨v2, rfl, hv2, hB3⟩
  go_wp2
  go_ret
  exact ⟨v2, rfl, hv2.mono hB2.size, below_trans hB2 hB3⟩
set_option maxRecDepth 100000 in
set_option maxHeartbeats 2000000 in
theorem Shift_C (pv : Value) (p : List UInt8) (n : Int) (hn : 1000 < n) (hp : p.length ≤ 10000) (w : World) (hP : Sl eB w.heap.size w pv p) :
    Calls Try.prog 21 #[pv, .int .i64 n] w fun e w' => ∃ v, e = .returned v ∧ Own8 w.heap.size w' v (tr (C (shN (clampN n) p)) (shN (clampN n) p).length) ∧ Below w.heap.size w w' := by
  obtain ⟨i0, hi, hz0, hz1, hz2⟩ := info_parts info_u8
  obtain ⟨A, c, rfl⟩ := hP.len
  have hml := clampN_le n
  obtain ⟨m, hm⟩ : ∃ m, clampN n = m := ⟨_, rfl⟩
  have hmz : (1000 : Int) = (m : Int) := by rw [← hm]; unfold clampN; omega
  rw [hm]
  rw [hm] at hml
  clear hm
  have hmk := fun w => make_two m (m + p.length) (by omega) (by omega) (1000 : Int) (1000 + (p.length : Int)) (by omega) (by omega) w
  have hwr : IntKind.i64.wrap (1000 + (p.length : Int)) = 1000 + (p.length : Int) := IntWalk.i64_in _ (by omega)
  have hrow := made_own w m (m + p.length) (by omega) (by omega)
  have hB1 := below_alloc w (.cells (cellsF (fun _ => 0) (m + p.length)) 5)
  have hT := fun v w hS => Trim_any v (shN m p) (by simp [shN]; omega) w hS
  have hP1 := hP.below hB1
  have hr1 : m + p.length ≤ 11000 := by omega
  clear hml hmz hP
  go_enter Try.func21, Try.ntmps21
  go_wp2_with
    (at_builtin
     refine wpList_append_sl _ rfl (.tmp 13) (.tmp 14) _ rfl w.heap.size 5 i0 (.int .u8 0) 1 Try.underlying22 hi hz0 hz1 hz2 rfl _ m _ hrow rfl w.heap.size (.slice A p.length c) p hP1 rfl (fun _ => rfl) (by unfold maxLen; omega) (by omega) (by simp) ?_
     intro v1 w1 hown1 hg1 hat1
     have hB2 : Below w.heap.size w w1 := hB1.trans (below_grown hrow hg1 (by simp) (Nat.le_refl _)))
  all_goals first | (exfalso; omega) | skip
  have hown2 : Own8 w.heap.size w1 v1 (shN m p) := by
    unfold Own8 shN
    rw [List.length_append, List.length_replicate, List.map_append]
    exact hown1
  go_wp2_with fail
  go_at_call 13
  refine (hT v1 w1 hown2.sl).mono ?_
  rintro e w2 ⟨v2, rfl, hv2, hB3⟩
  go_wp2
  go_ret
  exact ⟨v2, rfl, hv2.mono hB2.size, below_trans hB2 hB3⟩
theorem Shift_any (pv : Value) (p : List UInt8) (n : Int) (hp : p.length ≤ 10000) (w : World) (hP : Sl eB w.heap.size w pv p) :
    Calls Try.prog 21 #[pv, .int .i64 n] w fun e w' => ∃ v, e = .returned v ∧ Own8 w.heap.size w' v (tr (C (shN (clampN n) p)) (shN (clampN n) p).length) ∧ Below w.heap.size w w' := by
  by_cases h1 : n < 0
  · exact Shift_A pv p n h1 hp w hP
  · by_cases h2 : n ≤ 1000
    · exact Shift_B pv p n (by omega) h2 hp w hP
    · exact Shift_C pv p n (by omega) hp w hP
set_option maxRecDepth 100000 in
set_option maxHeartbeats 2000000 in
theorem RShift_A (pv : Value) (p : List UInt8) (n : Int) (hn : n < 0) (hp : p.length ≤ 10000) (w : World) (hP : Sl eB w.heap.size w pv p) :
    Calls Try.prog 22 #[pv, .int .i64 n] w fun e w' => ∃ v, e = .returned v ∧ Own8 w.heap.size w' v (tr (C (shN (clampN n) p)) (shN (clampN n) p).length) ∧ Below w.heap.size w w' := by
  obtain ⟨i0, hi, hz0, hz1, hz2⟩ := info_parts info_u8
  obtain ⟨A, c, rfl⟩ := hP.len
  have hml := clampN_le n
  obtain ⟨m, hm⟩ : ∃ m, clampN n = m := ⟨_, rfl⟩
  have hmz : (0 : Int) = (m : Int) := by rw [← hm]; unfold clampN; omega
  rw [hm]
  rw [hm] at hml
  clear hm
  have hmk := fun w => make_two m m (Nat.le_refl _) (by omega) (0 : Int) (0 : Int) (by omega) (by omega) w
  have hrow := made_own w m m (Nat.le_refl _) (by omega)
  have hB1 := below_alloc w (.cells (cellsF (fun _ => 0) m) 5)
  have hT := fun v w hS => RTrim_any v (shN m p) (by simp [shN]; omega) w hS
  have hP1 := hP.below hB1
  have hr1 : m + p.length ≤ 11000 := by omega
  clear hml hmz hP
  go_enter Try.func22, Try.ntmps22
  go_wp2_with
    (at_builtin
     refine wpList_append_sl _ rfl (.tmp 8) (.tmp 9) _ rfl w.heap.size 5 i0 (.int .u8 0) 1 Try.underlying22 hi hz0 hz1 hz2 rfl _ m _ hrow rfl w.heap.size (.slice A p.length c) p hP1 rfl (fun _ => rfl) (by unfold maxLen; omega) (by omega) (by simp) ?_
     intro v1 w1 hown1 hg1 hat1
     have hB2 : Below w.heap.size w w1 := hB1.trans (below_grown hrow hg1 (by simp) (Nat.le_refl _)))
  all_goals first | (exfalso; omega) | skip
  have hown2 : Own8 w.heap.size w1 v1 (shN m p) := by
    unfold Own8 shN
    rw [List.length_append, List.length_replicate, List.map_append]
    exact hown1
  go_wp2_with fail
  go_at_call 14
  refine (hT v1 w1 hown2.sl).mono ?_
  rintro e w2 ⟨v2, rfl, hv2, hB3⟩
  go_wp2
  go_ret
  exact ⟨v2, rfl, hv2.mono hB2.size, below_trans hB2 hB3⟩
set_option maxRecDepth 100000 in
set_option maxHeartbeats 2000000 in
theorem RShift_B (pv : Value) (p : List UInt8) (n : Int) (hn : 0 ≤ n) (hn2 : n ≤ 1000) (hp : p.length ≤ 10000) (w : World) (hP : Sl eB w.heap.size w pv p) :
    Calls Try.prog 22 #[pv, .int .i64 n] w fun e w' => ∃ v, e = .returned v ∧ Own8 w.heap.size w' v (tr (C (shN (clampN n) p)) (shN (clampN n) p).length) ∧ Below w.heap.size w w' := by
  obtain ⟨i0, hi, hz0, hz1, hz2⟩ := info_parts info_u8
  obtain ⟨A, c, rfl⟩ := hP.len
  have hml := clampN_le n
  obtain ⟨m, hm⟩ : ∃ m, clampN n = m := ⟨_, rfl⟩
  have hmz : (n : Int) = (m : Int) := by rw [← hm]; unfold clampN; omega
  rw [hm]
  rw [hm] at hml
  clear hm
  have hmk := fun w => make_two m m (Nat.le_refl _) (by omega) (n : Int) (n : Int) (by omega) (by omega) w
  have hrow := made_own w m m (Nat.le_refl _) (by omega)
  have hB1 := below_alloc w (.cells (cellsF (fun _ => 0) m) 5)
  have hT := fun v w hS => RTrim_any v (shN m p) (by simp [shN]; omega) w hS
  have hP1 := hP.below hB1
  have hr1 : m + p.length ≤ 11000 := by omega
  clear hml hmz hP
  go_enter Try.func22, Try.ntmps22
  go_wp2_with
    (at_builtin
     refine wpList_append_sl _ rfl (.tmp 8) (.tmp 9) _ rfl w.heap.size 5 i0 (.int .u8 0) 1 Try.underlying22 hi hz0 hz1 hz2 rfl _ m _ hrow rfl w.heap.size (.slice A p.length c) p hP1 rfl (fun _ => rfl) (by unfold maxLen; omega) (by omega) (by simp) ?_
     intro v1 w1 hown1 hg1 hat1
     have hB2 : Below w.heap.size w w1 := hB1.trans (below_grown hrow hg1 (by simp) (Nat.le_refl _)))
  all_goals first | (exfalso; omega) | skip
  have hown2 : Own8 w.heap.size w1 v1 (shN m p) := by
    unfold Own8 shN
    rw [List.length_append, List.length_replicate, List.map_append]
    exact hown1
  go_wp2_with fail
  go_at_call 14
  refine (hT v1 w1 hown2.sl).mono ?_
  rintro e w2 ⟨v2, rfl, hv2, hB3⟩
  go_wp2
  go_ret
  exact ⟨v2, rfl, hv2.mono hB2.size, below_trans hB2 hB3⟩
set_option maxRecDepth 100000 in
set_option maxHeartbeats 2000000 in
theorem RShift_C (pv : Value) (p : List UInt8) (n : Int) (hn : 1000 < n) (hp : p.length ≤ 10000) (w : World) (hP : Sl eB w.heap.size w pv p) :
    Calls Try.prog 22 #[pv, .int .i64 n] w fun e w' => ∃ v, e = .returned v ∧ Own8 w.heap.size w' v (tr (C (shN (clampN n) p)) (shN (clampN n) p).length) ∧ Below w.heap.size w w' := by
  obtain ⟨i0, hi, hz0, hz1, hz2⟩ := info_parts info_u8
  obtain ⟨A, c, rfl⟩ := hP.len
  have hml := clampN_le n
  obtain ⟨m, hm⟩ : ∃ m, clampN n = m := ⟨_, rfl⟩
  have hmz : (1000 : Int) = (m : Int) := by rw [← hm]; unfold clampN; omega
  rw [hm]
  rw [hm] at hml
  clear hm
  have hmk := fun w => make_two m m (Nat.le_refl _) (by omega) (1000 : Int) (1000 : Int) (by omega) (by omega) w
  have hrow := made_own w m m (Nat.le_refl _) (by omega)
  have hB1 := below_alloc w (.cells (cellsF (fun _ => 0) m) 5)
  have hT := fun v w hS => RTrim_any v (shN m p) (by simp [shN]; omega) w hS
  have hP1 := hP.below hB1
  have hr1 : m + p.length ≤ 11000 := by omega
  clear hml hmz hP
  go_enter Try.func22, Try.ntmps22
  go_wp2_with
    (at_builtin
     refine wpList_append_sl _ rfl (.tmp 8) (.tmp 9) _ rfl w.heap.size 5 i0 (.int .u8 0) 1 Try.underlying22 hi hz0 hz1 hz2 rfl _ m _ hrow rfl w.heap.size (.slice A p.length c) p hP1 rfl (fun _ => rfl) (by unfold maxLen; omega) (by omega) (by simp) ?_
     intro v1 w1 hown1 hg1 hat1
     have hB2 : Below w.heap.size w w1 := hB1.trans (below_grown hrow hg1 (by simp) (Nat.le_refl _)))
  all_goals first | (exfalso; omega) | skip
  have hown2 : Own8 w.heap.size w1 v1 (shN m p) := by
    unfold Own8 shN
    rw [List.length_append, List.length_replicate, List.map_append]
    exact hown1
  go_wp2_with fail
  go_at_call 14
  refine (hT v1 w1 hown2.sl).mono ?_
  rintro e w2 ⟨v2, rfl, hv2, hB3⟩
  go_wp2
  go_ret
  exact ⟨v2, rfl, hv2.mono hB2.size, below_trans hB2 hB3⟩
theorem RShift_any (pv : Value) (p : List UInt8) (n : Int) (hp : p.length ≤ 10000) (w : World) (hP : Sl eB w.heap.size w pv p) :
    Calls Try.prog 22 #[pv, .int .i64 n] w fun e w' => ∃ v, e = .returned v ∧ Own8 w.heap.size w' v (tr (C (shN (clampN n) p)) (shN (clampN n) p).length) ∧ Below w.heap.size w w' := by
  by_cases h1 : n < 0
  · exact RShift_A pv p n h1 hp w hP
  · by_cases h2 : n ≤ 1000
    · exact RShift_B pv p n (by omega) h2 hp w hP
    · exact RShift_C pv p n (by omega) hp w hP

set_option maxRecDepth 100000 in
set_option maxHeartbeats 1000000 in
theorem RScale_any (pv : Value) (p : List UInt8) (c : UInt8) (hreach : p.length ≤ 10000) (w : World) (hS : Sl eB w.heap.size w pv p) :
    Calls Try.prog 20 #[pv, eB c] w fun e w' => ∃ v, e = .returned v ∧ Own8 w.heap.size w' v (tr (fun n => ma c (C p n)) (p.length + 1)) ∧ Below w.heap.size w w' := by
  obtain ⟨A, cap, rfl⟩ := hS.len
  have hA := below_alloc w (.cells #[eB c] 5)
  have hq := Sl.new eB w [c] #[eB c] 5 (0, 0) 1 1 rfl (Nat.le_refl _) rfl
  have hm := RMul_any _ _ p [c] (by omega) (by simp) _ (hS.next hA) hq
  rw [C_one, PM_one, List.length_singleton] at hm
  go_enter Try.func20, Try.ntmps20
  go_wp2_with fail
  go_at_call 18
  refine hm.mono ?_
  rintro e w1 ⟨v1, rfl, hv1, hB1⟩
  go_wp2
  go_ret
  exact ⟨v1, rfl, hv1.mono hA.size, below_trans hA hB1⟩

set_option maxRecDepth 100000 in
set_option maxHeartbeats 1000000 in
theorem RRoots_any (lv : Value) (l : List UInt8) (hreach : l.length ≤ 10000) (w : World) (hS : Sl eB w.heap.size w lv l) :
    Calls Try.prog 28 #[lv] w fun e w' => ∃ v, e = .returned v ∧ Sl eB w'.heap.size w' v (RT l) ∧ Below w.heap.size w w' := by
  obtain ⟨A, cap, rfl, hcap, hcs⟩ := hS
  have hA := below_alloc w (.cells #[.int .u8 1] 5)
  have hq : Sl eB (w.alloc (.cells #[.int .u8 1] 5)).heap.size (w.alloc (.cells #[.int .u8 1] 5)) (.slice (some ⟨w.heap.size, 0, none⟩) 1 1) (RT []) := Sl.new eB w [1] #[eB 1] 5 (0, 0) 1 1 rfl (Nat.le_refl _) rfl
  go_enter Try.func28, Try.ntmps28
  go_wp2_with fail
  generalize w.alloc (.cells #[.int .u8 1] 5) = w0 at *
  go_loopw [3, 4] (fun v i wr => ∃ k : Nat, k ≤ l.length ∧ i = .int .i64 k ∧ Sl eB wr.heap.size wr v (RT (l.take k)) ∧ Below w.heap.size w wr) (fun _ i _ => l.length - (intOf i).toNat)
  case atStart => exact ⟨0, Nat.zero_le _, rfl, hq, hA⟩
  case round =>
    obtain ⟨k, hk, rfl, hv, hB⟩ := hrel
    by_cases hlt : k < l.length
    · obtain ⟨b, off, rfl, hb, hcell⟩ := hcs (by omega)
      have hcx : wr.cell? ⟨b, off + k, none⟩ = some (eB l[k]) := (hB.cell (p := ⟨b, off + k, none⟩) hb).trans (hcell k _ (by simp [hlt]))
      have hl := (RT_monic (l.take k)).1
      rw [List.length_take] at hl
      have e : l.take (k + 1) = l.take k ++ [l[k]] := List.take_succ_eq_append_getElem (by omega)
      have Hs := Lib.hid (show RT (l.take (k + 1)) = tr (PM (RT (l.take k)) (C [l[k], 1])) ((RT (l.take k)).length + 2) by rw [e, RT_snoc])
      clear e hcell hcs
      generalize l[k] = r at *
      have hA2 := below_alloc wr (.cells #[eB r, .int .u8 1] 5)
      have hq2 := Sl.new eB wr [r, 1] #[eB r, eB 1] 5 (0, 0) 2 2 rfl (Nat.le_refl _) rfl
      have hm := RMul_any _ _ (RT (l.take k)) [r, 1] (by omega) (by simp) _ (hv.next hA2) hq2
      generalize RT (l.take k) = P at *
      clear hl
      go_wp2_with fail
      go_at_call 18
      refine hm.mono ?_
      rintro e w1 ⟨v1, rfl, hv1, hB1⟩
      clear hm
      go_wp2
      go_roundw
      case rel => exact ⟨k + 1, by omega, by go_num, by rw [Hs.out]; exact hv1.sl, below_trans hB (below_trans hA2 hB1)⟩
      case measure => simp [intOf]; omega
    · obtain rfl : k = l.length := by omega
      rw [List.take_length] at hv
      go_wp2
      go_ret
      exact ⟨_, rfl, hv, hB⟩
end Go.Proofs.Ytgidhkfmelpjfaa
