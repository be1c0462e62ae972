/- The law's own wakes, of gap. -/
import Derived.Test.YtmdpodgodhkjdaaDoorGpK
import Derived.Test.YtmdpodgodhkjdaaDoorGpJ
import Derived.Lib.SlBytesConst
namespace Go.Proofs.YtmdpodgodhkjdaaDoor
open Go.RowKit Go.Shelf
attribute [local go_sem] Oper.semAt_some run_store_func

theorem gk1 : fitsG [65, 67] = none := by kernel_rfl
theorem gk1' : missL [65, 67] 3 = 71 := by kernel_rfl
theorem gk2 : gapG [65] 1 1 = .ok [65, 67] := by kernel_rfl
theorem gk3 : gapG [] 0 0 = .error 2 := by kernel_rfl
theorem gk4 : gapG [65] 9 1 = .error 130 := by kernel_rfl
theorem ik2 : InsOk [65] 1 1 := by
  intro p _ hp
  have h : (List.range (([65] : List UInt8).length + 1)).find? (hitG [65] 1 1) = some 1 := by kernel_rfl
  rw [h] at hp
  cases hp
  have hm : missL [65] 1 = 67 := by kernel_rfl
  rw [hm]
  exact insert_end [65] 67 (by decide) (by decide)
theorem ik3 (t s : Int) : InsOk [] t s := by
  intro p h
  cases h
theorem ik4 : InsOk [65] 9 1 := by
  intro p _ hp
  have h : (List.range (([65] : List UInt8).length + 1)).find? (hitG [65] 9 1) = none := by kernel_rfl
  rw [h] at hp
  cases hp
theorem Missing_yes (y : List UInt8) (s : Int) (h : fitsG y = none) (hreach : y.length ≤ 1000000) (sv : Value) (w : World) (hT : Tab w) (hS : Sl eB w.heap.size w sv y) :
    Calls Tryd.prog 14 #[sv, .int .i64 s] w fun e w' => e = .returned (.tuple #[eB (missL y s), .int .i64 0]) ∧ Below w.heap.size w w' :=
  (Missing_any y s sv w hT hS hreach).mono (by
    rintro e w' ⟨hB, ⟨h', rfl⟩ | ⟨m, hm, rfl⟩⟩
    · exact ⟨rfl, hB⟩
    · rw [h] at hm; cases hm)
theorem Missing_not (y : List UInt8) (s m : Int) (h : fitsG y = some m) (hreach : y.length ≤ 1000000) (sv : Value) (w : World) (hT : Tab w) (hS : Sl eB w.heap.size w sv y) :
    Calls Tryd.prog 14 #[sv, .int .i64 s] w fun e w' => e = .returned (.tuple #[eB 0, .int .i64 m]) ∧ Below w.heap.size w w' :=
  (Missing_any y s sv w hT hS hreach).mono (by
    rintro e w' ⟨hB, ⟨h', rfl⟩ | ⟨m, hm, rfl⟩⟩
    · rw [h] at h'; cases h'
    · rw [h] at hm; cases hm; exact ⟨rfl, hB⟩)
theorem Gap_yes (y : List UInt8) (t s : Int) (r : List UInt8) (h : gapG y t s = .ok r) (hI : InsOk y t s) (hreach : y.length ≤ 1000000) (sv : Value) (w : World) (hT : Tab w) (hS : Sl eB w.heap.size w sv y) :
    Calls Tryd.prog 18 #[sv, .int .i64 t, .int .i64 s] w fun e w' => ∃ v, e = .returned (.tuple #[v, .int .i64 0]) ∧ Sl eB w'.heap.size w' v r ∧ Below w.heap.size w w' :=
  (Gap_any y t s hI sv w hT hS hreach).mono (by
    rintro e w' ⟨hB, ⟨r', v, hy, rfl, hv⟩ | ⟨m, hm, rfl⟩⟩
    · rw [h] at hy; cases hy; exact ⟨v, rfl, hv, hB⟩
    · rw [h] at hm; cases hm)
theorem Gap_no (y : List UInt8) (t s m : Int) (h : gapG y t s = .error m) (hI : InsOk y t s) (hreach : y.length ≤ 1000000) (sv : Value) (w : World) (hT : Tab w) (hS : Sl eB w.heap.size w sv y) :
    Calls Tryd.prog 18 #[sv, .int .i64 t, .int .i64 s] w fun e w' => e = .returned (.tuple #[.slice none 0 0, .int .i64 m]) ∧ Below w.heap.size w w' :=
  (Gap_any y t s hI sv w hT hS hreach).mono (by
    rintro e w' ⟨hB, ⟨r', v, hy, rfl, hv⟩ | ⟨m, hm, rfl⟩⟩
    · rw [h] at hy; cases hy
    · rw [h] at hm; cases hm; exact ⟨rfl, hB⟩)
theorem GRises_yes (y : List UInt8) (c : UInt8) (r : List Int) (h : risesG y c = .ok r) (hreach : y.length ≤ 1000000) (sv : Value) (w : World) (hT : Tab w) (hS : Sl eB w.heap.size w sv y) :
    Calls Tryd.prog 16 #[sv, eB c] w fun e w' => ∃ v, e = .returned (.tuple #[v, .int .i64 0]) ∧ Sl eI w'.heap.size w' v r ∧ Below w.heap.size w w' :=
  (GRises_any y c sv w hT hS hreach).mono (by
    rintro e w' ⟨hB, ⟨r', v, hy, rfl, hv⟩ | ⟨m, hm, rfl⟩⟩
    · rw [h] at hy; cases hy; exact ⟨v, rfl, hv, hB⟩
    · rw [h] at hm; cases hm)
theorem GRises_no (y : List UInt8) (c : UInt8) (m : Int) (h : risesG y c = .error m) (hreach : y.length ≤ 1000000) (sv : Value) (w : World) (hT : Tab w) (hS : Sl eB w.heap.size w sv y) :
    Calls Tryd.prog 16 #[sv, eB c] w fun e w' => e = .returned (.tuple #[.slice none 0 0, .int .i64 m]) ∧ Below w.heap.size w w' :=
  (GRises_any y c sv w hT hS hreach).mono (by
    rintro e w' ⟨hB, ⟨r', v, hy, rfl, hv⟩ | ⟨m, hm, rfl⟩⟩
    · rw [h] at hy; cases hy
    · rw [h] at hm; cases hm; exact ⟨rfl, hB⟩)
theorem sl_nil (B : Nat) (w : World) : Sl eB B w (.slice none 0 0) [] := ⟨none, 0, rfl, Nat.le_refl _, fun h => absurd h (by simp)⟩
set_option maxRecDepth 100000 in
set_option maxHeartbeats 1000000 in
theorem gwakes_any (w : World) (hT : Tab w) : Calls Tryd.prog 13 #[] w fun e w' => e = .returned (.bool true) ∧ Below w.heap.size w w' := by
  have c1 := fun v w => Missing_yes _ 3 gk1 (by simp) v w
  rw [gk1'] at c1
  have c2 := fun v w => Gap_yes _ _ _ _ gk2 ik2 (by simp) v w
  have c3 := fun v w => Gap_no _ _ _ _ gk3 (ik3 _ _) (by simp) v w
  have c4 := fun v w => Gap_no _ _ _ _ gk4 ik4 (by simp) v w
  have kc := fun (w : World) (C : Array Value) (n c : Nat) => Lib.run_convert_bytes_const (P := Tryd.prog) w 22 5 C n c Tryd.underlying22 Tryd.underlying5
  go_enter Tryd.func13, Tryd.ntmps13
  have hB0 := Below.refl w.heap.size w
  have hA0 := below_alloc w (.cells #[.int .u8 65, .int .u8 67] 5 (2, 3))
  have hq0 := Sl.new eB w [65, 67] #[eB 65, eB 67] 5 (2, 3) 2 2 rfl (Nat.le_refl _) rfl
  go_wp2_with fail
  go_at_call 14
  refine (c1 _ _ (hT.below hA0) hq0).mono ?_
  rintro e w1 ⟨rfl, hC⟩
  have hC := below_trans hA0 hC
  have hT := hT.below hC
  have hB0 := below_trans hB0 hC
  clear hC hA0 hq0 c1
  have hA1 := below_alloc w1 (.cells #[.int .u8 65] 5 (1, 2))
  have hq1 := Sl.new eB w1 [65] #[eB 65] 5 (1, 2) 1 1 rfl (Nat.le_refl _) rfl
  go_wp2_with fail
  go_at_call 18
  refine (c2 _ _ (hT.below hA1) hq1).mono ?_
  rintro e w2 ⟨v2, rfl, hv2, hC⟩
  have hC := below_trans hA1 hC
  have hT := hT.below hC
  have hB0 := below_trans hB0 hC
  clear hC hA1 hq1 c2
  obtain ⟨A2, k2, rfl⟩ := hv2.len
  go_wp2_with fail
  go_at_call 18
  refine (c3 _ _ hT (sl_nil _ _)).mono ?_
  rintro e w3 ⟨rfl, hC⟩
  have hv2 := hv2.next hC
  have hT := hT.below hC
  have hB0 := below_trans hB0 hC
  clear hC c3
  have hA3 := below_alloc w3 (.cells #[.int .u8 65] 5 (1, 2))
  have hq3 := Sl.new eB w3 [65] #[eB 65] 5 (1, 2) 1 1 rfl (Nat.le_refl _) rfl
  go_wp2_with fail
  go_at_call 18
  refine (c4 _ _ (hT.below hA3) hq3).mono ?_
  rintro e w4 ⟨rfl, hC⟩
  have hC := below_trans hA3 hC
  have hv2 := hv2.next hC
  have hB0 := below_trans hB0 hC
  clear hC hA3 hq3 c4 hT
  have hA5 := below_alloc w4 (.cells #[.int .u8 65, .int .u8 67] 5 (2, 3))
  have hq5 := Sl.new eB w4 [65, 67] #[eB 65, eB 67] 5 (2, 3) 2 2 rfl (Nat.le_refl _) rfl
  have hv2 := hv2.next hA5
  have hB0 := below_trans hB0 hA5
  clear hA5
  go_wp2_with fail
  go_at_call 20
  refine (same_eq _ _ _ _ _ hv2 hq5).mono ?_
  rintro e w' ⟨rfl, rfl⟩
  clear hv2 hq5
  generalize w4.alloc (.cells #[.int .u8 65, .int .u8 67] 5 (2, 3)) = w6 at *
  go_wp2
  go_ret
  exact ⟨rfl, hB0⟩
end Go.Proofs.YtmdpodgodhkjdaaDoor
