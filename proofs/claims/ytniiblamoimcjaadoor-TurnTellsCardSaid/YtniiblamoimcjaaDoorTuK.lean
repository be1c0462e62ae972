/- Turn and Back by their answers; the law's own wakes. -/
import Derived.Test.YtniiblamoimcjaaDoorTuJ
import Derived.Lib.SlBytesConst
namespace Go.Proofs.YtniiblamoimcjaaDoor
open Go.RowKit Go.Shelf
attribute [local go_sem] Oper.semAt_some run_store_func

theorem Turn_yes (a : UInt8) (tv : Value) (ts r : List UInt8) (hr : turnG a ts = .ok r) (hreach : ts.length ≤ 1000000) (w : World) (hT : Tab w) (hS : Sl eB w.heap.size w tv ts) :
    Calls Tryd.prog 13 #[eB a, tv] w fun e w' => ∃ v, e = .returned (.tuple #[v, .int .i64 0]) ∧ w'.ownsRow w.heap.size 5 1 v r.length (r.map eB) ∧ Below w.heap.size w w' :=
  (Turn_any a tv ts hreach w hT hS).mono (by
    rintro e w' ⟨hB, ⟨v, y, hy, rfl, hv⟩ | ⟨m, hm, rfl⟩⟩
    · rw [hr] at hy; cases hy; exact ⟨v, rfl, hv, hB⟩
    · rw [hr] at hm; cases hm)
theorem Turn_no (a : UInt8) (tv : Value) (ts : List UInt8) (m : Int) (hr : turnG a ts = .error m) (hreach : ts.length ≤ 1000000) (w : World) (hT : Tab w) (hS : Sl eB w.heap.size w tv ts) :
    Calls Tryd.prog 13 #[eB a, tv] w fun e w' => e = .returned (.tuple #[.slice none 0 0, .int .i64 m]) ∧ Below w.heap.size w w' :=
  (Turn_any a tv ts hreach w hT hS).mono (by
    rintro e w' ⟨hB, ⟨v, y, hy, rfl, hv⟩ | ⟨m', hm, rfl⟩⟩
    · rw [hr] at hy; cases hy
    · rw [hr] at hm; cases hm; exact ⟨rfl, hB⟩)
theorem Back_yes (a : UInt8) (tv : Value) (ts r : List UInt8) (hr : backG a ts = .ok r) (hreach : ts.length ≤ 1000000) (w : World) (hT : Tab w) (hS : Sl eB w.heap.size w tv ts) :
    Calls Tryd.prog 15 #[eB a, tv] w fun e w' => ∃ v, e = .returned (.tuple #[v, .int .i64 0]) ∧ w'.ownsRow w.heap.size 5 1 v r.length (r.map eB) ∧ Below w.heap.size w w' :=
  (Back_any a tv ts hreach w hT hS).mono (by
    rintro e w' ⟨hB, ⟨v, y, hy, rfl, hv⟩ | ⟨m, hm, rfl⟩⟩
    · rw [hr] at hy; cases hy; exact ⟨v, rfl, hv, hB⟩
    · rw [hr] at hm; cases hm)
theorem Back_no (a : UInt8) (tv : Value) (ts : List UInt8) (m : Int) (hr : backG a ts = .error m) (hreach : ts.length ≤ 1000000) (w : World) (hT : Tab w) (hS : Sl eB w.heap.size w tv ts) :
    Calls Tryd.prog 15 #[eB a, tv] w fun e w' => e = .returned (.tuple #[.slice none 0 0, .int .i64 m]) ∧ Below w.heap.size w w' :=
  (Back_any a tv ts hreach w hT hS).mono (by
    rintro e w' ⟨hB, ⟨v, y, hy, rfl, hv⟩ | ⟨m', hm, rfl⟩⟩
    · rw [hr] at hy; cases hy
    · rw [hr] at hm; cases hm; exact ⟨rfl, hB⟩)
theorem Behind_yes (a t c : UInt8) (h : behG a t = .ok c) (w : World) (hT : Tab w) :
    Calls Tryd.prog 9 #[eB a, eB t] w fun e w' => e = .returned (.tuple #[eB c, .int .i64 0]) ∧ Below w.heap.size w w' :=
  (Behind_any a t w hT).mono (by
    rintro e w' ⟨hB, ⟨y, hy, rfl⟩ | ⟨m, hm, rfl⟩⟩
    · rw [h] at hy; cases hy; exact ⟨rfl, hB⟩
    · rw [h] at hm; cases hm)
theorem wk1 : turnG 65 [0, 0, 0] = .ok [67, 65, 67] := by kernel_rfl
theorem wk2 : behG 71 2 = .ok 84 := by kernel_rfl
theorem wk3 : backG 65 [67, 67] = .error 90 := by kernel_rfl
theorem wk4 : turnG 65 [1, 3] = .error 2 := by kernel_rfl
set_option maxRecDepth 100000 in
set_option maxHeartbeats 4000000 in
theorem wakes_any (w : World) (hT : Tab w) : Calls Tryd.prog 8 #[] w fun e w' => e = .returned (.bool true) ∧ Below w.heap.size w w' := by
  have c1 := fun v w => Turn_yes 65 v _ _ wk1 (by simp) w
  have c2 := fun w => Behind_yes 71 2 _ wk2 w
  have c3 := fun v w => Back_no 65 v _ _ wk3 (by simp) w
  have c4 := fun v w => Turn_no 65 v _ _ wk4 (by simp) w
  have kc := fun (w : World) (C : Array Value) (n c : Nat) => Lib.run_convert_bytes_const (P := Tryd.prog) w 22 5 C n c Tryd.underlying22 Tryd.underlying5
  go_enter Tryd.func8, Tryd.ntmps8
  have hA0 := below_alloc w (.cells #[.int .u8 0, .int .u8 0, .int .u8 0] 5)
  have hq0 := Sl.new eB w [0, 0, 0] #[eB 0, eB 0, eB 0] 5 (0, 0) 3 3 rfl (Nat.le_refl _) rfl
  go_wp2_with fail
  go_at_call 13
  refine (c1 _ _ (hT.below hA0) hq0).mono ?_
  rintro e w1 ⟨v1, rfl, hv1, hB1⟩
  have hB1 := below_trans hA0 hB1
  have hr1 := sl_own hv1
  have hT1 := hT.below hB1
  obtain ⟨A1, k1, rfl⟩ := hr1.len
  clear hA0 hq0 c1 hv1 hT
  go_wp2_with fail
  go_at_call 9
  refine (c2 _ hT1).mono ?_
  rintro e w2 ⟨rfl, hB2⟩
  have hr2 := hr1.next hB2
  have hT2 := hT1.below hB2
  have hB2 := below_trans hB1 hB2
  clear hr1 hT1 hB1 c2
  have hA3 := below_alloc w2 (.cells #[.int .u8 67, .int .u8 67] 5 (2, 3))
  have hq3 := Sl.new eB w2 [67, 67] #[eB 67, eB 67] 5 (2, 3) 2 2 rfl (Nat.le_refl _) rfl
  go_wp2_with fail
  go_at_call 15
  refine (c3 _ _ (hT2.below hA3) hq3).mono ?_
  rintro e w3 ⟨rfl, hB3⟩
  have hB3 := below_trans hA3 hB3
  have hr3 := hr2.next hB3
  have hT3 := hT2.below hB3
  have hB3 := below_trans hB2 hB3
  clear hr2 hT2 hB2 hA3 hq3 c3
  have hA4 := below_alloc w3 (.cells #[.int .u8 1, .int .u8 3] 5)
  have hq4 := Sl.new eB w3 [1, 3] #[eB 1, eB 3] 5 (0, 0) 2 2 rfl (Nat.le_refl _) rfl
  go_wp2_with fail
  go_at_call 13
  refine (c4 _ _ (hT3.below hA4) hq4).mono ?_
  rintro e w4 ⟨rfl, hB4⟩
  have hB4 := below_trans hA4 hB4
  have hr4 := hr3.next hB4
  have hB4 := below_trans hB3 hB4
  clear hr3 hT3 hB3 hA4 hq4 c4
  have hA5 := below_alloc w4 (.cells #[.int .u8 67, .int .u8 65, .int .u8 67] 5 (3, 4))
  have hq5 := Sl.new eB w4 [67, 65, 67] #[eB 67, eB 65, eB 67] 5 (3, 4) 3 3 rfl (Nat.le_refl _) rfl
  have hr5 := hr4.next hA5
  have hB5 := below_trans hB4 hA5
  clear hr4 hB4 hA5
  go_wp2_with fail
  go_at_call 17
  refine (same_eq _ _ _ _ _ hr5 hq5).mono ?_
  rintro e w' ⟨rfl, rfl⟩
  clear hq5 hr5
  generalize w4.alloc (.cells #[.int .u8 67, .int .u8 65, .int .u8 67] 5 (3, 4)) = w5 at *
  go_wp2
  go_ret
  exact ⟨rfl, hB5⟩
end Go.Proofs.YtniiblamoimcjaaDoor
