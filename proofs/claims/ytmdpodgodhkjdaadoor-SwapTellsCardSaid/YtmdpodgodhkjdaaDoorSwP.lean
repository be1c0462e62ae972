/- SwapTells. -/
import Derived.Test.YtmdpodgodhkjdaaDoorSwO
namespace Go.Proofs.YtmdpodgodhkjdaaDoor
open Go.RowKit Go.Shelf
attribute [local go_sem] Oper.semAt_some run_store_func

set_option maxRecDepth 100000 in
set_option maxHeartbeats 1000000 in
theorem rFind_any (y : List UInt8) (s u : Int) (sv : Value) (w : World) (hS : Sl eB w.heap.size w sv y) (hreach : y.length ≤ 1000000) :
    Calls Tryd.prog 26 #[sv, .int .i64 s, .int .i64 u] w (FindTells y s u w) := by
  obtain ⟨A, cap, rfl⟩ := hS.len
  have hF := rfits_any (.slice A y.length cap) y hreach w hS
  have hbad : ∀ m : Int, m ≠ 0 → sumsG y = .error m → Calls Tryd.prog 26 #[.slice A y.length cap, .int .i64 s, .int .i64 u] w (FindTells y s u w) := by
    intro m hm e
    rw [e] at hF
    have hm' : (m != 0) = true := by simpa using hm
    have Hg := Lib.hid (show findG y s u = .error m by rw [findG, e])
    clear e hm hS
    go_enter Tryd.func26, Tryd.ntmps26
    go_wp2_with (go_at_call 49; refine hF.mono ?_; rintro e w' ⟨rfl, rfl⟩)
    refine bodyPost_ret (v := .tuple #[.int .i64 0, eB 0, .int .i64 m]) ?_ rfl ⟨Below.refl _ _, .inr ⟨m, Hg.out, rfl⟩⟩
    simp [results, Tryd.f26, go_sem]
  rcases sums_cases y with ⟨_, e⟩ | ⟨_, _, _, e⟩ | ⟨h2, h1, h4, _⟩
  · exact hbad 2 (by omega) e
  · exact hbad 10 (by omega) e
  · exact rFind_ok y s u A cap w hS h2 h1 h4
theorem findG_place (y : List UInt8) (s u z : Int) (c : UInt8) (h : findG y s u = .ok (z, c)) : z = -1 ∨ 0 ≤ z := by
  unfold findG at h
  split at h
  · cases h
  · split at h
    · cases h; exact .inl rfl
    · split at h
      · cases h
      · split at h
        · cases h
        · cases h; exact .inr (by omega)
/-- One answer of both. -/
theorem find_both (y : List UInt8) (s u : Int) (hreach : y.length ≤ 1000000) : ∃ (z : Int) (c : UInt8) (m : Int), ((findG y s u = .ok (z, c) ∧ m = 0) ∨ (findG y s u = .error m ∧ m ≠ 0)) ∧
    (∀ v w, Tab w → Sl eB w.heap.size w v y → Calls Tryd.prog 25 #[v, .int .i64 s, .int .i64 u] w fun e w' => e = .returned (.tuple #[.int .i64 z, eB c, .int .i64 m]) ∧ Below w.heap.size w w') ∧
    ∀ v w, Sl eB w.heap.size w v y → Calls Tryd.prog 26 #[v, .int .i64 s, .int .i64 u] w fun e w' => e = .returned (.tuple #[.int .i64 z, eB c, .int .i64 m]) ∧ Below w.heap.size w w' := by
  cases h : findG y s u with
  | ok r =>
    obtain ⟨z, c⟩ := r
    refine ⟨z, c, 0, .inl ⟨rfl, rfl⟩, fun v w hT hS => (Find_any y s u v w hT hS hreach).mono ?_, fun v w hS => (rFind_any y s u v w hS hreach).mono ?_⟩
    all_goals
      rintro e w' ⟨hB, ⟨z', c', h', rfl⟩ | ⟨m, h', rfl⟩⟩
      · rw [h] at h'; cases h'; exact ⟨rfl, hB⟩
      · rw [h] at h'; cases h'
  | error m =>
    refine ⟨0, 0, m, .inr ⟨rfl, findG_err y s u m h⟩, fun v w hT hS => (Find_any y s u v w hT hS hreach).mono ?_, fun v w hS => (rFind_any y s u v w hS hreach).mono ?_⟩
    all_goals
      rintro e w' ⟨hB, ⟨z', c', h', rfl⟩ | ⟨m, h', rfl⟩⟩
      · rw [h] at h'; cases h'
      · rw [h] at h'; cases h'; exact ⟨rfl, hB⟩
set_option maxRecDepth 100000 in
set_option maxHeartbeats 2000000 in
theorem rSwap_any (y : List UInt8) (s u : Int) (sv : Value) (w : World) (hS : Sl eB w.heap.size w sv y) (hreach : y.length ≤ 1000000) :
    Calls Tryd.prog 28 #[sv, .int .i64 s, .int .i64 u] w (SwapTells y s u w) := by
  obtain ⟨i0, hi, hz0, hz1, hz2⟩ := info_parts info_u8
  obtain ⟨z, c, m, hg, -, hF⟩ := find_both y s u hreach
  obtain ⟨A, cap, rfl⟩ := hS.len
  have hF := hF _ w hS
  have hBy := fun w hS => rBy_any y z c (.slice A y.length cap) w hS hreach
  rcases hg with ⟨hg, rfl⟩ | ⟨hg, hm⟩
  · by_cases hz : z = -1
    · have Hg := Lib.hid (show swapG y s u = .ok y by rw [swapG, hg]; simp [hz])
      have hz' : decide (z < 0) = true := decide_eq_true (by omega)
      have hzn : z < 0 := by omega
      clear hBy hg hz
      go_enter Tryd.func28, Tryd.ntmps28
      go_wp2_with fail
      go_at_call 26
      refine hF.mono ?_
      rintro e w1 ⟨rfl, hB⟩
      have hS := hS.next hB
      have hrow0 := row_made w1
      have hA1 := below_alloc w1 (.cells #[] 5)
      go_wp2_with
        (at_builtin
         refine wpList_append_sl _ rfl (.tmp 24) (.tmp 25) _ rfl w1.heap.size 5 i0 (.int .u8 0) 1 Tryd.underlying22 hi hz0 hz1 hz2 rfl _ 0 [] hrow0 rfl w1.heap.size (.slice A y.length cap) y (hS.below hA1) rfl (fun _ => rfl) (by unfold maxLen; omega) (by omega) (by simp) ?_
         intro v1 w2 hown1 hg1 hat1
         have hB2 := hA1.trans (below_grown hrow0 hg1 (by simp) (Nat.le_refl _)))
      go_ret2
      exact ⟨below_trans hB hB2, .inl ⟨y, v1, Hg.out, rfl, Sl.of_own (xs := y) (by simpa using hown1)⟩⟩
    · have Hg := Lib.hid (show swapG y s u = byG y z c by rw [swapG, hg]; simp [hz])
      have hz0' : 0 ≤ z := by have := findG_place y s u z c hg; omega
      have hz' : decide (z < 0) = false := decide_eq_false (by omega)
      clear hg hz
      go_enter Tryd.func28, Tryd.ntmps28
      go_wp2_with fail
      go_at_call 26
      refine hF.mono ?_
      rintro e w1 ⟨rfl, hB⟩
      go_wp2_with fail
      go_at_call 30
      refine (hBy _ (hS.next hB)).mono ?_
      rintro e w2 ⟨hB2, ⟨r, v, h, rfl, hv⟩ | ⟨m, h, rfl⟩⟩
      · go_wp2_with fail
        go_ret2
        exact ⟨below_trans hB hB2, .inl ⟨r, v, by rw [Hg.out]; exact h, rfl, hv⟩⟩
      · go_wp2_with fail
        go_ret2
        exact ⟨below_trans hB hB2, .inr ⟨m, by rw [Hg.out]; exact h, rfl⟩⟩
  · have Hg := Lib.hid (show swapG y s u = .error m by rw [swapG, hg])
    have hm' : (m != 0) = true := by simpa using hm
    clear hBy hg hm
    go_enter Tryd.func28, Tryd.ntmps28
    go_wp2_with fail
    go_at_call 26
    refine hF.mono ?_
    rintro e w1 ⟨rfl, hB⟩
    go_wp2_with fail
    go_ret2
    exact ⟨hB, .inr ⟨m, Hg.out, rfl⟩⟩
/-- A call that returns these bytes and this number. -/
abbrev Gives (f : FuncId) (args : Array Value) (L : List UInt8) (m : Int) (w : World) : Prop :=
  Calls Tryd.prog f args w fun e w' => ∃ v, e = .returned (.tuple #[v, .int .i64 m]) ∧ Sl eB w'.heap.size w' v L ∧ Below w.heap.size w w'
theorem swap_both (y : List UInt8) (s u : Int) (hreach : y.length ≤ 1000000) : ∃ (L : List UInt8) (m : Int), (∀ v w, Tab w → Sl eB w.heap.size w v y → Gives 27 #[v, .int .i64 s, .int .i64 u] L m w) ∧
    ∀ v w, Sl eB w.heap.size w v y → Gives 28 #[v, .int .i64 s, .int .i64 u] L m w := by
  cases h : swapG y s u with
  | ok r =>
    refine ⟨r, 0, fun v w hT hS => (Swap_any y s u v w hT hS hreach).mono ?_, fun v w hS => (rSwap_any y s u v w hS hreach).mono ?_⟩
    all_goals
      rintro e w' ⟨hB, ⟨r', v, h', rfl, hv⟩ | ⟨m, h', rfl⟩⟩
      · rw [h] at h'; cases h'; exact ⟨v, rfl, hv, hB⟩
      · rw [h] at h'; cases h'
  | error m =>
    refine ⟨[], m, fun v w hT hS => (Swap_any y s u v w hT hS hreach).mono ?_, fun v w hS => (rSwap_any y s u v w hS hreach).mono ?_⟩
    all_goals
      rintro e w' ⟨hB, ⟨r', v, h', rfl, hv⟩ | ⟨m, h', rfl⟩⟩
      · rw [h] at h'; cases h'
      · rw [h] at h'; cases h'; exact ⟨_, rfl, Sl.nil _ _ _, hB⟩
theorem by_both (y : List UInt8) (z : Int) (c : UInt8) (hreach : y.length ≤ 1000000) : ∃ (L : List UInt8) (m : Int), (∀ v w, Tab w → Sl eB w.heap.size w v y → Gives 29 #[v, .int .i64 z, eB c] L m w) ∧
    ∀ v w, Sl eB w.heap.size w v y → Gives 30 #[v, .int .i64 z, eB c] L m w := by
  cases h : byG y z c with
  | ok r =>
    refine ⟨r, 0, fun v w hT hS => (By_any y z c v w hT hS hreach).mono ?_, fun v w hS => (rBy_any y z c v w hS hreach).mono ?_⟩
    all_goals
      rintro e w' ⟨hB, ⟨r', v, h', rfl, hv⟩ | ⟨m, h', rfl⟩⟩
      · rw [h] at h'; cases h'; exact ⟨v, rfl, hv, hB⟩
      · rw [h] at h'; cases h'
  | error m =>
    refine ⟨[], m, fun v w hT hS => (By_any y z c v w hT hS hreach).mono ?_, fun v w hS => (rBy_any y z c v w hS hreach).mono ?_⟩
    all_goals
      rintro e w' ⟨hB, ⟨r', v, h', rfl, hv⟩ | ⟨m, h', rfl⟩⟩
      · rw [h] at h'; cases h'
      · rw [h] at h'; cases h'; exact ⟨_, rfl, Sl.nil _ _ _, hB⟩
set_option maxRecDepth 100000 in
set_option maxHeartbeats 4000000 in
theorem SwapTells_any (v0 : Value) (y : List UInt8) (c : UInt8) (z s u : Int) (w : World) (hS : Sl eB w.heap.size w v0 y) (hT : Tab w) :
    Calls Tryd.prog 8 #[v0, eB c, .int .i64 z, .int .i64 s, .int .i64 u] w fun e w' => e = .returned (.bool true) ∧ Below w.heap.size w w' := by
  have hw := wakes_any
  obtain ⟨A, cap, rfl⟩ := hS.len
  by_cases h1 : 150 < y.length
  · have d1 : decide ((150 : Int) < (y.length : Int)) = true := decide_eq_true (by omega)
    go_enter Tryd.func8, Tryd.ntmps8
    go_wp2_with (go_at_call 24; refine (hw _ hT).mono ?_; rintro e w' ⟨rfl, hC⟩)
    go_ret
    exact ⟨rfl, hC⟩
  have d1 : decide ((150 : Int) < (y.length : Int)) = false := decide_eq_false (by omega)
  obtain ⟨z1, c1, m1, -, f1, r1⟩ := find_both y s u (by omega)
  obtain ⟨L2, m2, f2, r2⟩ := swap_both y s u (by omega)
  obtain ⟨L3, m3, f3, r3⟩ := by_both y z c (by omega)
  have f1 := f1 (.slice A y.length cap)
  have r1 := r1 (.slice A y.length cap)
  have f2 := f2 (.slice A y.length cap)
  have r2 := r2 (.slice A y.length cap)
  have f3 := f3 (.slice A y.length cap)
  have r3 := r3 (.slice A y.length cap)
  have g1 : (z1 != z1) = false := by simp
  have g2 : ((c1.toNat : Int) != (c1.toNat : Int)) = false := by simp
  have g3 : (m1 != m1) = false := by simp
  have g4 : (m2 == m2) = true := by simp
  have g5 : (m3 == m3) = true := by simp
  clear h1
  go_enter Tryd.func8, Tryd.ntmps8
  go_wp2_with fail
  go_at_call 25
  refine (f1 _ hT hS).mono ?_
  rintro e w1 ⟨rfl, hC⟩
  have hS := hS.next hC
  have hT := hT.below hC
  clear d1 f1
  go_wp2_with fail
  go_at_call 26
  refine (r1 _ hS).mono ?_
  rintro e w2 ⟨rfl, hD⟩
  have hS := hS.next hD
  have hT := hT.below hD
  have hB := below_trans hC hD
  clear r1 hC hD
  go_wp2_with fail
  go_at_call 27
  refine (f2 _ hT hS).mono ?_
  rintro e w3 ⟨v3', rfl, hv3, hC⟩
  have hS := hS.next hC
  have hT := hT.below hC
  have hB := below_trans hB hC
  clear f2 hC
  go_wp2_with fail
  go_at_call 28
  refine (r2 _ hS).mono ?_
  rintro e w4 ⟨v4, rfl, hv4, hC⟩
  have hS := hS.next hC
  have hT := hT.below hC
  have hB := below_trans hB hC
  have hv3 := hv3.next hC
  clear r2 hC
  go_wp2_with fail
  go_at_call 29
  refine (f3 _ hT hS).mono ?_
  rintro e w5 ⟨v5, rfl, hv5, hC⟩
  have hS := hS.next hC
  have hT := hT.below hC
  have hB := below_trans hB hC
  have hv3 := hv3.next hC
  have hv4 := hv4.next hC
  clear f3 hC
  go_wp2_with fail
  go_at_call 30
  refine (r3 _ hS).mono ?_
  rintro e w6 ⟨v6, rfl, hv6, hC⟩
  have hT := hT.below hC
  have hB := below_trans hB hC
  have hv3 := hv3.next hC
  have hv4 := hv4.next hC
  have hv5 := hv5.next hC
  have s1 := same_eq _ _ _ _ _ hv3 hv4
  have s2 := same_eq _ _ _ _ _ hv5 hv6
  clear r3 hC hv3 hv4 hv5 hv6 hS
  go_wp2_with fail
  go_at_call 31
  refine s1.mono ?_
  rintro e w' ⟨rfl, rfl⟩
  clear s1
  go_wp2_with fail
  go_at_call 31
  refine s2.mono ?_
  rintro e w' ⟨rfl, rfl⟩
  go_wp2_with (go_at_call 24; refine (hw _ hT).mono ?_; rintro e w' ⟨rfl, hC⟩)
  go_ret
  exact ⟨rfl, below_trans hB hC⟩
end Go.Proofs.YtmdpodgodhkjdaaDoor
