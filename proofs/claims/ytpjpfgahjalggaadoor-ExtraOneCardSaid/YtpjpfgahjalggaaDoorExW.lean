/- The law's own wakes, of extra. -/
import Derived.Test.YtpjpfgahjalggaaDoorExJ
import Derived.Lib.SlBytesConst
namespace Go.Proofs.YtpjpfgahjalggaaDoor
open Go.RowKit Go.Shelf
attribute [local go_sem] Oper.semAt_some run_store_func

/-- What Find answers: the word, the place, the error. -/
def fX (y : List UInt8) (a b c : Int) : List UInt8 := match findE y a b c with | .ok p => delW y p | .error _ => []
def fK (y : List UInt8) (a b c : Int) : Int := match findE y a b c with | .ok p => (p : Int) | .error _ => 0
def fM (y : List UInt8) (a b c : Int) : Int := match findE y a b c with | .ok _ => 0 | .error m => m
theorem sl_nil (B : Nat) (w : World) : Sl eB B w (.slice none 0 0) [] := ⟨none, 0, rfl, Nat.le_refl _, fun h => absurd h (by simp)⟩
theorem find_one {y : List UInt8} {a b c : Int} {W : World} {e : Ending} {w' : World} (h : EFindIs y a b c W e w') :
    ∃ u, e = .returned (.tuple #[u, .int .i64 (fK y a b c), .int .i64 (fM y a b c)]) ∧ Sl eB w'.heap.size w' u (fX y a b c) ∧ Below W.heap.size W w' := by
  obtain ⟨hB, ⟨p, v, h1, rfl, hv⟩ | ⟨m, h1, rfl⟩⟩ := h
  · unfold fK fM fX
    rw [h1]
    exact ⟨v, rfl, hv, hB⟩
  · unfold fK fM fX
    rw [h1]
    exact ⟨_, rfl, sl_nil _ _, hB⟩
theorem Find_both (y : List UInt8) (a b c : Int) (hreach : y.length ≤ 1000000) (sv : Value) (w : World) (hT : Tab w) (hS : Sl eB w.heap.size w sv y) :
    Calls Tryd.prog 8 #[sv, v3 a b c] w fun e w' => ∃ u, e = .returned (.tuple #[u, .int .i64 (fK y a b c), .int .i64 (fM y a b c)]) ∧ Sl eB w'.heap.size w' u (fX y a b c) ∧ Below w.heap.size w w' :=
  (EFind_any y a b c hreach sv w hT hS).mono fun _ _ h => find_one h
theorem rFind_both (y : List UInt8) (a b c : Int) (sv : Value) (w : World) (hS : Sl eB w.heap.size w sv y) :
    Calls Tryd.prog 9 #[sv, v3 a b c] w fun e w' => ∃ u, e = .returned (.tuple #[u, .int .i64 (fK y a b c), .int .i64 (fM y a b c)]) ∧ Sl eB w'.heap.size w' u (fX y a b c) ∧ Below w.heap.size w w' :=
  (rFind_any y a b c sv w hS).mono fun _ _ h => find_one h
/-- The sums, or none. -/
theorem rOf_yes (x : List UInt8) (a b c : Int) (h : sumsG x = .ok (a, b, c)) (hreach : x.length ≤ 1000000) (sv : Value) (w : World) (hS : Sl eB w.heap.size w sv x) :
    Calls Tryd.prog 14 #[sv] w fun e w' => e = .returned (.tuple #[v3 a b c, .int .i64 0]) ∧ Below w.heap.size w w' :=
  (rOf_any sv x hreach w hS).mono (by
    rintro e w' ⟨hB, ⟨a', b', c', h1, rfl⟩ | ⟨m, h1, rfl⟩⟩
    · rw [h] at h1; cases h1; exact ⟨rfl, hB⟩
    · rw [h] at h1; cases h1)
theorem rOf_no (x : List UInt8) (m : Int) (h : sumsG x = .error m) (hreach : x.length ≤ 1000000) (sv : Value) (w : World) (hS : Sl eB w.heap.size w sv x) :
    Calls Tryd.prog 14 #[sv] w fun e w' => e = .returned (.tuple #[v3 0 0 0, .int .i64 m]) ∧ Below w.heap.size w w' :=
  (rOf_any sv x hreach w hS).mono (by
    rintro e w' ⟨hB, ⟨a', b', c', h1, rfl⟩ | ⟨m', h1, rfl⟩⟩
    · rw [h] at h1; cases h1
    · rw [h] at h1; cases h1; exact ⟨rfl, hB⟩)
theorem str_of {w : World} {sv : Value} {x : List UInt8} (h : Sl eB w.heap.size w sv x) : (convert 22 9 sv).run Tryd.prog w = .ok (.string ⟨x.toArray⟩) w :=
  run_str (P := Tryd.prog) h 22 9 5 Tryd.underlying22 Tryd.underlying5 Tryd.underlying9
theorem ek0 : sumsG [65, 67] = .ok (1, 1, 2) := by kernel_rfl
theorem ek1 : fX [65, 67, 67] 1 1 2 = [65, 67] ∧ fK [65, 67, 67] 1 1 2 = 1 ∧ fM [65, 67, 67] 1 1 2 = 0 := ⟨by kernel_rfl, by kernel_rfl, by kernel_rfl⟩
theorem ek2 : fX [84, 84, 84] 1 1 2 = [] ∧ fM [84, 84, 84] 1 1 2 = 130 := ⟨by kernel_rfl, by kernel_rfl⟩
theorem ek3 : fX [65, 67] 1 1 2 = [] ∧ fM [65, 67] 1 1 2 = 2 := ⟨by kernel_rfl, by kernel_rfl⟩
theorem ek4 : fX [65, 78, 67] 1 1 2 = [] ∧ fM [65, 78, 67] 1 1 2 = 10 := ⟨by kernel_rfl, by kernel_rfl⟩
theorem ek5 : runsG [65, 65, 67, 67] 4 = [0, 2] := by kernel_rfl
theorem ek6 : withG [65, 67, 71] 1 = [65, 71] := by kernel_rfl
set_option maxRecDepth 100000 in
set_option maxHeartbeats 2000000 in
theorem ewakes_any (w : World) (hT : Tab w) : Calls Tryd.prog 7 #[] w fun e w' => e = .returned (.bool true) ∧ Below w.heap.size w w' := by
  have f0 := fun v w => rOf_yes _ _ _ _ ek0 (by simp) v w
  have f1 := fun v w => Find_both [65, 67, 67] 1 1 2 (by simp) v w
  rw [ek1.1, ek1.2.1, ek1.2.2] at f1
  have f2 := fun v w => Find_both [84, 84, 84] 1 1 2 (by simp) v w
  rw [ek2.1, ek2.2] at f2
  have f3 := fun v w => Find_both [65, 67] 1 1 2 (by simp) v w
  rw [ek3.1, ek3.2] at f3
  have f4 := fun v w => Find_both [65, 78, 67] 1 1 2 (by simp) v w
  rw [ek4.1, ek4.2] at f4
  have f5 := fun v w => Runs_any v [65, 65, 67, 67] (by simp) w
  rw [show ([65, 65, 67, 67] : List UInt8).length = 4 from rfl, ek5] at f5
  have f6 := fun v w => Without_any v [65, 67, 71] 1 (by simp) w
  rw [ek6] at f6
  have kc := fun (w : World) (C : Array Value) (n c : Nat) => Lib.run_convert_bytes_const (P := Tryd.prog) w 22 5 C n c Tryd.underlying22 Tryd.underlying5
  have hcl1 : (v3 1 1 2).cells = c3 1 1 2 := rfl
  go_enter Tryd.func7, Tryd.ntmps7
  have hB0 := Below.refl w.heap.size w
  have hA := below_alloc w (.cells #[.int .u8 65, .int .u8 67] 5 (2, 3))
  have hq := Sl.new eB w [65, 67] #[eB 65, eB 67] 5 (2, 3) 2 2 rfl (Nat.le_refl _) rfl
  go_wp2_with fail
  go_at_call 14
  refine (f0 _ _ hq).mono ?_
  rintro e w1 ⟨rfl, hC⟩
  have hC := below_trans hA hC
  have hA := below_alloc w1 (.cells (c3 1 1 2) 24)
  have hr := Rowed.new w1 24 (c3 1 1 2)
  have hC := below_trans hC hA
  have hT := hT.below hC
  have hB0 := below_trans hB0 hC
  clear hC hA hq f0
  have hA := below_alloc (w1.alloc (.cells (c3 1 1 2) 24)) (.cells #[.int .u8 65, .int .u8 67, .int .u8 67] 5 (3, 4))
  have hq := Sl.new eB (w1.alloc (.cells (c3 1 1 2) 24)) [65, 67, 67] #[eB 65, eB 67, eB 67] 5 (3, 4) 3 3 rfl (Nat.le_refl _) rfl
  have hr := hr.below hA hr.lt
  have k0 := hr.cell 0
  have k1 := hr.cell 1
  have k2 := hr.cell 2
  rw [World.size_alloc] at hq
  have kc1 := kc (w1.alloc (.cells #[.int .i64 1, .int .i64 1, .int .i64 2] 24))
  simp only [World.size_alloc] at kc1
  go_wp2_with fail
  go_at_call 8
  refine (f1 _ _ (hT.below hA) (by simp only [World.size_alloc] at hq ⊢; exact hq)).mono ?_
  rintro e w3 ⟨u1, rfl, hu1, hC⟩
  have hr := hr.below hC hr.lt
  have hC := below_trans hA hC
  have hT := hT.below hC
  have hB0 := below_trans hB0 hC
  clear hC hA hq k0 k1 k2 f1 kc1
  have hA := below_alloc w3 (.cells #[.int .u8 84, .int .u8 84, .int .u8 84] 5 (3, 4))
  have hq := Sl.new eB w3 [84, 84, 84] #[eB 84, eB 84, eB 84] 5 (3, 4) 3 3 rfl (Nat.le_refl _) rfl
  have hr := hr.below hA hr.lt
  have k0 := hr.cell 0
  have k1 := hr.cell 1
  have k2 := hr.cell 2
  go_wp2_with fail
  go_at_call 8
  refine (f2 _ _ (hT.below hA) hq).mono ?_
  rintro e w4 ⟨u2, rfl, hu2, hC⟩
  have hr := hr.below hC hr.lt
  have hC := below_trans hA hC
  have hT := hT.below hC
  have hB0 := below_trans hB0 hC
  have hu1 := hu1.next hC
  clear hC hA hq k0 k1 k2 f2
  clear hu2
  have hA := below_alloc w4 (.cells #[.int .u8 65, .int .u8 67] 5 (2, 3))
  have hq := Sl.new eB w4 [65, 67] #[eB 65, eB 67] 5 (2, 3) 2 2 rfl (Nat.le_refl _) rfl
  have hr := hr.below hA hr.lt
  have k0 := hr.cell 0
  have k1 := hr.cell 1
  have k2 := hr.cell 2
  go_wp2_with fail
  go_at_call 8
  refine (f3 _ _ (hT.below hA) hq).mono ?_
  rintro e w5 ⟨u3, rfl, hu3, hC⟩
  have hr := hr.below hC hr.lt
  have hC := below_trans hA hC
  have hT := hT.below hC
  have hB0 := below_trans hB0 hC
  have hu1 := hu1.next hC
  clear hC hA hq k0 k1 k2 f3
  clear hu3
  have hA := below_alloc w5 (.cells #[.int .u8 65, .int .u8 78, .int .u8 67] 5 (3, 4))
  have hq := Sl.new eB w5 [65, 78, 67] #[eB 65, eB 78, eB 67] 5 (3, 4) 3 3 rfl (Nat.le_refl _) rfl
  have hr := hr.below hA hr.lt
  have k0 := hr.cell 0
  have k1 := hr.cell 1
  have k2 := hr.cell 2
  go_wp2_with fail
  go_at_call 8
  refine (f4 _ _ (hT.below hA) hq).mono ?_
  rintro e w6 ⟨u4, rfl, hu4, hC⟩
  have hr := hr.below hC hr.lt
  have hC := below_trans hA hC
  have hT := hT.below hC
  have hB0 := below_trans hB0 hC
  have hu1 := hu1.next hC
  clear hC hA hq k0 k1 k2 f4
  clear hu4
  have hA := below_alloc w6 (.cells #[.int .u8 65, .int .u8 65, .int .u8 67, .int .u8 67] 5 (4, 5))
  have hq := Sl.new eB w6 [65, 65, 67, 67] #[eB 65, eB 65, eB 67, eB 67] 5 (4, 5) 4 4 rfl (Nat.le_refl _) rfl
  go_wp2_with fail
  go_at_call 10
  refine (f5 _ _ hq).mono ?_
  rintro e w7 ⟨u5, rfl, hu5, hC⟩
  have hC := below_trans hA hC
  have hB0 := below_trans hB0 hC
  have hu1 := hu1.next hC
  clear hC hA hq f5 hT hr
  obtain ⟨A5, k5, rfl, -, hcs⟩ := hu5
  obtain ⟨b5, o5, rfl, hb5, hcell5⟩ := hcs (by simp)
  have x5 := hcell5 1 2 rfl
  have g1 := str_of hu1
  have hA := below_alloc w7 (.cells #[.int .u8 65, .int .u8 67, .int .u8 71] 5 (3, 4))
  have hq := Sl.new eB w7 [65, 67, 71] #[eB 65, eB 67, eB 71] 5 (3, 4) 3 3 rfl (Nat.le_refl _) rfl
  clear hcell5 hu1 hcs
  go_wp2_with fail
  go_at_call 12
  refine (f6 _ _ hq).mono ?_
  rintro e w8 ⟨u6, rfl, hu6, hC⟩
  have hB0 := below_trans hB0 (below_trans hA hC)
  have g6 := str_of hu6.sl
  clear hA hq hC hu6
  go_wp2_with fail
  go_ret
  exact ⟨rfl, hB0⟩
end Go.Proofs.YtpjpfgahjalggaaDoor
