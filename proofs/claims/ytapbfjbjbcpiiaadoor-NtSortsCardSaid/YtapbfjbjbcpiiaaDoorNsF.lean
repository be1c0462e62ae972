/- Contracts of nt.Least and of the law's own wakes. -/
import Derived.Test.YtapbfjbjbcpiiaaDoorNsE
namespace Go.Proofs.YtapbfjbjbcpiiaaDoor
open Go.RowKit Go.Shelf
attribute [local go_sem] Oper.semAt_some

/-- The lesser one, and whether it is the one turned about. -/
def leastOf (bs : List UInt8) : List UInt8 × Bool :=
  if (-1 : Int) ∈ codesOf bs then (bs, false) else if Lib.compareBytes (rcOf bs) bs < 0 then (rcOf bs, true) else (bs, false)

set_option maxRecDepth 100000 in
set_option maxHeartbeats 1000000 in
theorem Least_any (sv : Value) (bs : List UInt8) (hreach : bs.length ≤ 17592186044416) (w : World) (hS : Sl eB w.heap.size w sv bs) (hT : Tab w) :
    Calls Tryd.prog 25 #[sv] w fun e W' => ∃ v, Below w.heap.size w W' ∧ e = .returned (.tuple #[v, .bool (leastOf bs).2]) ∧ Sl eB W'.heap.size W' v (leastOf bs).1 := by
  obtain ⟨A, cap, rfl⟩ := hS.len
  go_enter Tryd.func25, Tryd.ntmps25
  go_wp2_with fail
  go_at_call 23
  refine (Rc_any _ bs hreach _ hS hT).mono ?_
  rintro e w1 ⟨v1, hB1, ⟨rfl, hnot, hv1⟩ | ⟨rfl, hin⟩⟩
  · have hS1 := hS.next hB1
    obtain ⟨A1, cap1, rfl⟩ := hv1.len
    by_cases hlt : Lib.compareBytes (rcOf bs) bs < 0
    · have hL := Lib.hid (show leastOf bs = (rcOf bs, true) by simp [leastOf, hnot, hlt])
      have hd : decide (Lib.compareBytes (rcOf bs) bs < 0) = true := by simpa using hlt
      clear hnot
      go_wp2_with (go_at_call 32; refine (Compare_any _ _ _ _ _ _ hv1 hS1).mono ?_; rintro e w' ⟨rfl, rfl⟩)
      go_ret2
      exact ⟨_, hB1, by rw [hL.out]; rfl, by rw [hL.out]; exact hv1⟩
    · have hL := Lib.hid (show leastOf bs = (bs, false) by simp [leastOf, hnot, hlt])
      have hd : decide (Lib.compareBytes (rcOf bs) bs < 0) = false := by simpa using hlt
      clear hnot
      go_wp2_with (first
        | (go_at_call 32; refine (Compare_any _ _ _ _ _ _ hv1 hS1).mono ?_; rintro e w' ⟨rfl, rfl⟩)
        | (go_at_call 30; refine (Clone_any _ bs (by omega) _ hS1).mono ?_; rintro e w2 ⟨v2, rfl, hv2, hB2⟩))
      go_ret2
      exact ⟨v2, below_trans hB1 hB2, by rw [hL.out]; rfl, by rw [hL.out]; exact hv2⟩
  · have hS1 := hS.next hB1
    have hL := Lib.hid (show leastOf bs = (bs, false) by simp [leastOf, hin])
    clear hin
    go_wp2_with (go_at_call 30; refine (Clone_any _ bs (by omega) _ hS1).mono ?_; rintro e w2 ⟨v2, rfl, hv2, hB2⟩)
    go_ret2
    exact ⟨v2, below_trans hB1 hB2, by rw [hL.out]; rfl, by rw [hL.out]; exact hv2⟩

theorem same_is (sa sb : Value) (a b : List UInt8) (r : Bool) (hr : decide (a = b) = r) (B : Nat) (w : World) (ha : Sl eB B w sa a) (hb : Sl eB B w sb b) :
    Calls Tryd.prog 13 #[sa, sb] w fun e w' => e = .returned (.bool r) ∧ w = w' := by subst hr; exact same_any sa sb a b B w ha hb
theorem Valid_is (sv : Value) (bs : List UInt8) (hreach : bs.length ≤ 140737488351232) (r : Bool) (hr : decide ((-1 : Int) ∉ codesOf bs) = r) (w : World) (hS : Sl eB w.heap.size w sv bs) (hT : Tab w) :
    Calls Tryd.prog 29 #[sv] w fun e W' => e = .returned (.bool r) ∧ Below w.heap.size w W' := by subst hr; exact Valid_any sv bs hreach w hS hT
theorem Run_is (sv : Value) (bs : List UInt8) (hreach : bs.length ≤ 140737488351232) (r : Int) (hr : ((runAt bs bs.length).1 : Int) = r) (B : Nat) (w : World) (hS : Sl eB B w sv bs) :
    Calls Tryd.prog 26 #[sv] w fun e w' => e = .returned (.int .i64 r) ∧ w = w' := by subst hr; exact Run_any sv bs hreach B w hS
theorem Gc_is (sv : Value) (bs : List UInt8) (hreach : bs.length ≤ 140737488351232) (r : Int) (hr : (gcOf bs : Int) = r) (B : Nat) (w : World) (hS : Sl eB B w sv bs) :
    Calls Tryd.prog 27 #[sv] w fun e w' => e = .returned (.int .i64 r) ∧ w = w' := by subst hr; exact Gc_any sv bs hreach B w hS
theorem letter_is (n : Int) (r : Int) (hr : ((letterOf n).toNat : Int) = r) (w : World) (hT : Tab w) :
    Calls Tryd.prog 28 #[.int .i64 n] w fun e w' => e = .returned (.int .u8 r) ∧ w = w' := by subst hr; exact letter_any n w hT

theorem below_alloc (w : World) (o : Obj) : Below w.heap.size w (w.alloc o) := (Below.refl _ w).alloc (Nat.le_refl _) o

set_option maxRecDepth 100000 in
set_option maxHeartbeats 4000000 in
theorem wakes_any (w : World) (hT : Tab w) : Calls Tryd.prog 9 #[] w fun e w' => e = .returned (.bool true) ∧ Below w.heap.size w w' := by
  have kc := fun (w : World) (C : Array Value) (n c : Nat) => Lib.run_convert_bytes_const (P := Tryd.prog) w 25 5 C n c Tryd.underlying25 Tryd.underlying5
  go_enter Tryd.func9, Tryd.ntmps9
  go_wp2_with fail
  go_at_call 23
  have hA0 := below_alloc w (.cells #[.int .u8 65, .int .u8 65, .int .u8 67, .int .u8 71] 5 (4, 5))
  refine (Rc_any _ [65, 65, 67, 71] (by simp) _ (Sl.new eB w [65, 65, 67, 71] #[.int .u8 65, .int .u8 65, .int .u8 67, .int .u8 71] _ _ 4 4 rfl (by simp) rfl) (hT.below hA0)).mono ?_
  rintro e w1 ⟨v1, hB1, hor⟩
  obtain ⟨rfl, -, hv1⟩ := hor.resolve_right (fun h => absurd h.2 (by decide))
  clear hor
  have hB1' : Below w.heap.size w w1 := below_trans hA0 hB1
  have hT1 : Tab w1 := hT.below hB1'
  clear hA0 hB1 hT
  go_wp2_with fail
  go_at_call 24
  refine (Code_no 78 _ hT1 (by decide)).mono ?_
  rintro e w' ⟨rfl, rfl⟩
  go_wp2_with fail
  go_at_call 25
  have hA1 := below_alloc w1 (.cells #[.int .u8 84, .int .u8 84] 5 (2, 3))
  refine (Least_any _ [84, 84] (by simp) _ (Sl.new eB w1 [84, 84] #[.int .u8 84, .int .u8 84] _ _ 2 2 rfl (by simp) rfl) (hT1.below hA1)).mono ?_
  rw [show leastOf [84, 84] = ([65, 65], true) from by decide]
  rintro e w2 ⟨v2, hB2, rfl, hv2⟩
  have hB2' : Below w1.heap.size w1 w2 := below_trans hA1 hB2
  have hT2 : Tab w2 := hT1.below hB2'
  have hv1' := hv1.next hB2'
  rw [show rcOf [65, 65, 67, 71] = [67, 71, 84, 84] from by decide] at hv1'
  have hBw2 : Below w.heap.size w w2 := below_trans hB1' hB2'
  clear hA1 hB2 hT1 hv1 hB1' hB2'
  go_wp2_with fail
  go_at_call 13
  have hA2 := below_alloc w2 (.cells #[.int .u8 67, .int .u8 71, .int .u8 84, .int .u8 84] 5 (4, 5))
  refine (same_is _ _ [67, 71, 84, 84] [67, 71, 84, 84] true (by decide) _ _ (hv1'.next hA2) (Sl.new eB w2 [67, 71, 84, 84] #[.int .u8 67, .int .u8 71, .int .u8 84, .int .u8 84] _ _ 4 4 rfl (by simp) rfl)).mono ?_
  rintro e w' ⟨rfl, rfl⟩
  have hv2' := hv2.next hA2
  have hT3 := hT2.below hA2
  have hBw3 := below_trans hBw2 hA2
  clear hA2 hT2 hv2 hBw2 hv1'
  generalize w2.alloc _ = w3 at *
  go_wp2_with fail
  go_at_call 26
  have hA3 := below_alloc w3 (.cells #[.int .u8 65, .int .u8 67, .int .u8 67, .int .u8 67, .int .u8 84] 5 (5, 6))
  refine (Run_is _ [65, 67, 67, 67, 84] (by simp) 3 (by decide) _ _ (Sl.new eB w3 [65, 67, 67, 67, 84] #[.int .u8 65, .int .u8 67, .int .u8 67, .int .u8 67, .int .u8 84] _ _ 5 5 rfl (by simp) rfl)).mono ?_
  rintro e w' ⟨rfl, rfl⟩
  have hv3' := hv2'.next hA3
  have hT4 := hT3.below hA3
  have hBw4 := below_trans hBw3 hA3
  clear hA3 hT3 hBw3 hv2'
  generalize w3.alloc _ = w4 at *
  go_wp2_with fail
  go_at_call 27
  have hA4 := below_alloc w4 (.cells #[.int .u8 65, .int .u8 67, .int .u8 67, .int .u8 67, .int .u8 84] 5 (5, 6))
  refine (Gc_is _ [65, 67, 67, 67, 84] (by simp) 3 (by decide) _ _ (Sl.new eB w4 [65, 67, 67, 67, 84] #[.int .u8 65, .int .u8 67, .int .u8 67, .int .u8 67, .int .u8 84] _ _ 5 5 rfl (by simp) rfl)).mono ?_
  rintro e w' ⟨rfl, rfl⟩
  have hv4' := hv3'.next hA4
  have hT5 := hT4.below hA4
  have hBw5 := below_trans hBw4 hA4
  clear hA4 hT4 hBw4 hv3'
  generalize w4.alloc _ = w5 at *
  go_wp2_with fail
  go_at_call 28
  refine (letter_is 2 71 (by decide) _ hT5).mono ?_
  rintro e w' ⟨rfl, rfl⟩
  go_wp2_with fail
  go_at_call 13
  have hA5 := below_alloc w5 (.cells #[.int .u8 65, .int .u8 65] 5 (2, 3))
  refine (same_is _ _ [65, 65] [65, 65] true (by decide) _ _ (hv4'.next hA5) (Sl.new eB w5 [65, 65] #[.int .u8 65, .int .u8 65] _ _ 2 2 rfl (by simp) rfl)).mono ?_
  rintro e w' ⟨rfl, rfl⟩
  have hT6 := hT5.below hA5
  have hBw6 := below_trans hBw5 hA5
  clear hA5 hT5 hBw5 hv4'
  generalize w5.alloc _ = w6 at *
  go_wp2_with fail
  go_at_call 29
  refine (Valid_is _ [] (by simp) true (by decide) _ (Sl.nil _ _ _) hT6).mono ?_
  rintro e w7 ⟨rfl, hB7⟩
  have hT7 := hT6.below hB7
  have hBw7 := below_trans hBw6 hB7
  clear hB7 hT6 hBw6
  go_wp2_with fail
  go_at_call 29
  have hA7 := below_alloc w7 (.cells #[.int .u8 97] 5 (1, 2))
  refine (Valid_is _ [97] (by simp) false (by decide) _ (Sl.new eB w7 [97] #[.int .u8 97] _ _ 1 1 rfl (by simp) rfl) (hT7.below hA7)).mono ?_
  rintro e w8 ⟨rfl, hB8⟩
  go_wp2_with fail
  go_ret
  exact ⟨rfl, below_trans hBw7 (below_trans hA7 hB8)⟩
end Go.Proofs.YtapbfjbjbcpiiaaDoor
