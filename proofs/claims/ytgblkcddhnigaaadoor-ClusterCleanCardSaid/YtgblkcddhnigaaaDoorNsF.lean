/- Contracts of nt.Least and of the law's own wakes. -/
import Derived.Test.YtgblkcddhnigaaaDoorNsE
namespace Go.Proofs.YtgblkcddhnigaaaDoor
open Go.RowKit Go.Shelf
attribute [local go_sem] Oper.semAt_some

/-- The lesser one, and whether it is the one turned about. -/
def leastOf (bs : List UInt8) : List UInt8 × Bool :=
  if (-1 : Int) ∈ codesOf bs then (bs, false) else if Lib.compareBytes (rcOf bs) bs < 0 then (rcOf bs, true) else (bs, false)

set_option maxRecDepth 100000 in
set_option maxHeartbeats 1000000 in
theorem Least_any (sv : Value) (bs : List UInt8) (hreach : bs.length ≤ 17592186044416) (w : World) (hS : Sl eB w.heap.size w sv bs) (hT : Tab w) :
    Calls Tryd.prog 31 #[sv] w fun e W' => ∃ v, Below w.heap.size w W' ∧ e = .returned (.tuple #[v, .bool (leastOf bs).2]) ∧ Sl eB W'.heap.size W' v (leastOf bs).1 := by
  obtain ⟨A, cap, rfl⟩ := hS.len
  go_enter Tryd.func31, Tryd.ntmps31
  go_wp2_with fail
  go_at_call 41
  refine (Rc_any _ bs hreach _ hS hT).mono ?_
  rintro e w1 ⟨v1, hB1, ⟨rfl, hnot, hv1⟩ | ⟨rfl, hin⟩⟩
  · have hS1 := hS.next hB1
    obtain ⟨A1, cap1, rfl⟩ := hv1.len
    by_cases hlt : Lib.compareBytes (rcOf bs) bs < 0
    · have hL := Lib.hid (show leastOf bs = (rcOf bs, true) by simp [leastOf, hnot, hlt])
      have hd : decide (Lib.compareBytes (rcOf bs) bs < 0) = true := by simpa using hlt
      clear hnot
      go_wp2_with (go_at_call 42; refine (Compare_any _ _ _ _ _ _ hv1 hS1).mono ?_; rintro e w' ⟨rfl, rfl⟩)
      go_ret2
      exact ⟨_, hB1, by rw [hL.out]; rfl, by rw [hL.out]; exact hv1⟩
    · have hL := Lib.hid (show leastOf bs = (bs, false) by simp [leastOf, hnot, hlt])
      have hd : decide (Lib.compareBytes (rcOf bs) bs < 0) = false := by simpa using hlt
      clear hnot
      go_wp2_with (first
        | (go_at_call 42; refine (Compare_any _ _ _ _ _ _ hv1 hS1).mono ?_; rintro e w' ⟨rfl, rfl⟩)
        | (go_at_call 29; refine (Clone_any _ bs (by omega) _ hS1).mono ?_; rintro e w2 ⟨v2, rfl, hv2, hB2⟩))
      go_ret2
      exact ⟨v2, below_trans hB1 hB2, by rw [hL.out]; rfl, by rw [hL.out]; exact hv2⟩
  · have hS1 := hS.next hB1
    have hL := Lib.hid (show leastOf bs = (bs, false) by simp [leastOf, hin])
    clear hin
    go_wp2_with (go_at_call 29; refine (Clone_any _ bs (by omega) _ hS1).mono ?_; rintro e w2 ⟨v2, rfl, hv2, hB2⟩)
    go_ret2
    exact ⟨v2, below_trans hB1 hB2, by rw [hL.out]; rfl, by rw [hL.out]; exact hv2⟩

theorem Valid_is (sv : Value) (bs : List UInt8) (hreach : bs.length ≤ 140737488351232) (r : Bool) (hr : decide ((-1 : Int) ∉ codesOf bs) = r) (w : World) (hS : Sl eB w.heap.size w sv bs) (hT : Tab w) :
    Calls Tryd.prog 57 #[sv] w fun e W' => e = .returned (.bool r) ∧ Below w.heap.size w W' := by subst hr; exact Valid_any sv bs hreach w hS hT
theorem letter_is (n : Int) (r : Int) (hr : ((letterOf n).toNat : Int) = r) (w : World) (hT : Tab w) :
    Calls Tryd.prog 52 #[.int .i64 n] w fun e w' => e = .returned (.int .u8 r) ∧ w = w' := by subst hr; exact letter_any n w hT

theorem below_alloc (w : World) (o : Obj) : Below w.heap.size w (w.alloc o) := (Below.refl _ w).alloc (Nat.le_refl _) o

end Go.Proofs.YtgblkcddhnigaaaDoor
