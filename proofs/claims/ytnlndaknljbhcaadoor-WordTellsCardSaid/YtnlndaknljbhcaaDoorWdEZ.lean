/- Contract of word.field. -/
import Derived.Test.YtnlndaknljbhcaaDoorWdDZ
import Derived.Test.YtnlndaknljbhcaaDoorWdNZ
namespace Go.Proofs.YtnlndaknljbhcaaDoor
open Go.RowKit Go.Shelf
attribute [local go_sem] Oper.semAt_some run_store_func

theorem sums_err {x : List UInt8} {m : Int} (h : sumsG x = .error m) : m = 2 ∨ m = 10 := by
  unfold sumsG at h
  split at h
  · injection h with h; omega
  · split at h
    · injection h with h; omega
    · cases h
/-- The field of x, or the error. -/
def wfG (x : List UInt8) : Except Int (List UInt8) :=
  if 2 ≤ x.length ∧ x.length ≤ 800 then match sumsG x with
    | .error m => .error m
    | .ok (a, b, c) => .ok (fldL x a b c)
  else .error 2
theorem wfG_err {x : List UInt8} {m : Int} (h : wfG x = .error m) : m = 2 ∨ m = 10 := by
  unfold wfG at h
  split at h
  · split at h
    · rename_i k hk
      injection h with h
      subst h
      exact sums_err hk
    · cases h
  · injection h with h; omega
/-- What field does. -/
abbrev FieldIs (x : List UInt8) (w : World) : Ending → World → Prop := fun e w' => Below w.heap.size w w' ∧
  ((∃ f v, wfG x = .ok f ∧ e = .returned v ∧ Sl eB w'.heap.size w' v f ∧ ∀ k, v.ownBlock = some k → w.heap.size ≤ k) ∨ ∃ m, wfG x = .error m ∧ e = .panicked (errno m))
set_option maxRecDepth 100000 in
set_option maxHeartbeats 2000000 in
theorem field_len (sv : Value) (x : List UInt8) (h : ¬ (2 ≤ x.length ∧ x.length ≤ 800)) (w : World) (hS : Sl eB w.heap.size w sv x) :
    Calls Tryd.prog 34 #[sv] w (FieldIs x w) := by
  have hm := wmay_no x.length (by omega) w
  have hG := Lib.hid (show wfG x = .error 2 by unfold wfG; rw [if_neg h])
  obtain ⟨A, c, rfl⟩ := hS.len
  clear h
  go_enter Tryd.func34, Tryd.ntmps34
  go_wp2_with fail
  go_at_call 43
  refine hm.mono ?_
  rintro e w' ⟨rfl, rfl⟩
  go_wp2_with fail
  exact ⟨rfl, Below.refl _ _, .inr ⟨2, hG.out, rfl⟩⟩
set_option maxRecDepth 100000 in
set_option maxHeartbeats 2000000 in
theorem field_err (sv : Value) (x : List UInt8) (m : Int) (h : 2 ≤ x.length ∧ x.length ≤ 800) (hs : sumsG x = .error m) (w : World) (hT : Tab w) (hS : Sl eB w.heap.size w sv x) :
    Calls Tryd.prog 34 #[sv] w (FieldIs x w) := by
  have hm := wmay_yes x.length (by omega) (by omega) w
  have hG := Lib.hid (show wfG x = .error m by unfold wfG; rw [if_pos h, hs])
  have hn := wmust_not m (by have := sums_err hs; omega)
  have hO := Of_any sv x (by omega) w hT hS
  obtain ⟨A, c, rfl⟩ := hS.len
  have Hs := Lib.hid hs
  clear h hs
  go_enter Tryd.func34, Tryd.ntmps34
  go_wp2_with fail
  go_at_call 43
  refine hm.mono ?_
  rintro e w' ⟨rfl, rfl⟩
  go_wp2_with fail
  go_at_call 54
  refine hO.mono ?_
  rintro e w1 ⟨hB, ⟨a, b, d, hg, rfl⟩ | ⟨k, hg, rfl⟩⟩
  · rw [Hs.out] at hg; cases hg
  · rw [Hs.out] at hg
    injection hg with hg
    subst hg
    go_wp2_with fail
    go_at_call 55
    refine (hn _).mono ?_
    rintro e w' ⟨rfl, rfl⟩
    exact ⟨rfl, below_trans hB (below_alloc _ _), .inr ⟨m, hG.out, rfl⟩⟩
set_option maxRecDepth 100000 in
set_option maxHeartbeats 2000000 in
theorem field_ok (sv : Value) (x : List UInt8) (a b d : Int) (h : 2 ≤ x.length ∧ x.length ≤ 800) (hs : sumsG x = .ok (a, b, d)) (w : World) (hT : Tab w) (hTB : TabB w) (hS : Sl eB w.heap.size w sv x) :
    Calls Tryd.prog 34 #[sv] w (FieldIs x w) := by
  have hm := wmay_yes x.length (by omega) (by omega) w
  have hG := Lib.hid (show wfG x = .ok (fldL x a b d) by unfold wfG; rw [if_pos h, hs])
  have hok := wmust_ok
  have hO := Of_any sv x (by omega) w hT hS
  obtain ⟨hr, -, -⟩ := sums_right hs
  obtain ⟨p1, p2, p3⟩ := right_nat hr
  have hP := fun w => Pack_yes a.toNat b.toNat d.toNat x.length h.1 (by omega) (by rw [int_nat p1, int_nat p2, int_nat p3]; exact hr) w
  rw [int_nat p1, int_nat p2, int_nat p3] at hP
  have hbits := pack_bits a.toNat b.toNat d.toNat x.length
  have hL : (packL a.toNat b.toNat d.toNat x.length).length ≤ 17592186044416 := by
    rw [packL_length]
    have := tb_le x.length (by omega)
    have := wb_le x.length (by omega)
    unfold longN zb
    omega
  have hF := fun v w h hT => Field_any v (packL a.toNat b.toNat d.toNat x.length) hL w h hT
  unfold fldL at hG
  obtain ⟨A, c, rfl⟩ := hS.len
  have Hs := Lib.hid hs
  have Hbits := Lib.hid hbits
  generalize packL a.toNat b.toNat d.toNat x.length = PL at *
  clear h hs hr p1 p2 p3 hbits hL
  go_enter Tryd.func34, Tryd.ntmps34
  go_wp2_with fail
  go_at_call 43
  refine hm.mono ?_
  rintro e w' ⟨rfl, rfl⟩
  go_wp2_with fail
  go_at_call 54
  refine hO.mono ?_
  rintro e w1 ⟨hB, ⟨a', b', d', hg, rfl⟩ | ⟨k, hg, rfl⟩⟩
  · rw [Hs.out] at hg
    injection hg with hg
    injection hg with e1 hg
    injection hg with e2 e3
    subst e1 e2 e3
    have hA1 := below_alloc w1 (.cells (c3 a b d) 28)
    have hr8 := Rowed.new w1 28 (c3 a b d)
    have hB1 := below_trans hB hA1
    have hTB1 := hTB.below hB1
    clear hO hm hA1 hB
    go_wp2_with fail
    generalize w1.alloc (.cells (c3 a b d) 28) = w2 at *
    generalize w1.heap.size = g at *
    go_at_call 55
    refine (hok _).mono ?_
    rintro e w' ⟨rfl, rfl⟩
    go_wp2_with (refine wpList_load_row rfl 28 (.tmp 3) rfl g rfl _ (c3 a b d) _ _ hr8 Tryd.underlying28 rfl (size_c3 a b d) ?_)
    go_at_call 56
    refine (hP _).mono ?_
    rintro e w3 ⟨hB3, v, rfl, hv⟩
    have hB4 := below_trans hB1 hB3
    have hTB3 := hTB1.below hB3
    obtain ⟨Av, cv, rfl⟩ := hv.len
    clear hB1 hB3 hTB1 hP
    go_wp2_with fail
    go_at_call 55
    refine (hok _).mono ?_
    rintro e w' ⟨rfl, rfl⟩
    go_wp2_with fail
    go_at_call 57
    refine (hF _ _ hv hTB3).mono ?_
    rintro e w5 ⟨v5, hB5, ⟨rfl, -, hv5, hf5⟩ | ⟨-, hno⟩⟩
    · go_wp2_with fail
      go_at_call 55
      refine (hok _).mono ?_
      rintro e w' ⟨rfl, rfl⟩
      obtain ⟨Af, cf, rfl⟩ := hv5.len
      go_wp2_with fail
      go_ret
      exact ⟨below_trans hB4 hB5, .inl ⟨_, _, hG.out, rfl, hv5, fun k hk => Nat.le_trans hB4.size (hf5 k hk)⟩⟩
    · exact absurd Hbits.out hno
  · rw [Hs.out] at hg; cases hg
theorem field_any (sv : Value) (x : List UInt8) (w : World) (hT : Tab w) (hTB : TabB w) (hS : Sl eB w.heap.size w sv x) :
    Calls Tryd.prog 34 #[sv] w (FieldIs x w) := by
  by_cases h : 2 ≤ x.length ∧ x.length ≤ 800
  · cases hs : sumsG x with
    | error m => exact field_err sv x m h hs w hT hS
    | ok s => obtain ⟨a, b, d⟩ := s; exact field_ok sv x a b d h hs w hT hTB hS
  · exact field_len sv x h w hS
end Go.Proofs.YtnlndaknljbhcaaDoor
