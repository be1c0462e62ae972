/- Contracts of helixref16.Long, Junction, Field. -/
import Derived.Test.YtnlndaknljbhcaaDoorSxGZ
import Derived.Test.YtnlndaknljbhcaaDoorWtAZ
namespace Go.Proofs.YtnlndaknljbhcaaDoor
open Go.RowKit Go.Shelf
attribute [local go_sem] Oper.semAt_some run_store_func

set_option maxRecDepth 100000 in
set_option maxHeartbeats 1000000 in
theorem WRLong_no (k : Int) (h : k < 2 ∨ 800 < k) (w : World) : Calls Tryd.prog 21 #[.int .i64 k] w fun e w' => e = .returned (.int .i64 (-1)) ∧ w = w' := by
  by_cases h1 : k < 2
  · clear h
    go_enter Tryd.func21, Tryd.ntmps21
    go_wp2
    go_ret
    exact ⟨rfl, rfl⟩
  · have h2 : ¬ k < 2 := h1
    have h3 : 800 < k := by omega
    clear h h1
    go_enter Tryd.func21, Tryd.ntmps21
    go_wp2
    go_ret
    exact ⟨rfl, rfl⟩
set_option maxRecDepth 100000 in
set_option maxHeartbeats 1000000 in
theorem WRLong_yes (n : Nat) (h2 : 2 ≤ n) (h8 : n ≤ 800) (w : World) : Calls Tryd.prog 21 #[.int .i64 n] w fun e w' => e = .returned (.int .i64 (wlongN n : Nat)) ∧ w = w' := by
  have hL := rLong_yes n h2 (by omega) w
  have hl : longN n ≤ 1000 := by
    have := tb_le n (by omega)
    have := wb_le n (by omega)
    unfold longN zb
    omega
  have hf := long_facts n (longN n) h8 hl
  have d1 : ¬ (n : Int) < 2 := by omega
  have d2 : ¬ (800 : Int) < (n : Int) := by omega
  have d3 : decide ((n : Int) < 2) = false := decide_eq_false d1
  have d4 : decide ((800 : Int) < (n : Int)) = false := decide_eq_false d2
  have d5 : ¬ n < 2 := by omega
  have d6 : ¬ 800 < n := by omega
  unfold wlongN
  generalize longN n = L at *
  have HF := Lib.hid hf
  clear hf hl h2 h8
  obtain ⟨⟨a1, a2⟩, ⟨b1, b2⟩, c1, c2⟩ := HF.out
  go_enter Tryd.func21, Tryd.ntmps21
  go_wp2_with fail
  go_at_call 45
  refine hL.mono ?_
  rintro e w2 ⟨rfl, rfl⟩
  go_wp2_with fail
  go_ret
  exact ⟨rfl, rfl⟩
theorem jN_cases (a b : UInt8) : (jN a b = 0 ∧ (a ≠ 65 ∧ b ≠ 65)) ∨ (jN a b = 1 ∧ ¬ (a ≠ 65 ∧ b ≠ 65) ∧ (a ≠ 67 ∧ b ≠ 67)) ∨ (jN a b = 2 ∧ ¬ (a ≠ 65 ∧ b ≠ 65) ∧ ¬ (a ≠ 67 ∧ b ≠ 67)) := by
  unfold jN
  by_cases h0 : a ≠ 65 ∧ b ≠ 65
  · exact .inl ⟨if_pos h0, h0⟩
  · by_cases h1 : a ≠ 67 ∧ b ≠ 67
    · exact .inr (.inl ⟨by rw [if_neg h0, if_pos h1], h0, h1⟩)
    · exact .inr (.inr ⟨by rw [if_neg h0, if_neg h1], h0, h1⟩)
theorem acgt_at : ∀ k, k < 4 → ∀ w, (Instr.index 9 (.string ⟨#[65, 67, 71, 84]⟩) (.int .i64 (k : Nat))).run Tryd.prog w = .ok (eB (letterOf (k : Int))) w := by
  intro k hk w
  rcases (show k = 0 ∨ k = 1 ∨ k = 2 ∨ k = 3 by omega) with rfl | rfl | rfl | rfl <;> kernel_rfl
set_option maxRecDepth 100000 in
set_option maxHeartbeats 2000000 in
theorem WRJunction_any (a b : UInt8) (w : World) : Calls Tryd.prog 19 #[eB a, eB b] w fun e w' => e = .returned (eB (letterOf (jN a b : Nat))) ∧ w = w' := by
  have hj := jN_le a b
  go_enter Tryd.func19, Tryd.ntmps19
  go_wp2_with fail
  go_loopw [6] (fun t wr => ∃ k : Nat, k ≤ jN a b ∧ t = .int .i64 k ∧ wr = w) (fun t _ => jN a b + 1 - (intOf t).toNat)
  case atStart => exact ⟨0, Nat.zero_le _, rfl, rfl⟩
  case round =>
    obtain ⟨k, hk, rfl, rfl⟩ := hrel
    have hix := acgt_at k (by omega)
    have hk4 : (k : Int) < 4 := by omega
    have hk9 : k ≤ 2 := by omega
    by_cases hlt : k < jN a b
    · have hh := jN_hit a b k hlt
      have Hk := Lib.hid hlt
      generalize letterOf (k : Int) = l at *
      by_cases ha : l = a
      · have f1 : ((l.toNat : Int) != (a.toNat : Int)) = false := by rw [ha]; simp
        clear hh hk hlt hj ha
        go_wp2_with fail
        go_roundw
        case rel => exact ⟨k + 1, Hk.out, by go_num, trivial⟩
        case measure => have := Hk.out; simp [intOf]; omega
      · have hb : l = b := hh.resolve_left ha
        have f1 : ((l.toNat : Int) != (a.toNat : Int)) = true := by rw [bne_iff_ne]; exact u8_neR _ _ ha
        have f2 : ((l.toNat : Int) != (b.toNat : Int)) = false := by rw [hb]; simp
        clear hh hk hlt hj ha hb
        go_wp2_with fail
        go_roundw
        case rel => exact ⟨k + 1, Hk.out, by go_num, trivial⟩
        case measure => have := Hk.out; simp [intOf]; omega
    · have hkj : k = jN a b := by omega
      have hf := jN_free a b
      rw [← hkj] at hf
      have Hkj := Lib.hid hkj
      obtain ⟨l, hl⟩ : ∃ l, letterOf (k : Int) = l := ⟨_, rfl⟩
      rw [hl] at hix hf
      have Hl := Lib.hid hl
      have f1 : ((l.toNat : Int) != (a.toNat : Int)) = true := by rw [bne_iff_ne]; exact u8_neR _ _ hf.1
      have f2 : ((l.toNat : Int) != (b.toNat : Int)) = true := by rw [bne_iff_ne]; exact u8_neR _ _ hf.2
      clear hk hlt hj hf hl hkj
      go_wp2_with fail
      go_ret
      exact ⟨by rw [← Hkj.out, Hl.out]; rfl, rfl⟩
theorem neg_len (n : Nat) : ¬ ((n : Nat) : Int) < 0 := by omega
/-- What the reference's Field does. -/
abbrev RFieldIs (x : List UInt8) (w : World) : Ending → World → Prop := fun e w' => Below w.heap.size w w' ∧
  ((∃ f v, wfG x = .ok f ∧ e = .returned (.tuple #[v, .int .i64 0]) ∧ Sl eB w'.heap.size w' v f) ∨ ∃ m, wfG x = .error m ∧ e = .returned (.tuple #[.slice none 0 0, .int .i64 m]))
set_option maxRecDepth 100000 in
set_option maxHeartbeats 2000000 in
theorem WRField_len (sv : Value) (x : List UInt8) (h : ¬ (2 ≤ x.length ∧ x.length ≤ 800)) (w : World) (hS : Sl eB w.heap.size w sv x) :
    Calls Tryd.prog 12 #[sv] w (RFieldIs x w) := by
  have hm := WRLong_no x.length (by omega) w
  have hG := Lib.hid (show wfG x = .error 2 by unfold wfG; rw [if_neg h])
  obtain ⟨A, c, rfl⟩ := hS.len
  clear h
  go_enter Tryd.func12, Tryd.ntmps12
  go_wp2_with fail
  go_at_call 21
  refine hm.mono ?_
  rintro e w' ⟨rfl, rfl⟩
  go_wp2_with fail
  go_ret2
  exact ⟨Below.refl _ _, .inr ⟨2, hG.out, rfl⟩⟩
set_option maxRecDepth 100000 in
set_option maxHeartbeats 2000000 in
theorem WRField_err (sv : Value) (x : List UInt8) (m : Int) (h : 2 ≤ x.length ∧ x.length ≤ 800) (hs : sumsG x = .error m) (w : World) (hS : Sl eB w.heap.size w sv x) :
    Calls Tryd.prog 12 #[sv] w (RFieldIs x w) := by
  have hm := WRLong_yes x.length h.1 h.2 w
  have hn := neg_len (wlongN x.length)
  have hG := Lib.hid (show wfG x = .error m by unfold wfG; rw [if_pos h, hs])
  have hm0 : (m != 0) = true := by rw [bne_iff_ne]; have := sums_err hs; omega
  have hO := rOf_any sv x (by omega) w hS
  obtain ⟨A, c, rfl⟩ := hS.len
  have Hs := Lib.hid hs
  generalize wlongN x.length = L at *
  clear h hs
  go_enter Tryd.func12, Tryd.ntmps12
  go_wp2_with fail
  go_at_call 21
  refine hm.mono ?_
  rintro e w' ⟨rfl, rfl⟩
  go_wp2_with fail
  go_at_call 28
  refine hO.mono ?_
  rintro e w1 ⟨hB, ⟨a, b, d, hg, rfl⟩ | ⟨k, hg, rfl⟩⟩
  · rw [Hs.out] at hg; cases hg
  · rw [Hs.out] at hg
    injection hg with hg
    subst hg
    go_wp2_with fail
    go_ret2
    exact ⟨below_trans hB (below_alloc _ _), .inr ⟨m, hG.out, rfl⟩⟩
set_option maxRecDepth 100000 in
set_option maxHeartbeats 2000000 in
theorem WRField_ok (sv : Value) (x : List UInt8) (a b d : Int) (h : 2 ≤ x.length ∧ x.length ≤ 800) (hs : sumsG x = .ok (a, b, d)) (w : World) (hS : Sl eB w.heap.size w sv x) :
    Calls Tryd.prog 12 #[sv] w (RFieldIs x w) := by
  have hm := WRLong_yes x.length h.1 h.2 w
  have hn := neg_len (wlongN x.length)
  have hG := Lib.hid (show wfG x = .ok (fldL x a b d) by unfold wfG; rw [if_pos h, hs])
  have hO := rOf_any sv x (by omega) w hS
  obtain ⟨hr, -, -⟩ := sums_right hs
  obtain ⟨a', b', d', n', e1, e2, e3, e4, -, -, ha, hb, hd⟩ := rightB_nat hr
  obtain rfl : n' = x.length := by omega
  subst e1 e2 e3
  have hP := fun w => rPack_yes a' b' d' x.length h.1 (by omega) ha hb hd hr w
  have hbits := pack_bits a' b' d' x.length
  have hL : (packL a' b' d' x.length).length ≤ 100000 := by
    rw [packL_length]
    have := tb_le x.length (by omega)
    have := wb_le x.length (by omega)
    unfold longN zb
    omega
  have hF := fun v w h => RField_any v (packL a' b' d' x.length) hL w h
  unfold fldL at hG
  simp only [Int.toNat_natCast] at hG
  obtain ⟨A, c, rfl⟩ := hS.len
  have Hs := Lib.hid hs
  have Hbits := Lib.hid hbits
  generalize packL a' b' d' x.length = PL at *
  generalize wlongN x.length = L at *
  clear h hs hr hbits hL ha hb hd e4
  go_enter Tryd.func12, Tryd.ntmps12
  go_wp2_with fail
  go_at_call 21
  refine hm.mono ?_
  rintro e w' ⟨rfl, rfl⟩
  go_wp2_with fail
  go_at_call 28
  refine hO.mono ?_
  rintro e w1 ⟨hB, ⟨a2, b2, d2, hg, rfl⟩ | ⟨k, hg, rfl⟩⟩
  · rw [Hs.out] at hg
    injection hg with hg
    injection hg with e1 hg
    injection hg with e2 e3
    subst e1 e2 e3
    have hA1 := below_alloc w1 (.cells (c3 a' b' d') 28)
    have hr8 := Rowed.new w1 28 (c3 a' b' d')
    have hB1 := below_trans hB hA1
    clear hO hm hA1 hB
    go_upto_region 4 with fail
    generalize w1.alloc (.cells (c3 a' b' d') 28) = w2 at *
    generalize w1.heap.size = g at *
    go_wp2_with (refine wpList_load_row rfl 28 (.tmp 4) rfl g rfl _ (c3 a' b' d') _ _ hr8 Tryd.underlying28 rfl (size_c3 a' b' d') ?_)
    go_at_call 35
    refine (hP _).mono ?_
    clear hP
    rintro e w3 ⟨v, rfl, hB3, hv⟩
    have hB4 := below_trans hB1 hB3
    obtain ⟨Av, cv, rfl⟩ := hv.len
    clear hB1 hB3 hr8
    go_wp2_with fail
    go_at_call 36
    refine (hF _ _ hv).mono ?_
    clear hF
    rintro e w5 ⟨hB5, ⟨v5, rfl, -, hv5⟩ | ⟨-, hno⟩⟩
    · obtain ⟨Af, cf, rfl⟩ := hv5.len
      clear hv
      go_wp2_with fail
      go_ret2
      exact ⟨below_trans hB4 hB5, .inl ⟨_, _, hG.out, rfl, hv5⟩⟩
    · exact absurd Hbits.out hno
  · rw [Hs.out] at hg; cases hg
theorem WRField_any (sv : Value) (x : List UInt8) (w : World) (hS : Sl eB w.heap.size w sv x) : Calls Tryd.prog 12 #[sv] w (RFieldIs x w) := by
  by_cases h : 2 ≤ x.length ∧ x.length ≤ 800
  · cases hs : sumsG x with
    | error m => exact WRField_err sv x m h hs w hS
    | ok s => obtain ⟨a, b, d⟩ := s; exact WRField_ok sv x a b d h hs w hS
  · exact WRField_len sv x h w hS
end Go.Proofs.YtnlndaknljbhcaaDoor
