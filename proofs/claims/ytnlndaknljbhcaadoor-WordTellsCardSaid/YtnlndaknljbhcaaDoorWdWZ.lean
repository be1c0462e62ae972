/- Contracts of word.Right and word.Inner, bytes.Equal, bytes.Clone and the law's same. -/
import Derived.Lib.SlBytesConst
import Derived.Test.YtnlndaknljbhcaaDoorClBZ
import Derived.Test.YtnlndaknljbhcaaDoorWdJZ
namespace Go.Proofs.YtnlndaknljbhcaaDoor
open Go.RowKit Go.Shelf
attribute [local go_sem] Oper.semAt_some run_store_func

theorem same_any (sa sb : Value) (a b : List UInt8) (B : Nat) (w : World) (ha : Sl eB B w sa a) (hb : Sl eB B w sb b) :
    Calls Tryd.prog 17 #[sa, sb] w fun e w' => e = .returned (.bool (decide (a = b))) ∧ w = w' := by
  have ra := run_str (P := Tryd.prog) ha 22 9 5 Tryd.underlying22 Tryd.underlying5 Tryd.underlying9
  have rb := run_str (P := Tryd.prog) hb 22 9 5 Tryd.underlying22 Tryd.underlying5 Tryd.underlying9
  obtain ⟨Aa, ca, rfl⟩ := ha.len
  obtain ⟨Ab, cb, rfl⟩ := hb.len
  clear ha hb
  go_enter Tryd.func17, Tryd.ntmps17
  go_wp2
  go_ret
  exact ⟨by rw [← beq_dec]; rfl, rfl⟩
theorem bEqual_any (sa sb : Value) (a b : List UInt8) (B : Nat) (w : World) (ha : Sl eB B w sa a) (hb : Sl eB B w sb b) :
    Calls Tryd.prog 46 #[sa, sb] w fun e w' => e = .returned (.bool (decide (a = b))) ∧ w = w' := by
  have ra := run_str (P := Tryd.prog) ha 22 9 5 Tryd.underlying22 Tryd.underlying5 Tryd.underlying9
  have rb := run_str (P := Tryd.prog) hb 22 9 5 Tryd.underlying22 Tryd.underlying5 Tryd.underlying9
  obtain ⟨Aa, ca, rfl⟩ := ha.len
  obtain ⟨Ab, cb, rfl⟩ := hb.len
  clear ha hb
  go_enter Tryd.func46, Tryd.ntmps46
  go_wp2
  go_ret
  exact ⟨by rw [← beq_dec]; rfl, rfl⟩
set_option maxRecDepth 100000 in
set_option maxHeartbeats 400000 in
theorem BClone_any (sv : Value) (a : List UInt8) (hreach : a.length ≤ 140737488355328) (w : World) (ha : Sl eB w.heap.size w sv a) :
    Calls Tryd.prog 41 #[sv] w fun e w' => ∃ v, e = .returned v ∧ Own8 w.heap.size w' v a ∧ Below w.heap.size w w' := by
  obtain ⟨i0, hi, hz0, hz1, hz2⟩ := info_parts info_u8
  have hrow := row_made w
  have hB1 : Below w.heap.size w (w.alloc (.cells #[] 5)) := (Below.refl _ _).alloc (Nat.le_refl _) _
  obtain ⟨A, c, rfl⟩ := ha.len
  cases A with
  | none =>
    have hx : a = [] := by
      obtain ⟨A, c', e, _, hcells⟩ := ha
      cases e
      cases a with
      | nil => rfl
      | cons x xs => obtain ⟨_, _, h, _⟩ := hcells (by simp); cases h
    subst hx
    have hq : ∀ w, (binOp .eql 22 (.slice none 0 c) (.slice none 0 0)).run Tryd.prog w = .ok (.bool true) w := fun w => Lib.run_eql_slice_nil w 22 5 none 0 c 0 0 Tryd.underlying22
    go_enter Tryd.func41, Tryd.ntmps41
    go_wp2
    go_ret
    exact ⟨_, rfl, ⟨rfl, .inl ⟨rfl, rfl⟩⟩, Below.refl _ _⟩
  | some ad =>
    have hq : ∀ w, (binOp .eql 22 (.slice (some ad) a.length c) (.slice none 0 0)).run Tryd.prog w = .ok (.bool false) w := fun w => Lib.run_eql_slice_nil w 22 5 (some ad) a.length c 0 0 Tryd.underlying22
    go_enter Tryd.func41, Tryd.ntmps41
    go_wp2_with
      (at_builtin
       refine wpList_append_sl _ rfl (.tmp 5) (.tmp 6) _ rfl w.heap.size 5 i0 (.int .u8 0) 1 Tryd.underlying22 hi hz0 hz1 hz2 rfl _ 0 [] hrow rfl w.heap.size (.slice (some ad) a.length c) a (ha.below hB1) rfl (fun _ => rfl) (by unfold maxLen; omega) (by omega) (by simp) ?_
       intro v1 w1 hown1 hg1 hat1
       have hB2 : Below w.heap.size w w1 := hB1.trans (below_grown hrow hg1 (by simp) (Nat.le_refl _)))
    go_ret
    exact ⟨v1, rfl, by simpa [Own8] using hown1, hB2⟩
/-- Whether y is a word of n letters. -/
def wRightB (y : List UInt8) (n : Int) : Bool :=
  if 2 ≤ n ∧ n ≤ 800 ∧ y.length = wlongN n.toNat then match wfG (y.take n.toNat) with
    | .ok f => decide (wordL (y.take n.toNat) f = y)
    | .error _ => false
  else false
set_option maxRecDepth 100000 in
set_option maxHeartbeats 2000000 in
theorem WRight_any (sv : Value) (y : List UInt8) (n : Int) (w : World) (hT : Tab w) (hTB : TabB w) (hS : Sl eB w.heap.size w sv y) :
    Calls Tryd.prog 22 #[sv, .int .i64 n] w fun e w' => e = .returned (.bool (wRightB y n)) ∧ Below w.heap.size w w' := by
  by_cases hn : 2 ≤ n ∧ n ≤ 800
  · obtain ⟨k, rfl⟩ : ∃ k : Nat, n = k := ⟨n.toNat, by omega⟩
    have hlg : longN k ≤ 1000 := by
      have := tb_le k (by omega)
      have := wb_le k (by omega)
      unfold longN zb
      omega
    have hL := WLong_yes k (by omega) (by omega) hlg w
    by_cases hl : y.length = wlongN k
    · have hky : k ≤ y.length := by rw [hl]; unfold wlongN; omega
      have hdef : wRightB y k = match wfG (y.take k) with
        | .ok f => decide (wordL (y.take k) f = y)
        | .error _ => false := by
        unfold wRightB
        rw [if_pos ⟨hn.1, hn.2, hl⟩, Int.toNat_natCast]
      obtain ⟨A, c, rfl, hc, hcs⟩ := id hS
      have hup := hS.upto hky
      have b1 : ((y.length : Int) == (wlongN k : Int)) = true := by rw [hl]; simp
      have b2 : ((y.length : Int) != (wlongN k : Int)) = false := by rw [hl]; simp
      have b3 : (y.length == wlongN k) = true := by rw [hl]; simp
      have hkc : (k : Int) ≤ (c : Int) := by omega
      have hkc2 : k ≤ c := by omega
      have hM := fun w h1 h2 h3 => WMake_any (.slice A k c) (y.take k) w h1 h2 h3
      have Hd := Lib.hid hdef
      generalize wlongN k = L at *
      generalize hx : y.take k = x at *
      clear hx hdef hl hky hcs hc hlg hn
      go_enter Tryd.func22, Tryd.ntmps22
      go_wp2_with fail
      go_at_call 20
      refine hL.mono ?_
      rintro e w1 ⟨rfl, hB⟩
      have hT1 := hT.below hB
      have hTB1 := hTB.below hB
      have hup1 := hup.next hB
      have hS1 := hS.next hB
      clear hL
      go_wp2_with fail
      go_at_call 9
      refine (hM _ hT1 hTB1 hup1).mono ?_
      clear hM
      rintro e w2 ⟨hB2, ⟨f, v, hf, rfl, hv, -⟩ | ⟨m, hm, rfl⟩⟩
      · have hE := bEqual_any v (.slice A y.length c) (wordL x f) y w2.heap.size w2 hv (hS1.next hB2)
        obtain ⟨Av, cv, rfl⟩ := hv.len
        have hB3 := below_trans hB hB2
        have hd : wRightB y k = decide (wordL x f = y) := by rw [Hd.out, hf]
        have Hd2 := Lib.hid hd
        clear hd hv hS hS1 hT hTB hT1 hTB1 hup hup1 hf
        generalize decide (wordL x f = y) = r at *
        generalize (wordL x f).length = lw at *
        go_wp2_with fail
        go_at_call 46
        refine hE.mono ?_
        rintro e w' ⟨rfl, rfl⟩
        go_wp2_with fail
        go_ret
        exact ⟨by rw [Hd2.out]; rfl, hB3⟩
      · have hm0 : (m == 0) = false := by
          have := wfG_err hm
          rw [beq_eq_false_iff_ne]
          omega
        have hB3 := below_trans hB hB2
        have hd : wRightB y k = false := by rw [Hd.out, hm]
        have Hd2 := Lib.hid hd
        clear hd hm
        go_wp2_with fail
        go_ret
        exact ⟨by rw [Hd2.out]; rfl, hB3⟩
    · have hd := Lib.hid (show wRightB y k = false by
        unfold wRightB
        rw [if_neg (fun h => hl (by simpa using h.2.2))])
      have hli : ¬ (y.length : Int) = (wlongN k : Int) := by omega
      have b1 : ((y.length : Int) == (wlongN k : Int)) = false := by rw [beq_eq_false_iff_ne]; exact hli
      have b2 : ((y.length : Int) != (wlongN k : Int)) = true := by rw [bne_iff_ne]; exact hli
      have b3 : (y.length == wlongN k) = false := by simpa using hl
      obtain ⟨A, c, rfl⟩ := hS.len
      generalize wlongN k = L at *
      clear hn hlg
      go_enter Tryd.func22, Tryd.ntmps22
      go_wp2_with fail
      go_at_call 20
      refine hL.mono ?_
      rintro e w1 ⟨rfl, hB⟩
      go_wp2_with fail
      go_ret
      exact ⟨by rw [hd.out]; rfl, hB⟩
  · have hd := Lib.hid (show wRightB y n = false by
      unfold wRightB
      rw [if_neg (fun h => hn ⟨h.1, h.2.1⟩)])
    have hL := WLong_no n (by omega) w
    have b1 : ((y.length : Int) == -1) = false := by rw [beq_eq_false_iff_ne]; omega
    have b2 : ((y.length : Int) != -1) = true := by rw [bne_iff_ne]; omega
    obtain ⟨A, c, rfl⟩ := hS.len
    clear hn
    go_enter Tryd.func22, Tryd.ntmps22
    go_wp2_with fail
    go_at_call 20
    refine hL.mono ?_
    rintro e w1 ⟨rfl, rfl⟩
    go_wp2_with fail
    go_ret
    exact ⟨by rw [hd.out]; rfl, Below.refl _ _⟩
theorem wRight_len {y : List UInt8} {n : Int} (h : wRightB y n = true) : ∃ k : Nat, n = k ∧ 2 ≤ k ∧ k ≤ 800 ∧ k ≤ y.length ∧ y.length ≤ 10000 := by
  unfold wRightB at h
  split at h
  · rename_i h0
    obtain ⟨k, rfl⟩ : ∃ k : Nat, n = k := ⟨n.toNat, by omega⟩
    have hlg : longN k ≤ 1000 := by
      have := tb_le k (by omega)
      have := wb_le k (by omega)
      unfold longN zb
      omega
    rw [Int.toNat_natCast] at h0
    unfold wlongN at h0
    exact ⟨k, rfl, by omega, by omega, by omega, by omega⟩
  · cases h
set_option maxRecDepth 100000 in
set_option maxHeartbeats 2000000 in
theorem WInner_any (sv : Value) (y : List UInt8) (n : Int) (w : World) (hT : Tab w) (hTB : TabB w) (hS : Sl eB w.heap.size w sv y) :
    Calls Tryd.prog 15 #[sv, .int .i64 n] w fun e w' => Below w.heap.size w w' ∧
      ((∃ v, wRightB y n = true ∧ e = .returned (.tuple #[v, .int .i64 0]) ∧ Sl eB w'.heap.size w' v (y.take n.toNat)) ∨ (wRightB y n = false ∧ e = .returned (.tuple #[.slice none 0 0, .int .i64 130]))) := by
  have hR := WRight_any sv y n w hT hTB hS
  cases hr : wRightB y n with
  | true =>
    rw [hr] at hR
    obtain ⟨k, rfl, h2, h8, hky, hyl⟩ := wRight_len hr
    rw [Int.toNat_natCast]
    obtain ⟨A, c, rfl, hc, -⟩ := id hS
    have hup := hS.upto (show k ≤ y.length from hky)
    clear hS
    have hkc : (k : Int) ≤ (c : Int) := by omega
    have hkc2 : k ≤ c := by omega
    have hxl : (y.take k).length ≤ 140737488355328 := by rw [List.length_take]; omega
    generalize y.take k = x at *
    have hC := fun w h => BClone_any (.slice A k c) x hxl w h
    clear hxl hr h2 h8 hyl hky hc
    go_enter Tryd.func15, Tryd.ntmps15
    go_wp2_with fail
    go_at_call 22
    refine hR.mono ?_
    rintro e w1 ⟨rfl, hB⟩
    have hup1 := hup.next hB
    go_wp2_with fail
    go_at_call 41
    refine (hC _ hup1).mono ?_
    rintro e w2 ⟨v, rfl, hv, hB2⟩
    have hvs := hv.sl
    obtain ⟨Av, cv, rfl⟩ := hvs.len
    go_wp2_with fail
    go_ret2
    exact ⟨below_trans hB hB2, .inl ⟨_, trivial, rfl, hvs⟩⟩
  | false =>
    rw [hr] at hR
    obtain ⟨A, c, rfl⟩ := hS.len
    clear hr
    go_enter Tryd.func15, Tryd.ntmps15
    go_wp2_with fail
    go_at_call 22
    refine hR.mono ?_
    rintro e w1 ⟨rfl, hB⟩
    go_wp2_with fail
    go_ret2
    exact ⟨hB, .inr ⟨trivial, rfl⟩⟩
end Go.Proofs.YtnlndaknljbhcaaDoor
/- The law's own wakes, of word. -/
namespace Go.Proofs.YtnlndaknljbhcaaDoor
open Go.RowKit Go.Shelf
attribute [local go_sem] Oper.semAt_some run_store_func

theorem word_take (x f : List UInt8) : (wordL x f).take x.length = x := by
  unfold wordL
  rw [List.append_assoc, List.take_left']
  rfl
theorem right_word {x f : List UInt8} (h : wfG x = .ok f) : wRightB (wordL x f) x.length = true := by
  obtain ⟨h0, hl, -⟩ := wfG_ok h
  unfold wRightB
  rw [if_pos ⟨by omega, by omega, by rw [Int.toNat_natCast]; exact wordL_length x f hl⟩, Int.toNat_natCast, word_take, h]
  exact decide_eq_true rfl
theorem wstr_of {w : World} {sv : Value} {x : List UInt8} (h : Sl eB w.heap.size w sv x) : (convert 22 9 sv).run Tryd.prog w = .ok (.string ⟨x.toArray⟩) w :=
  run_str (P := Tryd.prog) h 22 9 5 Tryd.underlying22 Tryd.underlying5 Tryd.underlying9
theorem wk_sums : sumsG [65, 67, 71, 84] = .ok (2, 2, 20) := by kernel_rfl
theorem wk_none : wfG [65] = .error 2 := by kernel_rfl
theorem wk_lett : sumsG [65, 78] = .error 10 := by kernel_rfl
theorem wk_lett2 : wfG [65, 78] = .error 10 := by unfold wfG; rw [if_pos ⟨by decide, by decide⟩, wk_lett]
theorem wk_field : wfG [65, 67, 71, 84] = .ok (fldL [65, 67, 71, 84] 2 2 20) := by unfold wfG; rw [if_pos ⟨by decide, by decide⟩, wk_sums]
theorem wk_long4 : wlongN 4 = 35 := by kernel_rfl
theorem wk_long5 : wlongN 5 = 36 := by kernel_rfl
theorem wk_long2 : wlongN 2 = 27 := by kernel_rfl
theorem wk_junc : letterOf (jN 65 67 : Nat) = 71 ∧ letterOf (jN 67 71 : Nat) = 65 := ⟨by kernel_rfl, by kernel_rfl⟩
theorem wk_word : ∃ W0 : List UInt8, (∀ v w, Tab w → TabB w → Sl eB w.heap.size w v [65, 67, 71, 84] → Calls Tryd.prog 9 #[v] w fun e w' => Below w.heap.size w w' ∧ ∃ u, e = .returned (.tuple #[u, .int .i64 0]) ∧ Sl eB w'.heap.size w' u W0) ∧
    W0.length = 35 ∧ wRightB W0 4 = true ∧ wRightB W0 5 = false ∧ W0.take 4 = [65, 67, 71, 84] := by
  have hl : (wordL [65, 67, 71, 84] (fldL [65, 67, 71, 84] 2 2 20)).length = 35 := by rw [wordL_length _ _ (fldL_length _ _ _ _)]; exact wk_long4
  refine ⟨wordL [65, 67, 71, 84] (fldL [65, 67, 71, 84] 2 2 20), fun v w h1 h2 h3 => (WMake_any v _ w h1 h2 h3).mono ?_, hl, right_word (x := [65, 67, 71, 84]) wk_field, ?_, word_take [65, 67, 71, 84] _⟩
  · rintro e w' ⟨hB, ⟨f, u, hf, rfl, hu, -⟩ | ⟨m, hm, rfl⟩⟩
    · rw [wk_field] at hf
      cases hf
      exact ⟨hB, u, rfl, hu⟩
    · rw [wk_field] at hm; cases hm
  · unfold wRightB
    rw [if_neg]
    intro h
    have h3 := h.2.2
    rw [hl] at h3
    exact absurd h3 (by rw [show (5 : Int).toNat = 5 from rfl, wk_long5]; decide)
set_option maxRecDepth 100000 in
set_option maxHeartbeats 2000000 in
theorem wwakes_any (w : World) (hT : Tab w) (hTB : TabB w) : Calls Tryd.prog 8 #[] w fun e w' => e = .returned (.bool true) ∧ Below w.heap.size w w' := by
  obtain ⟨W0, f0, hl35, hr4, hr5, ht4⟩ := wk_word
  have f1 := fun v w h1 h2 h3 => WInner_any v W0 4 w h1 h2 h3
  rw [show (4 : Int).toNat = 4 from rfl, ht4, hr4] at f1
  have f2 : ∀ v w, Tab w → TabB w → Sl eB w.heap.size w v [65] → Calls Tryd.prog 9 #[v] w fun e w' => Below w.heap.size w w' ∧ e = .returned (.tuple #[.slice none 0 0, .int .i64 2]) := fun v w h1 h2 h3 => (WMake_any v _ w h1 h2 h3).mono (by
    rintro e w' ⟨hB, ⟨f, u, hf, rfl, hu, -⟩ | ⟨m, hm, rfl⟩⟩
    · rw [wk_none] at hf; cases hf
    · rw [wk_none] at hm; cases hm; exact ⟨hB, rfl⟩)
  have f3 : ∀ v w, Tab w → TabB w → Sl eB w.heap.size w v [65, 78] → Calls Tryd.prog 9 #[v] w fun e w' => Below w.heap.size w w' ∧ e = .returned (.tuple #[.slice none 0 0, .int .i64 10]) := fun v w h1 h2 h3 => (WMake_any v _ w h1 h2 h3).mono (by
    rintro e w' ⟨hB, ⟨f, u, hf, rfl, hu, -⟩ | ⟨m, hm, rfl⟩⟩
    · rw [wk_lett2] at hf; cases hf
    · rw [wk_lett2] at hm; cases hm; exact ⟨hB, rfl⟩)
  have hz2 : wRightB [65, 67, 71, 84] 2 = false := by
    unfold wRightB
    rw [if_neg]
    intro h
    have h3 := h.2.2
    exact absurd h3 (by rw [show (2 : Int).toNat = 2 from rfl, wk_long2]; decide)
  have f4 := fun v w h1 h2 h3 => WInner_any v [65, 67, 71, 84] 2 w h1 h2 h3
  rw [hz2] at f4
  have fj1 := fun w h => Junction_any 65 67 w h
  have fj2 := fun w h => Junction_any 67 71 w h
  rw [wk_junc.1] at fj1
  rw [wk_junc.2] at fj2
  have fl4 := fun w => WLong_yes 4 (by decide) (by decide) (by decide) w
  rw [wk_long4] at fl4
  have fr4 := fun v w h1 h2 h3 => WRight_any v W0 4 w h1 h2 h3
  have fr5 := fun v w h1 h2 h3 => WRight_any v W0 5 w h1 h2 h3
  rw [hr4] at fr4
  rw [hr5] at fr5
  have fl1 := fun w => WLong_no 1 (.inl (by decide)) w
  have h35 : ((W0.length : Int) == 35) = true := by rw [hl35]; rfl
  clear hl35 hr4 hr5 ht4 hz2
  have kc := fun (w : World) (C : Array Value) (n c : Nat) => Lib.run_convert_bytes_const (P := Tryd.prog) w 22 5 C n c Tryd.underlying22 Tryd.underlying5
  go_enter Tryd.func8, Tryd.ntmps8
  have hB0 := Below.refl w.heap.size w
  have hA := below_alloc w (.cells #[.int .u8 65, .int .u8 67, .int .u8 71, .int .u8 84] 5 (4, 5))
  have hq := Sl.new eB w [65, 67, 71, 84] #[eB 65, eB 67, eB 71, eB 84] 5 (4, 5) 4 4 rfl (Nat.le_refl _) rfl
  go_wp2_with fail
  go_at_call 9
  refine (f0 _ _ (hT.below hA) (hTB.below hA) hq).mono ?_
  rintro e w1 ⟨hC, u0, rfl, hu0⟩
  have hC := below_trans hA hC
  have hT := hT.below hC
  have hTB := hTB.below hC
  have hB0 := below_trans hB0 hC
  obtain ⟨A0, k0, rfl⟩ := hu0.len
  clear hC hA hq f0
  go_wp2_with fail
  go_at_call 15
  refine (f1 _ _ hT hTB hu0).mono ?_
  rintro e w2 ⟨hC, ⟨u1, -, rfl, hu1⟩ | ⟨h, -⟩⟩
  case inr => cases h
  have hu0 := hu0.next hC
  have hT := hT.below hC
  have hTB := hTB.below hC
  have hB0 := below_trans hB0 hC
  obtain ⟨A1, k1, rfl⟩ := hu1.len
  clear hC f1
  have hA := below_alloc w2 (.cells #[.int .u8 65] 5 (1, 2))
  have hq := Sl.new eB w2 [65] #[eB 65] 5 (1, 2) 1 1 rfl (Nat.le_refl _) rfl
  go_wp2_with fail
  go_at_call 9
  refine (f2 _ _ (hT.below hA) (hTB.below hA) hq).mono ?_
  rintro e w3 ⟨hC, rfl⟩
  have hC := below_trans hA hC
  have hT := hT.below hC
  have hTB := hTB.below hC
  have hu0 := hu0.next hC
  have hu1 := hu1.next hC
  have hB0 := below_trans hB0 hC
  clear hC hA hq f2
  have hA := below_alloc w3 (.cells #[.int .u8 65, .int .u8 78] 5 (2, 3))
  have hq := Sl.new eB w3 [65, 78] #[eB 65, eB 78] 5 (2, 3) 2 2 rfl (Nat.le_refl _) rfl
  go_wp2_with fail
  go_at_call 9
  refine (f3 _ _ (hT.below hA) (hTB.below hA) hq).mono ?_
  rintro e w4 ⟨hC, rfl⟩
  have hC := below_trans hA hC
  have hT := hT.below hC
  have hTB := hTB.below hC
  have hu0 := hu0.next hC
  have hu1 := hu1.next hC
  have hB0 := below_trans hB0 hC
  clear hC hA hq f3
  have hA := below_alloc w4 (.cells #[.int .u8 65, .int .u8 67, .int .u8 71, .int .u8 84] 5 (4, 5))
  have hq := Sl.new eB w4 [65, 67, 71, 84] #[eB 65, eB 67, eB 71, eB 84] 5 (4, 5) 4 4 rfl (Nat.le_refl _) rfl
  go_wp2_with fail
  go_at_call 15
  refine (f4 _ _ (hT.below hA) (hTB.below hA) hq).mono ?_
  rintro e w5 ⟨hC, ⟨u, h, -⟩ | ⟨-, rfl⟩⟩
  case inl => cases h
  have hC := below_trans hA hC
  have hT := hT.below hC
  have hTB := hTB.below hC
  have hu0 := hu0.next hC
  have hu1 := hu1.next hC
  have hB0 := below_trans hB0 hC
  clear hC hA hq f4 kc
  go_wp2_with fail
  go_at_call 18
  refine (fj1 _ hT).mono ?_
  rintro e w' ⟨rfl, rfl⟩
  go_wp2_with fail
  go_at_call 18
  refine (fj2 _ hT).mono ?_
  rintro e w' ⟨rfl, rfl⟩
  clear fj1 fj2
  go_wp2_with fail
  go_at_call 20
  refine (fl4 _).mono ?_
  rintro e w6 ⟨rfl, hC⟩
  have hT := hT.below hC
  have hTB := hTB.below hC
  have hu0 := hu0.next hC
  have hu1 := hu1.next hC
  have hB0 := below_trans hB0 hC
  have gs : (convert 22 9 (.slice A1 4 k1)).run Tryd.prog w6 = .ok (.string ⟨#[65, 67, 71, 84]⟩) w6 := wstr_of hu1
  clear hC fl4 hu1
  go_wp2_with fail
  go_at_call 22
  refine (fr4 _ _ hT hTB hu0).mono ?_
  rintro e w7 ⟨rfl, hC⟩
  have hT := hT.below hC
  have hTB := hTB.below hC
  have hu0 := hu0.next hC
  have hB0 := below_trans hB0 hC
  clear hC fr4 gs
  go_wp2_with fail
  go_at_call 22
  refine (fr5 _ _ hT hTB hu0).mono ?_
  rintro e w8 ⟨rfl, hC⟩
  have hB0 := below_trans hB0 hC
  clear hC fr5 hu0
  go_wp2_with fail
  go_at_call 20
  refine (fl1 _).mono ?_
  rintro e w' ⟨rfl, rfl⟩
  go_wp2_with fail
  go_ret
  exact ⟨rfl, hB0⟩
end Go.Proofs.YtnlndaknljbhcaaDoor
