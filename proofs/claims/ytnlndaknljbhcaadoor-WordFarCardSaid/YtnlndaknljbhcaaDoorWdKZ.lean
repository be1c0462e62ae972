/- Contracts of word.Right and word.Inner, bytes.Equal, bytes.Clone and the law's same. -/
import Derived.Test.YtnlndaknljbhcaaDoorClBZ
import Derived.Test.YtnlndaknljbhcaaDoorWdJZ
namespace Go.Proofs.YtnlndaknljbhcaaDoor
open Go.RowKit Go.Shelf
attribute [local go_sem] Oper.semAt_some run_store_func

theorem same_any (sa sb : Value) (a b : List UInt8) (B : Nat) (w : World) (ha : Sl eB B w sa a) (hb : Sl eB B w sb b) :
    Calls Tryd.prog 17 #[sa, sb] w fun e w' => e = .returned (.bool (decide (a = b))) ∧ w = w' := by
  have ra := run_str (P := Tryd.prog) ha 22 9 5 Tryd.underlying22 Tryd.underlying5 Tryd.underlying9
  have rb := run_str (P := Tryd.prog) hb 22 9 5 Tryd.underlying22 Tryd.underlying5 Tryd.underlying9
  obtain ⟨Aa, ca, rfl⟩ := ha.len
  obtain ⟨Ab, cb, rfl⟩ := hb.len
  clear ha hb
  go_enter Tryd.func17, Tryd.ntmps17
  go_wp2
  go_ret
  exact ⟨by rw [← beq_dec]; rfl, rfl⟩
theorem bEqual_any (sa sb : Value) (a b : List UInt8) (B : Nat) (w : World) (ha : Sl eB B w sa a) (hb : Sl eB B w sb b) :
    Calls Tryd.prog 46 #[sa, sb] w fun e w' => e = .returned (.bool (decide (a = b))) ∧ w = w' := by
  have ra := run_str (P := Tryd.prog) ha 22 9 5 Tryd.underlying22 Tryd.underlying5 Tryd.underlying9
  have rb := run_str (P := Tryd.prog) hb 22 9 5 Tryd.underlying22 Tryd.underlying5 Tryd.underlying9
  obtain ⟨Aa, ca, rfl⟩ := ha.len
  obtain ⟨Ab, cb, rfl⟩ := hb.len
  clear ha hb
  go_enter Tryd.func46, Tryd.ntmps46
  go_wp2
  go_ret
  exact ⟨by rw [← beq_dec]; rfl, rfl⟩
set_option maxRecDepth 100000 in
set_option maxHeartbeats 400000 in
theorem BClone_any (sv : Value) (a : List UInt8) (hreach : a.length ≤ 140737488355328) (w : World) (ha : Sl eB w.heap.size w sv a) :
    Calls Tryd.prog 41 #[sv] w fun e w' => ∃ v, e = .returned v ∧ Own8 w.heap.size w' v a ∧ Below w.heap.size w w' := by
  obtain ⟨i0, hi, hz0, hz1, hz2⟩ := info_parts info_u8
  have hrow := row_made w
  have hB1 : Below w.heap.size w (w.alloc (.cells #[] 5)) := (Below.refl _ _).alloc (Nat.le_refl _) _
  obtain ⟨A, c, rfl⟩ := ha.len
  cases A with
  | none =>
    have hx : a = [] := by
      obtain ⟨A, c', e, _, hcells⟩ := ha
      cases e
      cases a with
      | nil => rfl
      | cons x xs => obtain ⟨_, _, h, _⟩ := hcells (by simp); cases h
    subst hx
    have hq : ∀ w, (binOp .eql 22 (.slice none 0 c) (.slice none 0 0)).run Tryd.prog w = .ok (.bool true) w := fun w => Lib.run_eql_slice_nil w 22 5 none 0 c 0 0 Tryd.underlying22
    go_enter Tryd.func41, Tryd.ntmps41
    go_wp2
    go_ret
    exact ⟨_, rfl, ⟨rfl, .inl ⟨rfl, rfl⟩⟩, Below.refl _ _⟩
  | some ad =>
    have hq : ∀ w, (binOp .eql 22 (.slice (some ad) a.length c) (.slice none 0 0)).run Tryd.prog w = .ok (.bool false) w := fun w => Lib.run_eql_slice_nil w 22 5 (some ad) a.length c 0 0 Tryd.underlying22
    go_enter Tryd.func41, Tryd.ntmps41
    go_wp2_with
      (at_builtin
       refine wpList_append_sl _ rfl (.tmp 5) (.tmp 6) _ rfl w.heap.size 5 i0 (.int .u8 0) 1 Tryd.underlying22 hi hz0 hz1 hz2 rfl _ 0 [] hrow rfl w.heap.size (.slice (some ad) a.length c) a (ha.below hB1) rfl (fun _ => rfl) (by unfold maxLen; omega) (by omega) (by simp) ?_
       intro v1 w1 hown1 hg1 hat1
       have hB2 : Below w.heap.size w w1 := hB1.trans (below_grown hrow hg1 (by simp) (Nat.le_refl _)))
    go_ret
    exact ⟨v1, rfl, by simpa [Own8] using hown1, hB2⟩
/-- Whether y is a word of n letters. -/
def wRightB (y : List UInt8) (n : Int) : Bool :=
  if 2 ≤ n ∧ n ≤ 800 ∧ y.length = wlongN n.toNat then match wfG (y.take n.toNat) with
    | .ok f => decide (wordL (y.take n.toNat) f = y)
    | .error _ => false
  else false
set_option maxRecDepth 100000 in
set_option maxHeartbeats 2000000 in
theorem WRight_any (sv : Value) (y : List UInt8) (n : Int) (w : World) (hT : Tab w) (hTB : TabB w) (hS : Sl eB w.heap.size w sv y) :
    Calls Tryd.prog 22 #[sv, .int .i64 n] w fun e w' => e = .returned (.bool (wRightB y n)) ∧ Below w.heap.size w w' := by
  by_cases hn : 2 ≤ n ∧ n ≤ 800
  · obtain ⟨k, rfl⟩ : ∃ k : Nat, n = k := ⟨n.toNat, by omega⟩
    have hlg : longN k ≤ 1000 := by
      have := tb_le k (by omega)
      have := wb_le k (by omega)
      unfold longN zb
      omega
    have hL := WLong_yes k (by omega) (by omega) hlg w
    by_cases hl : y.length = wlongN k
    · have hky : k ≤ y.length := by rw [hl]; unfold wlongN; omega
      have hdef : wRightB y k = match wfG (y.take k) with
        | .ok f => decide (wordL (y.take k) f = y)
        | .error _ => false := by
        unfold wRightB
        rw [if_pos ⟨hn.1, hn.2, hl⟩, Int.toNat_natCast]
      obtain ⟨A, c, rfl, hc, hcs⟩ := id hS
      have hup := hS.upto hky
      have b1 : ((y.length : Int) == (wlongN k : Int)) = true := by rw [hl]; simp
      have b2 : ((y.length : Int) != (wlongN k : Int)) = false := by rw [hl]; simp
      have b3 : (y.length == wlongN k) = true := by rw [hl]; simp
      have hkc : (k : Int) ≤ (c : Int) := by omega
      have hkc2 : k ≤ c := by omega
      have hM := fun w h1 h2 h3 => WMake_any (.slice A k c) (y.take k) w h1 h2 h3
      have Hd := Lib.hid hdef
      generalize wlongN k = L at *
      generalize hx : y.take k = x at *
      clear hx hdef hl hky hcs hc hlg hn
      go_enter Tryd.func22, Tryd.ntmps22
      go_wp2_with fail
      go_at_call 20
      refine hL.mono ?_
      rintro e w1 ⟨rfl, hB⟩
      have hT1 := hT.below hB
      have hTB1 := hTB.below hB
      have hup1 := hup.next hB
      have hS1 := hS.next hB
      clear hL
      go_wp2_with fail
      go_at_call 9
      refine (hM _ hT1 hTB1 hup1).mono ?_
      clear hM
      rintro e w2 ⟨hB2, ⟨f, v, hf, rfl, hv, -⟩ | ⟨m, hm, rfl⟩⟩
      · have hE := bEqual_any v (.slice A y.length c) (wordL x f) y w2.heap.size w2 hv (hS1.next hB2)
        obtain ⟨Av, cv, rfl⟩ := hv.len
        have hB3 := below_trans hB hB2
        have hd : wRightB y k = decide (wordL x f = y) := by rw [Hd.out, hf]
        have Hd2 := Lib.hid hd
        clear hd hv hS hS1 hT hTB hT1 hTB1 hup hup1 hf
        generalize decide (wordL x f = y) = r at *
        generalize (wordL x f).length = lw at *
        go_wp2_with fail
        go_at_call 46
        refine hE.mono ?_
        rintro e w' ⟨rfl, rfl⟩
        go_wp2_with fail
        go_ret
        exact ⟨by rw [Hd2.out]; rfl, hB3⟩
      · have hm0 : (m == 0) = false := by
          have := wfG_err hm
          rw [beq_eq_false_iff_ne]
          omega
        have hB3 := below_trans hB hB2
        have hd : wRightB y k = false := by rw [Hd.out, hm]
        have Hd2 := Lib.hid hd
        clear hd hm
        go_wp2_with fail
        go_ret
        exact ⟨by rw [Hd2.out]; rfl, hB3⟩
    · have hd := Lib.hid (show wRightB y k = false by
        unfold wRightB
        rw [if_neg (fun h => hl (by simpa using h.2.2))])
      have hli : ¬ (y.length : Int) = (wlongN k : Int) := by omega
      have b1 : ((y.length : Int) == (wlongN k : Int)) = false := by rw [beq_eq_false_iff_ne]; exact hli
      have b2 : ((y.length : Int) != (wlongN k : Int)) = true := by rw [bne_iff_ne]; exact hli
      have b3 : (y.length == wlongN k) = false := by simpa using hl
      obtain ⟨A, c, rfl⟩ := hS.len
      generalize wlongN k = L at *
      clear hn hlg
      go_enter Tryd.func22, Tryd.ntmps22
      go_wp2_with fail
      go_at_call 20
      refine hL.mono ?_
      rintro e w1 ⟨rfl, hB⟩
      go_wp2_with fail
      go_ret
      exact ⟨by rw [hd.out]; rfl, hB⟩
  · have hd := Lib.hid (show wRightB y n = false by
      unfold wRightB
      rw [if_neg (fun h => hn ⟨h.1, h.2.1⟩)])
    have hL := WLong_no n (by omega) w
    have b1 : ((y.length : Int) == -1) = false := by rw [beq_eq_false_iff_ne]; omega
    have b2 : ((y.length : Int) != -1) = true := by rw [bne_iff_ne]; omega
    obtain ⟨A, c, rfl⟩ := hS.len
    clear hn
    go_enter Tryd.func22, Tryd.ntmps22
    go_wp2_with fail
    go_at_call 20
    refine hL.mono ?_
    rintro e w1 ⟨rfl, rfl⟩
    go_wp2_with fail
    go_ret
    exact ⟨by rw [hd.out]; rfl, Below.refl _ _⟩
theorem wRight_len {y : List UInt8} {n : Int} (h : wRightB y n = true) : ∃ k : Nat, n = k ∧ 2 ≤ k ∧ k ≤ 800 ∧ k ≤ y.length ∧ y.length ≤ 10000 := by
  unfold wRightB at h
  split at h
  · rename_i h0
    obtain ⟨k, rfl⟩ : ∃ k : Nat, n = k := ⟨n.toNat, by omega⟩
    have hlg : longN k ≤ 1000 := by
      have := tb_le k (by omega)
      have := wb_le k (by omega)
      unfold longN zb
      omega
    rw [Int.toNat_natCast] at h0
    unfold wlongN at h0
    exact ⟨k, rfl, by omega, by omega, by omega, by omega⟩
  · cases h
set_option maxRecDepth 100000 in
set_option maxHeartbeats 2000000 in
theorem WInner_any (sv : Value) (y : List UInt8) (n : Int) (w : World) (hT : Tab w) (hTB : TabB w) (hS : Sl eB w.heap.size w sv y) :
    Calls Tryd.prog 15 #[sv, .int .i64 n] w fun e w' => Below w.heap.size w w' ∧
      ((∃ v, wRightB y n = true ∧ e = .returned (.tuple #[v, .int .i64 0]) ∧ Sl eB w'.heap.size w' v (y.take n.toNat)) ∨ (wRightB y n = false ∧ e = .returned (.tuple #[.slice none 0 0, .int .i64 130]))) := by
  have hR := WRight_any sv y n w hT hTB hS
  cases hr : wRightB y n with
  | true =>
    rw [hr] at hR
    obtain ⟨k, rfl, h2, h8, hky, hyl⟩ := wRight_len hr
    rw [Int.toNat_natCast]
    obtain ⟨A, c, rfl, hc, -⟩ := id hS
    have hup := hS.upto (show k ≤ y.length from hky)
    clear hS
    have hkc : (k : Int) ≤ (c : Int) := by omega
    have hkc2 : k ≤ c := by omega
    have hxl : (y.take k).length ≤ 140737488355328 := by rw [List.length_take]; omega
    generalize y.take k = x at *
    have hC := fun w h => BClone_any (.slice A k c) x hxl w h
    clear hxl hr h2 h8 hyl hky hc
    go_enter Tryd.func15, Tryd.ntmps15
    go_wp2_with fail
    go_at_call 22
    refine hR.mono ?_
    rintro e w1 ⟨rfl, hB⟩
    have hup1 := hup.next hB
    go_wp2_with fail
    go_at_call 41
    refine (hC _ hup1).mono ?_
    rintro e w2 ⟨v, rfl, hv, hB2⟩
    have hvs := hv.sl
    obtain ⟨Av, cv, rfl⟩ := hvs.len
    go_wp2_with fail
    go_ret2
    exact ⟨below_trans hB hB2, .inl ⟨_, trivial, rfl, hvs⟩⟩
  | false =>
    rw [hr] at hR
    obtain ⟨A, c, rfl⟩ := hS.len
    clear hr
    go_enter Tryd.func15, Tryd.ntmps15
    go_wp2_with fail
    go_at_call 22
    refine hR.mono ?_
    rintro e w1 ⟨rfl, hB⟩
    go_wp2_with fail
    go_ret2
    exact ⟨hB, .inr ⟨trivial, rfl⟩⟩
end Go.Proofs.YtnlndaknljbhcaaDoor
