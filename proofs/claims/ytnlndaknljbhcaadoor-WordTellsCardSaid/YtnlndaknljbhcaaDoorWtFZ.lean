/- Contracts of helixref16.Make, Told, Right, Inner. -/
import Derived.Test.YtnlndaknljbhcaaDoorWtCZ
namespace Go.Proofs.YtnlndaknljbhcaaDoor
open Go.RowKit Go.Shelf
attribute [local go_sem] Oper.semAt_some run_store_func

set_option maxRecDepth 100000 in
set_option maxHeartbeats 2000000 in
theorem WRMake_no (sv : Value) (x : List UInt8) (m : Int) (hm : wfG x = .error m) (w : World) (hS : Sl eB w.heap.size w sv x) :
    Calls Tryd.prog 10 #[sv] w fun e w' => Below w.heap.size w w' ∧ e = .returned (.tuple #[.slice none 0 0, .int .i64 m]) := by
  have hF := WRField_any sv x w hS
  have hm0 : (m != 0) = true := by rw [bne_iff_ne]; have := wfG_err hm; omega
  obtain ⟨A, c, rfl⟩ := hS.len
  have Hm := Lib.hid hm
  clear hm
  go_enter Tryd.func10, Tryd.ntmps10
  go_wp2_with fail
  go_at_call 12
  refine hF.mono ?_
  rintro e w1 ⟨hB, ⟨f, v, hf, rfl, hv⟩ | ⟨k, hk, rfl⟩⟩
  · rw [Hm.out] at hf; cases hf
  · rw [Hm.out] at hk
    cases hk
    go_wp2_with fail
    go_ret2
    exact ⟨hB, rfl⟩
theorem WRMake_any (sv : Value) (x : List UInt8) (w : World) (hS : Sl eB w.heap.size w sv x) :
    Calls Tryd.prog 10 #[sv] w fun e w' => Below w.heap.size w w' ∧
      ((∃ f v, wfG x = .ok f ∧ e = .returned (.tuple #[v, .int .i64 0]) ∧ Sl eB w'.heap.size w' v (wordL x f)) ∨ ∃ m, wfG x = .error m ∧ e = .returned (.tuple #[.slice none 0 0, .int .i64 m])) := by
  cases h : wfG x with
  | ok f =>
    refine (WRMake_ok sv x f h w hS).mono ?_
    rintro e w' ⟨hB, v, rfl, hv⟩
    exact ⟨hB, .inl ⟨f, v, rfl, rfl, hv⟩⟩
  | error m =>
    refine (WRMake_no sv x m h w hS).mono ?_
    rintro e w' ⟨hB, rfl⟩
    exact ⟨hB, .inr ⟨m, rfl, rfl⟩⟩
set_option maxRecDepth 100000 in
set_option maxHeartbeats 2000000 in
theorem WRTold_any (sv : Value) (x : List UInt8) (n : Int) (hreach : x.length ≤ 100000) (w : World) (hS : Sl eB w.heap.size w sv x) :
    Calls Tryd.prog 14 #[sv, .int .i64 n] w fun e w' => Below w.heap.size w w' ∧
      ((∃ a b c : Nat, ToldOk x n (a, b, c) ∧ e = .returned (.tuple #[v3 a b c, .int .i64 0])) ∨ ((¬ ∃ s, ToldOk x n s) ∧ e = .returned (.tuple #[v3 0 0 0, .int .i64 130]))) := by
  obtain ⟨hz, hsz⟩ := zero_of_info infoS
  have hc0 : (v3 0 0 0).cells = #[.int .i64 0, .int .i64 0, .int .i64 0] := rfl
  have hA0 := below_alloc w (.cells (c3 0 0 0) 28)
  have hr0 := Rowed.new w 28 (c3 0 0 0)
  have hB := fun w h => RBack_any sv x hreach w h
  obtain ⟨A, c, rfl⟩ := hS.len
  have hS0 := hS.next hA0
  have hbd : ∀ w, (Instr.build 28 #[]).run Tryd.prog w = .ok (v3 0 0 0) w := fun _ => by kernel_rfl
  clear hS hreach
  go_enter Tryd.func14, Tryd.ntmps14
  go_wp2_with fail
  generalize w.alloc (.cells (c3 0 0 0) 28) = w0 at *
  have hlt0 := hr0.lt
  go_at_call 39
  refine (hB _ hS0).mono ?_
  clear hB
  rintro e w1 ⟨hB1, ⟨v, rfl, hall, hv⟩ | ⟨rfl, hno⟩⟩
  · obtain ⟨bs, hbs⟩ : ∃ bs, x.zipIdx.map bitB = bs := ⟨_, rfl⟩
    rw [hbs] at hv
    have Hbs := Lib.hid hbs
    have Hall := Lib.hid hall
    have hU := rUnpack_any v bs n w1 hv
    obtain ⟨Av, cv, rfl⟩ := hv.len
    have hr1 : Rowed w1 w.heap.size 28 (c3 0 0 0) := (hB1.block _ hlt0).trans hr0
    have hBw := below_trans hA0 hB1
    clear hbs hall hr0 hA0 hB1 hS0
    by_cases hn : 2 ≤ n ∧ n ≤ 800
    · obtain ⟨k, rfl⟩ : ∃ k : Nat, n = k := ⟨n.toNat, by omega⟩
      have hL := fun w => WRLong_yes k (by omega) (by omega) w
      have hng := neg_len (wlongN k)
      have Hn := Lib.hid hn
      generalize wlongN k = L at *
      clear hn
      go_wp2_with fail
      go_at_call 21
      refine (hL _).mono ?_
      rintro e w' ⟨rfl, rfl⟩
      go_wp2_with fail
      go_at_call 40
      refine hU.mono ?_
      clear hU
      rintro e w2 ⟨hB2, ⟨a, b, d, hg, rfl⟩ | ⟨hg, rfl⟩⟩
      · have hr2 : Rowed w2 w.heap.size 28 (c3 0 0 0) := (hB2.block _ hr1.lt).trans hr1
        have hr2a := hr2.alloc (.cells (c3 a b d) 28)
        have hA2 := below_alloc w2 (.cells (c3 a b d) 28)
        have hr7 := Rowed.new w2 28 (c3 a b d)
        have hBx3 := below_trans (below_trans hBw hB2) hA2
        have Hg := Lib.hid hg
        clear hg hr2 hr1
        go_upto_region 5 with fail
        generalize w2.alloc (.cells (c3 a b d) 28) = w3 at *
        generalize w2.heap.size = g7 at *
        have hrow := setRow_heap w3 w.heap.size (c3 0 0 0) (c3 a b d) _ _ hr2a
        have hBe := below_setRow hBx3 w.heap.size (c3 a b d) (Nat.le_refl _)
        go_wp2_with (first
          | (refine wpList_load_row rfl 28 (.tmp 8) rfl g7 rfl _ (c3 a b d) _ _ hr7 Tryd.underlying28 rfl (size_c3 a b d) ?_)
          | (refine wpList_store_row rfl 28 (.tmp 4) (.tmp 31) rfl w.heap.size (c3 a b d) rfl rfl _ _ hr2a (size_c3 a b d) rfl (one_c3 a b d) ?_))
        refine bodyPost_ret (v := .tuple #[v3 a b d, .int .i64 0]) ?_ rfl ⟨hBe, .inl ⟨a, b, d, ⟨Hn.out, Hall.out, by rw [Hbs.out]; exact Hg.out⟩, rfl⟩⟩
        exact results_cell_slot (p := 4) (q := 5) rfl _ _ w.heap.size _ _ _ _ rfl hrow Tryd.underlying28 rfl (size_c3 a b d)
      · have hr2 : Rowed w2 w.heap.size 28 (c3 0 0 0) := (hB2.block _ hr1.lt).trans hr1
        have hr2a := hr2.alloc (.cells (c3 0 0 0) 28)
        have hA2 := below_alloc w2 (.cells (c3 0 0 0) 28)
        have hBx3 := below_trans (below_trans hBw hB2) hA2
        have Hg := Lib.hid hg
        clear hg hr2 hr1
        go_upto_region 5 with fail
        generalize w2.alloc (.cells (c3 0 0 0) 28) = w3 at *
        generalize w2.heap.size = g7 at *
        have hrow := setRow_heap w3 w.heap.size (c3 0 0 0) (c3 0 0 0) _ _ hr2a
        have hBe := below_setRow hBx3 w.heap.size (c3 0 0 0) (Nat.le_refl _)
        go_wp2_with (first
          | (refine wpList_store_row rfl 28 (.tmp 4) (.tmp 30) rfl w.heap.size (c3 0 0 0) rfl rfl _ _ hr2a (size_c3 0 0 0) rfl (one_c3 0 0 0) ?_))
        refine bodyPost_ret (v := .tuple #[v3 0 0 0, .int .i64 130]) ?_ rfl ⟨hBe, .inr ⟨(fun ⟨s, h⟩ => by have e := h.2.2; rw [Hbs.out, Hg.out] at e; cases e), rfl⟩⟩
        exact results_cell_slot (p := 4) (q := 5) rfl _ _ w.heap.size _ _ _ _ rfl hrow Tryd.underlying28 rfl (size_c3 0 0 0)
    · have hL := fun w => WRLong_no n (by omega) w
      have Hn := Lib.hid hn
      have hrow := setRow_heap w1 w.heap.size (c3 0 0 0) (c3 0 0 0) _ _ hr1
      have hBe := below_setRow hBw w.heap.size (c3 0 0 0) (Nat.le_refl _)
      clear hn hU
      go_wp2_with fail
      go_at_call 21
      refine (hL _).mono ?_
      rintro e w' ⟨rfl, rfl⟩
      go_wp2_with (first
        | (refine wpList_store_row rfl 28 (.tmp 4) (.tmp 21) rfl w.heap.size (c3 0 0 0) rfl rfl _ _ hr1 (size_c3 0 0 0) rfl (one_c3 0 0 0) ?_))
      refine bodyPost_ret (v := .tuple #[v3 0 0 0, .int .i64 130]) ?_ rfl ⟨hBe, .inr ⟨(fun ⟨s, h⟩ => Hn.out h.1), rfl⟩⟩
      exact results_cell_slot (p := 4) (q := 5) rfl _ _ w.heap.size _ _ _ _ rfl hrow Tryd.underlying28 rfl (size_c3 0 0 0)
  · have Hno := Lib.hid hno
    have hr1 : Rowed w1 w.heap.size 28 (c3 0 0 0) := (hB1.block _ hlt0).trans hr0
    have hrow := setRow_heap w1 w.heap.size (c3 0 0 0) (c3 0 0 0) _ _ hr1
    have hBe := below_setRow (below_trans hA0 hB1) w.heap.size (c3 0 0 0) (Nat.le_refl _)
    clear hno hr0 hA0 hB1 hS0
    go_wp2_with (first
      | (refine wpList_store_row rfl 28 (.tmp 4) (.tmp 21) rfl w.heap.size (c3 0 0 0) rfl rfl _ _ hr1 (size_c3 0 0 0) rfl (one_c3 0 0 0) ?_))
    refine bodyPost_ret (v := .tuple #[v3 0 0 0, .int .i64 130]) ?_ rfl ⟨hBe, .inr ⟨(fun ⟨s, h⟩ => Hno.out h.2.1), rfl⟩⟩
    exact results_cell_slot (p := 4) (q := 5) rfl _ _ w.heap.size _ _ _ _ rfl hrow Tryd.underlying28 rfl (size_c3 0 0 0)
end Go.Proofs.YtnlndaknljbhcaaDoor
/- Contracts of helixref16.Right, Inner. -/
namespace Go.Proofs.YtnlndaknljbhcaaDoor
open Go.RowKit Go.Shelf
attribute [local go_sem] Oper.semAt_some run_store_func

set_option maxRecDepth 100000 in
set_option maxHeartbeats 2000000 in
theorem WRRight_any (sv : Value) (y : List UInt8) (n : Int) (w : World) (hS : Sl eB w.heap.size w sv y) :
    Calls Tryd.prog 23 #[sv, .int .i64 n] w fun e w' => e = .returned (.bool (wRightB y n)) ∧ Below w.heap.size w w' := by
  by_cases hn : 2 ≤ n ∧ n ≤ 800
  · obtain ⟨k, rfl⟩ : ∃ k : Nat, n = k := ⟨n.toNat, by omega⟩
    have hL := fun w => WRLong_yes k (by omega) (by omega) w
    have hng := neg_len (wlongN k)
    by_cases hl : y.length = wlongN k
    · have hky : k ≤ y.length := by rw [hl]; unfold wlongN; omega
      have hdef : wRightB y k = match wfG (y.take k) with
        | .ok f => decide (wordL (y.take k) f = y)
        | .error _ => false := by
        unfold wRightB
        rw [if_pos ⟨hn.1, hn.2, hl⟩, Int.toNat_natCast]
        rfl
      obtain ⟨A, c, rfl, hc, hcs⟩ := id hS
      have hup := hS.upto hky
      have b1 : ((y.length : Int) == (wlongN k : Int)) = true := by rw [hl]; simp
      have b2 : ((y.length : Int) != (wlongN k : Int)) = false := by rw [hl]; simp
      have b3 : (y.length == wlongN k) = true := by rw [hl]; simp
      have hkc : (k : Int) ≤ (c : Int) := by omega
      have hkc2 : k ≤ c := by omega
      have hM := fun w h3 => WRMake_any (.slice A k c) (y.take k) w h3
      have Hd := Lib.hid hdef
      generalize wlongN k = L at *
      generalize hx : y.take k = x at *
      clear hx hdef hl hky hcs hc hn
      go_enter Tryd.func23, Tryd.ntmps23
      go_wp2_with fail
      go_at_call 21
      refine (hL _).mono ?_
      rintro e w' ⟨rfl, rfl⟩
      go_wp2_with fail
      go_at_call 21
      refine (hL _).mono ?_
      rintro e w' ⟨rfl, rfl⟩
      clear hL
      go_wp2_with fail
      go_at_call 10
      refine (hM _ hup).mono ?_
      clear hM
      rintro e w2 ⟨hB2, ⟨f, v, hf, rfl, hv⟩ | ⟨m, hm, rfl⟩⟩
      · have e1 := wstr_of hv
        have e2 := wstr_of (hS.next hB2)
        have e3 : ((⟨(wordL x f).toArray⟩ : ByteArray) == ⟨y.toArray⟩) = decide (wordL x f = y) := str_eq _ _
        obtain ⟨Av, cv, rfl⟩ := hv.len
        have hd : wRightB y k = (wordL x f == y) := by rw [Hd.out, hf, beq_dec]
        have Hd2 := Lib.hid hd
        clear hd hv hS hup hf e3
        generalize (wordL x f).length = lw at *
        generalize wordL x f = W at *
        go_wp2_with fail
        go_ret
        exact ⟨by rw [Hd2.out]; rfl, hB2⟩
      · have hm0 : (m == 0) = false := by
          have := wfG_err hm
          rw [beq_eq_false_iff_ne]
          omega
        have hd : wRightB y k = false := by rw [Hd.out, hm]
        have Hd2 := Lib.hid hd
        clear hd hm
        go_wp2_with fail
        go_ret
        exact ⟨by rw [Hd2.out]; rfl, hB2⟩
    · have hd := Lib.hid (show wRightB y k = false by
        unfold wRightB
        rw [if_neg (fun h => hl (by simpa using h.2.2))])
      have hli : ¬ (y.length : Int) = (wlongN k : Int) := by omega
      have b1 : ((y.length : Int) == (wlongN k : Int)) = false := by rw [beq_eq_false_iff_ne]; exact hli
      have b2 : ((y.length : Int) != (wlongN k : Int)) = true := by rw [bne_iff_ne]; exact hli
      have b3 : (y.length == wlongN k) = false := by simpa using hl
      obtain ⟨A, c, rfl⟩ := hS.len
      generalize wlongN k = L at *
      clear hn hl hli
      go_enter Tryd.func23, Tryd.ntmps23
      go_wp2_with fail
      go_at_call 21
      refine (hL _).mono ?_
      rintro e w' ⟨rfl, rfl⟩
      go_wp2_with fail
      go_at_call 21
      refine (hL _).mono ?_
      rintro e w' ⟨rfl, rfl⟩
      go_wp2_with fail
      go_ret
      exact ⟨by rw [hd.out]; rfl, Below.refl _ _⟩
  · have hd := Lib.hid (show wRightB y n = false by
      unfold wRightB
      rw [if_neg (fun h => hn ⟨h.1, h.2.1⟩)])
    have hL := fun w => WRLong_no n (by omega) w
    obtain ⟨A, c, rfl⟩ := hS.len
    clear hn
    go_enter Tryd.func23, Tryd.ntmps23
    go_wp2_with fail
    go_at_call 21
    refine (hL _).mono ?_
    rintro e w1 ⟨rfl, rfl⟩
    go_wp2_with fail
    go_ret
    exact ⟨by rw [hd.out]; rfl, Below.refl _ _⟩
set_option maxRecDepth 100000 in
set_option maxHeartbeats 2000000 in
theorem WRInner_any (sv : Value) (y : List UInt8) (n : Int) (w : World) (hS : Sl eB w.heap.size w sv y) :
    Calls Tryd.prog 16 #[sv, .int .i64 n] w fun e w' => Below w.heap.size w w' ∧
      ((∃ v, wRightB y n = true ∧ e = .returned (.tuple #[v, .int .i64 0]) ∧ Sl eB w'.heap.size w' v (y.take n.toNat)) ∨ (wRightB y n = false ∧ e = .returned (.tuple #[.slice none 0 0, .int .i64 130]))) := by
  have hR := WRRight_any sv y n w hS
  obtain ⟨i0, hi, hz0, hz1, hz2⟩ := info_parts info_u8
  cases hr : wRightB y n with
  | true =>
    rw [hr] at hR
    obtain ⟨k, rfl, h2, h8, hky, hyl⟩ := wRight_len hr
    rw [Int.toNat_natCast]
    obtain ⟨A, c, rfl, hc, -⟩ := id hS
    have hup := hS.upto (show k ≤ y.length from hky)
    have hkc : (k : Int) ≤ (c : Int) := by omega
    have hkc2 : k ≤ c := by omega
    have hxl : (y.take k).length = k := by rw [List.length_take]; omega
    have Hx := Lib.hid hxl
    have q1 : 0 + (y.take k).length ≤ maxLen := by unfold maxLen; omega
    have q2 : (0 + (y.take k).length) * 1 ≤ 140737488355328 := by omega
    generalize y.take k = x at *
    clear hxl hr h2 h8 hyl hky hc hS
    go_enter Tryd.func16, Tryd.ntmps16
    go_wp2_with fail
    go_at_call 23
    refine hR.mono ?_
    rintro e w1 ⟨rfl, hB⟩
    have hup1 := hup.next hB
    have hrow := row_made w1
    have hA1 := below_alloc w1 (.cells #[] 5)
    have hup2 := hup1.below hA1
    clear hR
    go_wp2_with
      (at_builtin
       refine wpList_append_sl _ rfl (.tmp 10) (.tmp 13) _ rfl w1.heap.size 5 i0 (.int .u8 0) 1 Tryd.underlying22 hi hz0 hz1 hz2 rfl _ 0 [] hrow rfl w1.heap.size _ x hup2 rfl (fun _ => rfl) q1 q2 (by simp) ?_
       intro v1 w2 hown1 hg1 hat1
       have hB2 := hA1.trans (below_grown hrow hg1 (by simp) (Nat.le_refl _))
       obtain ⟨A1, l1, c1, rfl⟩ := own_shape hown1)
    have hvs : Sl eB w2.heap.size w2 (.slice A1 l1 c1) x := Sl.of_own (n := 0 + x.length) (by simpa using hown1)
    go_ret2
    exact ⟨below_trans hB hB2, .inl ⟨_, trivial, rfl, hvs⟩⟩
  | false =>
    rw [hr] at hR
    obtain ⟨A, c, rfl⟩ := hS.len
    clear hr
    go_enter Tryd.func16, Tryd.ntmps16
    go_wp2_with fail
    go_at_call 23
    refine hR.mono ?_
    rintro e w1 ⟨rfl, hB⟩
    go_wp2_with fail
    go_ret2
    exact ⟨hB, .inr ⟨trivial, rfl⟩⟩
end Go.Proofs.YtnlndaknljbhcaaDoor
/- WordTells. -/
namespace Go.Proofs.YtnlndaknljbhcaaDoor
open Go.RowKit Go.Shelf
attribute [local go_sem] Oper.semAt_some run_store_func

/-- A call that tells a row and an error; one that tells sums and an error. -/
abbrev GivesL (f : Nat) (args : Array Value) (L : List UInt8) (m : Int) (w : World) : Prop := Calls Tryd.prog f args w fun e w' => Below w.heap.size w w' ∧ ∃ u, e = .returned (.tuple #[u, .int .i64 m]) ∧ Sl eB w'.heap.size w' u L
abbrev GivesS (f : Nat) (args : Array Value) (a b c m : Int) (w : World) : Prop := Calls Tryd.prog f args w fun e w' => Below w.heap.size w w' ∧ e = .returned (.tuple #[v3 a b c, .int .i64 m])
theorem make_both (x : List UInt8) : ∃ (L : List UInt8) (m : Int), (∀ v w, Tab w → TabB w → Sl eB w.heap.size w v x → GivesL 9 #[v] L m w) ∧ ∀ v w, Sl eB w.heap.size w v x → GivesL 10 #[v] L m w := by
  cases h : wfG x with
  | ok f =>
    refine ⟨wordL x f, 0, fun v w h1 h2 h3 => (WMake_any v x w h1 h2 h3).mono ?_, fun v w h3 => (WRMake_any v x w h3).mono ?_⟩
    · rintro e w' ⟨hB, ⟨f', u, hf, rfl, hu, -⟩ | ⟨m, hm, -⟩⟩
      · rw [h] at hf; cases hf; exact ⟨hB, u, rfl, hu⟩
      · rw [h] at hm; cases hm
    · rintro e w' ⟨hB, ⟨f', u, hf, rfl, hu⟩ | ⟨m, hm, -⟩⟩
      · rw [h] at hf; cases hf; exact ⟨hB, u, rfl, hu⟩
      · rw [h] at hm; cases hm
  | error k =>
    refine ⟨[], k, fun v w h1 h2 h3 => (WMake_any v x w h1 h2 h3).mono ?_, fun v w h3 => (WRMake_any v x w h3).mono ?_⟩
    · rintro e w' ⟨hB, ⟨f', u, hf, -⟩ | ⟨m, hm, rfl⟩⟩
      · rw [h] at hf; cases hf
      · rw [h] at hm; cases hm; exact ⟨hB, _, rfl, Sl.nil _ _ _⟩
    · rintro e w' ⟨hB, ⟨f', u, hf, -⟩ | ⟨m, hm, rfl⟩⟩
      · rw [h] at hf; cases hf
      · rw [h] at hm; cases hm; exact ⟨hB, _, rfl, Sl.nil _ _ _⟩
theorem field_both (x : List UInt8) : ∃ (L : List UInt8) (m : Int), L.length ≤ 1000 ∧ (∀ v w, Tab w → TabB w → Sl eB w.heap.size w v x → GivesL 11 #[v] L m w) ∧ ∀ v w, Sl eB w.heap.size w v x → GivesL 12 #[v] L m w := by
  cases h : wfG x with
  | ok f =>
    refine ⟨f, 0, ?_, fun v w h1 h2 h3 => (WField_any v x w h1 h2 h3).mono ?_, fun v w h3 => (WRField_any v x w h3).mono ?_⟩
    · obtain ⟨⟨h2, h8⟩, hl, -⟩ := wfG_ok h
      rw [hl]
      have := tb_le x.length (by omega)
      have := wb_le x.length (by omega)
      unfold longN zb
      omega
    · rintro e w' ⟨hB, ⟨f', u, hf, rfl, hu, -⟩ | ⟨m, hm, -⟩⟩
      · rw [h] at hf; cases hf; exact ⟨hB, u, rfl, hu⟩
      · rw [h] at hm; cases hm
    · rintro e w' ⟨hB, ⟨f', u, hf, rfl, hu⟩ | ⟨m, hm, -⟩⟩
      · rw [h] at hf; cases hf; exact ⟨hB, u, rfl, hu⟩
      · rw [h] at hm; cases hm
  | error k =>
    refine ⟨[], k, by simp, fun v w h1 h2 h3 => (WField_any v x w h1 h2 h3).mono ?_, fun v w h3 => (WRField_any v x w h3).mono ?_⟩
    · rintro e w' ⟨hB, ⟨f', u, hf, -⟩ | ⟨m, hm, rfl⟩⟩
      · rw [h] at hf; cases hf
      · rw [h] at hm; cases hm; exact ⟨hB, _, rfl, Sl.nil _ _ _⟩
    · rintro e w' ⟨hB, ⟨f', u, hf, -⟩ | ⟨m, hm, rfl⟩⟩
      · rw [h] at hf; cases hf
      · rw [h] at hm; cases hm; exact ⟨hB, _, rfl, Sl.nil _ _ _⟩
theorem told_both (f : List UInt8) (n : Int) (hf : f.length ≤ 100000) : ∃ a b c m : Int, (∀ v w, TabB w → Sl eB w.heap.size w v f → GivesS 13 #[v, .int .i64 n] a b c m w) ∧ ∀ v w, Sl eB w.heap.size w v f → GivesS 14 #[v, .int .i64 n] a b c m w := by
  by_cases h : ∃ s, ToldOk f n s
  · obtain ⟨⟨a, b, c⟩, h⟩ := h
    refine ⟨a, b, c, 0, fun v w h1 h2 => (WTold_any v f n (by omega) w h1 h2).mono ?_, fun v w h2 => (WRTold_any v f n hf w h2).mono ?_⟩
    all_goals
      rintro e w' ⟨hB, ⟨a', b', c', hg, rfl⟩ | ⟨hg, -⟩⟩
      · have e := h.one hg
        injection e with e1 e
        injection e with e2 e3
        subst e1 e2 e3
        exact ⟨hB, rfl⟩
      · exact absurd ⟨_, h⟩ hg
  · refine ⟨0, 0, 0, 130, fun v w h1 h2 => (WTold_any v f n (by omega) w h1 h2).mono ?_, fun v w h2 => (WRTold_any v f n hf w h2).mono ?_⟩
    all_goals
      rintro e w' ⟨hB, ⟨a', b', c', hg, -⟩ | ⟨-, rfl⟩⟩
      · exact absurd ⟨_, hg⟩ h
      · exact ⟨hB, rfl⟩
theorem inner_both (y : List UInt8) (n : Int) : ∃ (L : List UInt8) (m : Int), (∀ v w, Tab w → TabB w → Sl eB w.heap.size w v y → GivesL 15 #[v, .int .i64 n] L m w) ∧ ∀ v w, Sl eB w.heap.size w v y → GivesL 16 #[v, .int .i64 n] L m w := by
  cases h : wRightB y n with
  | true =>
    refine ⟨y.take n.toNat, 0, fun v w h1 h2 h3 => (WInner_any v y n w h1 h2 h3).mono ?_, fun v w h3 => (WRInner_any v y n w h3).mono ?_⟩
    all_goals
      rintro e w' ⟨hB, ⟨u, -, rfl, hu⟩ | ⟨hr, -⟩⟩
      · exact ⟨hB, u, rfl, hu⟩
      · rw [h] at hr; cases hr
  | false =>
    refine ⟨[], 130, fun v w h1 h2 h3 => (WInner_any v y n w h1 h2 h3).mono ?_, fun v w h3 => (WRInner_any v y n w h3).mono ?_⟩
    all_goals
      rintro e w' ⟨hB, ⟨u, hr, -⟩ | ⟨-, rfl⟩⟩
      · rw [h] at hr; cases hr
      · exact ⟨hB, _, rfl, Sl.nil _ _ _⟩
theorem wlong_both (n : Int) : ∃ z : Int, (∀ w, Calls Tryd.prog 20 #[.int .i64 n] w fun e w' => e = .returned (.int .i64 z) ∧ Below w.heap.size w w') ∧ ∀ w, Calls Tryd.prog 21 #[.int .i64 n] w fun e w' => e = .returned (.int .i64 z) ∧ w = w' := by
  by_cases h : 2 ≤ n ∧ n ≤ 800
  · obtain ⟨k, rfl⟩ : ∃ k : Nat, n = k := ⟨n.toNat, by omega⟩
    have hl : longN k ≤ 1000 := by
      have := tb_le k (by omega)
      have := wb_le k (by omega)
      unfold longN zb
      omega
    exact ⟨_, fun w => WLong_yes k (by omega) (by omega) hl w, fun w => WRLong_yes k (by omega) (by omega) w⟩
  · exact ⟨-1, fun w => (WLong_no n (by omega) w).mono fun e w' ⟨he, hw⟩ => ⟨he, hw ▸ Below.refl _ _⟩, fun w => WRLong_no n (by omega) w⟩
set_option maxRecDepth 100000 in
set_option maxHeartbeats 4000000 in
theorem WordTells_some (v0 : Value) (x : List UInt8) (a b : UInt8) (n : Int) (hx : x.length ≤ 900) (w : World) (hS : Sl eB w.heap.size w v0 x) (hT : Tab w) (hTB : TabB w) :
    Calls Tryd.prog 3 #[v0, eB a, eB b, .int .i64 n] w fun e w' => e = .returned (.bool true) ∧ Below w.heap.size w w' := by
  have hwk := wwakes_any
  obtain ⟨W, m1, hM, hMr⟩ := make_both x
  obtain ⟨F, m2, hFl, hF, hFr⟩ := field_both x
  obtain ⟨a3, b3, c3', m3, hT3, hT3r⟩ := told_both x n (by omega)
  obtain ⟨a4, b4, c4', m4, hT4, hT4r⟩ := told_both F x.length (by omega)
  obtain ⟨Y, m5, hI, hIr⟩ := inner_both W n
  obtain ⟨z, hL, hLr⟩ := wlong_both n
  have hJ := fun w h => Junction_any a b w h
  have hJr := fun w => WRJunction_any a b w
  generalize letterOf (jN a b : Nat) = jj at *
  have hR1 := fun v w h1 h2 h3 => WRight_any v W n w h1 h2 h3
  have hR1r := fun v w h3 => WRRight_any v W n w h3
  have hR2 := fun v w h1 h2 h3 => WRight_any v x n w h1 h2 h3
  have hR2r := fun v w h3 => WRRight_any v x n w h3
  generalize wRightB W n = r1 at *
  generalize wRightB x n = r2 at *
  have hsW := fun u v w h1 h2 => same_any u v W W w.heap.size w h1 h2
  have hsF := fun u v w h1 h2 => same_any u v F F w.heap.size w h1 h2
  have hsY := fun u v w h1 h2 => same_any u v Y Y w.heap.size w h1 h2
  rw [decide_eq_true rfl] at hsW hsF hsY
  have hE3 := fun w => eqS a3 b3 c3' a3 b3 c3' w
  have hE4 := fun w => eqS a4 b4 c4' a4 b4 c4' w
  rw [show (a3 == a3 && (b3 == b3 && c3' == c3')) = true by simp] at hE3
  rw [show (a4 == a4 && (b4 == b4 && c4' == c4')) = true by simp] at hE4
  have d9 : decide ((900 : Int) < (x.length : Int)) = false := decide_eq_false (by omega)
  have d9' : ¬ (900 : Int) < (x.length : Int) := by omega
  have d9'' : ¬ 900 < x.length := by omega
  have hB0 := Below.refl w.heap.size w
  obtain ⟨A, c, rfl⟩ := hS.len
  clear hx hFl
  go_enter Tryd.func3, Tryd.ntmps3
  go_wp2_with fail
  go_at_call 9
  refine (hM _ _ hT hTB hS).mono ?_
  rintro e wz1 ⟨hB, ua, rfl, hua⟩
  have hS := hS.next hB
  have hT := hT.below hB
  have hTB := hTB.below hB
  have hB0 := below_trans hB0 hB
  obtain ⟨Aua, kua, rfl⟩ := hua.len
  clear hB hM
  go_wp2_with fail
  go_at_call 10
  refine (hMr _ _ hS).mono ?_
  rintro e wz2 ⟨hB, ub, rfl, hub⟩
  have hS := hS.next hB
  have hua := hua.next hB
  have hT := hT.below hB
  have hTB := hTB.below hB
  have hB0 := below_trans hB0 hB
  obtain ⟨Aub, kub, rfl⟩ := hub.len
  clear hB hMr
  go_wp2_with fail
  go_at_call 11
  refine (hF _ _ hT hTB hS).mono ?_
  rintro e wz3 ⟨hB, uc, rfl, huc⟩
  have hS := hS.next hB
  have hua := hua.next hB
  have hub := hub.next hB
  have hT := hT.below hB
  have hTB := hTB.below hB
  have hB0 := below_trans hB0 hB
  obtain ⟨Auc, kuc, rfl⟩ := huc.len
  clear hB hF
  go_wp2_with fail
  go_at_call 12
  refine (hFr _ _ hS).mono ?_
  rintro e wz4 ⟨hB, ud, rfl, hud⟩
  have hS := hS.next hB
  have hua := hua.next hB
  have hub := hub.next hB
  have huc := huc.next hB
  have hT := hT.below hB
  have hTB := hTB.below hB
  have hB0 := below_trans hB0 hB
  obtain ⟨Aud, kud, rfl⟩ := hud.len
  clear hB hFr
  go_wp2_with fail
  go_at_call 13
  refine (hT3 _ _ hTB hS).mono ?_
  rintro e wy5 ⟨hB, rfl⟩
  have hAx := below_alloc wy5 (.cells (c3 a3 b3 c3') 28)
  have hr17 := Rowed.new wy5 28 (c3 a3 b3 c3')
  have hBx := below_trans hB hAx
  have hS := hS.next hBx
  have hua := hua.next hBx
  have hub := hub.next hBx
  have huc := huc.next hBx
  have hud := hud.next hBx
  have hT := hT.below hBx
  have hTB := hTB.below hBx
  have hB0 := below_trans hB0 hBx
  clear hB hAx hBx hT3
  go_upto_region 8 with fail
  generalize wy5.alloc (.cells (c3 a3 b3 c3') 28) = wz5 at *
  generalize wy5.heap.size = gg5 at *
  go_wp2_with fail
  go_at_call 14
  refine (hT3r _ _ hS).mono ?_
  rintro e wy6 ⟨hB, rfl⟩
  have hAx := below_alloc wy6 (.cells (c3 a3 b3 c3') 28)
  have hr19 := Rowed.new wy6 28 (c3 a3 b3 c3')
  have hBx := below_trans hB hAx
  have hS := hS.next hBx
  have hua := hua.next hBx
  have hub := hub.next hBx
  have huc := huc.next hBx
  have hud := hud.next hBx
  have hT := hT.below hBx
  have hTB := hTB.below hBx
  have hr17 := hr17.below hBx hr17.lt
  have hB0 := below_trans hB0 hBx
  clear hB hAx hBx hT3r
  go_upto_region 9 with fail
  generalize wy6.alloc (.cells (c3 a3 b3 c3') 28) = wz6 at *
  generalize wy6.heap.size = gg6 at *
  go_wp2_with fail
  go_at_call 13
  refine (hT4 _ _ hTB hud).mono ?_
  rintro e wy7 ⟨hB, rfl⟩
  have hAx := below_alloc wy7 (.cells (c3 a4 b4 c4') 28)
  have hr21 := Rowed.new wy7 28 (c3 a4 b4 c4')
  have hBx := below_trans hB hAx
  have hS := hS.next hBx
  have hua := hua.next hBx
  have hub := hub.next hBx
  have huc := huc.next hBx
  have hud := hud.next hBx
  have hT := hT.below hBx
  have hTB := hTB.below hBx
  have hr17 := hr17.below hBx hr17.lt
  have hr19 := hr19.below hBx hr19.lt
  have hB0 := below_trans hB0 hBx
  clear hB hAx hBx hT4
  go_upto_region 10 with fail
  generalize wy7.alloc (.cells (c3 a4 b4 c4') 28) = wz7 at *
  generalize wy7.heap.size = gg7 at *
  go_wp2_with fail
  go_at_call 14
  refine (hT4r _ _ hud).mono ?_
  rintro e wy8 ⟨hB, rfl⟩
  have hAx := below_alloc wy8 (.cells (c3 a4 b4 c4') 28)
  have hr23 := Rowed.new wy8 28 (c3 a4 b4 c4')
  have hBx := below_trans hB hAx
  have hS := hS.next hBx
  have hua := hua.next hBx
  have hub := hub.next hBx
  have huc := huc.next hBx
  have hud := hud.next hBx
  have hT := hT.below hBx
  have hTB := hTB.below hBx
  have hr17 := hr17.below hBx hr17.lt
  have hr19 := hr19.below hBx hr19.lt
  have hr21 := hr21.below hBx hr21.lt
  have hB0 := below_trans hB0 hBx
  clear hB hAx hBx hT4r
  go_upto_region 11 with fail
  generalize wy8.alloc (.cells (c3 a4 b4 c4') 28) = wz8 at *
  generalize wy8.heap.size = gg8 at *
  go_wp2_with fail
  go_at_call 15
  refine (hI _ _ hT hTB hub).mono ?_
  rintro e wz9 ⟨hB, ue, rfl, hue⟩
  have hS := hS.next hB
  have hua := hua.next hB
  have hub := hub.next hB
  have huc := huc.next hB
  have hud := hud.next hB
  have hT := hT.below hB
  have hTB := hTB.below hB
  have hr17 := hr17.below hB hr17.lt
  have hr19 := hr19.below hB hr19.lt
  have hr21 := hr21.below hB hr21.lt
  have hr23 := hr23.below hB hr23.lt
  have hB0 := below_trans hB0 hB
  obtain ⟨Aue, kue, rfl⟩ := hue.len
  clear hB hI
  go_wp2_with fail
  go_at_call 16
  refine (hIr _ _ hub).mono ?_
  rintro e wz10 ⟨hB, uf, rfl, huf⟩
  have hS := hS.next hB
  have hua := hua.next hB
  have hub := hub.next hB
  have huc := huc.next hB
  have hud := hud.next hB
  have hue := hue.next hB
  have hT := hT.below hB
  have hTB := hTB.below hB
  have hr17 := hr17.below hB hr17.lt
  have hr19 := hr19.below hB hr19.lt
  have hr21 := hr21.below hB hr21.lt
  have hr23 := hr23.below hB hr23.lt
  have hB0 := below_trans hB0 hB
  obtain ⟨Auf, kuf, rfl⟩ := huf.len
  clear hB hIr
  have qhr170 := hr17.cell 0
  have qhr171 := hr17.cell 1
  have qhr172 := hr17.cell 2
  have qhr190 := hr19.cell 0
  have qhr191 := hr19.cell 1
  have qhr192 := hr19.cell 2
  have qhr210 := hr21.cell 0
  have qhr211 := hr21.cell 1
  have qhr212 := hr21.cell 2
  have qhr230 := hr23.cell 0
  have qhr231 := hr23.cell 1
  have qhr232 := hr23.cell 2
  simp at qhr170 qhr171 qhr172 qhr190 qhr191 qhr192 qhr210 qhr211 qhr212 qhr230 qhr231 qhr232
  have hs1 := hsW _ _ _ hua hub
  have hs2 := hsF _ _ _ huc hud
  have hs3 := hsY _ _ _ hue huf
  go_wp2_with fail
  go_at_call 17
  refine (hs1).mono ?_
  rintro e w' ⟨rfl, rfl⟩
  go_wp2_with fail
  go_at_call 17
  refine (hs2).mono ?_
  rintro e w' ⟨rfl, rfl⟩
  go_wp2_with fail
  go_at_call 17
  refine (hs3).mono ?_
  rintro e w' ⟨rfl, rfl⟩
  clear hs1 hs2 hs3 hsW hsF hsY huc hud hue huf hE3 hE4 qhr170 qhr171 qhr172 qhr190 qhr191 qhr192 qhr210 qhr211 qhr212 qhr230 qhr231 qhr232 hr17 hr19 hr21 hr23
  go_wp2_with fail
  go_at_call 18
  refine (hJ _ hT).mono ?_
  rintro e w' ⟨rfl, rfl⟩
  go_wp2_with fail
  go_at_call 19
  refine (hJr _).mono ?_
  rintro e w' ⟨rfl, rfl⟩
  go_wp2_with fail
  go_at_call 20
  refine (hL _).mono ?_
  rintro e wz11 ⟨rfl, hB⟩
  have hS := hS.next hB
  have hub := hub.next hB
  have hT := hT.below hB
  have hTB := hTB.below hB
  have hB0 := below_trans hB0 hB
  clear hB 
  go_wp2_with fail
  go_at_call 21
  refine (hLr _).mono ?_
  rintro e w' ⟨rfl, rfl⟩
  go_wp2_with fail
  go_at_call 22
  refine (hR1 _ _ hT hTB hub).mono ?_
  rintro e wz12 ⟨rfl, hB⟩
  have hS := hS.next hB
  have hub := hub.next hB
  have hT := hT.below hB
  have hTB := hTB.below hB
  have hB0 := below_trans hB0 hB
  clear hB 
  go_wp2_with fail
  go_at_call 23
  refine (hR1r _ _ hub).mono ?_
  rintro e wz13 ⟨rfl, hB⟩
  have hS := hS.next hB
  have hub := hub.next hB
  have hT := hT.below hB
  have hTB := hTB.below hB
  have hB0 := below_trans hB0 hB
  clear hB 
  go_wp2_with fail
  go_at_call 22
  refine (hR2 _ _ hT hTB hS).mono ?_
  rintro e wz14 ⟨rfl, hB⟩
  have hS := hS.next hB
  have hub := hub.next hB
  have hT := hT.below hB
  have hTB := hTB.below hB
  have hB0 := below_trans hB0 hB
  clear hB 
  go_wp2_with fail
  go_at_call 23
  refine (hR2r _ _ hS).mono ?_
  rintro e wz15 ⟨rfl, hB⟩
  have hS := hS.next hB
  have hub := hub.next hB
  have hT := hT.below hB
  have hTB := hTB.below hB
  have hB0 := below_trans hB0 hB
  clear hB 
  go_wp2_with fail
  go_at_call 8
  refine (hwk _ hT hTB).mono ?_
  rintro e wz16 ⟨rfl, hB⟩
  have hS := hS.next hB
  have hub := hub.next hB
  have hT := hT.below hB
  have hTB := hTB.below hB
  have hB0 := below_trans hB0 hB
  clear hB 
  go_wp2_with fail
  go_ret
  exact ⟨rfl, hB0⟩
set_option maxRecDepth 100000 in
set_option maxHeartbeats 2000000 in
theorem WordTells_any (v0 : Value) (x : List UInt8) (a b : UInt8) (n : Int) (w : World) (hS : Sl eB w.heap.size w v0 x) (hT : Tab w) (hTB : TabB w) :
    Calls Tryd.prog 3 #[v0, eB a, eB b, .int .i64 n] w fun e w' => e = .returned (.bool true) ∧ Below w.heap.size w w' := by
  by_cases hx : x.length ≤ 900
  · exact WordTells_some v0 x a b n hx w hS hT hTB
  · have hwk := wwakes_any
    have d9 : decide ((900 : Int) < (x.length : Int)) = true := decide_eq_true (by omega)
    have d9' : (900 : Int) < (x.length : Int) := by omega
    obtain ⟨A, c, rfl⟩ := hS.len
    clear hx
    go_enter Tryd.func3, Tryd.ntmps3
    go_wp2_with fail
    go_at_call 8
    refine (hwk _ hT hTB).mono ?_
    rintro e w' ⟨rfl, hB⟩
    go_wp2_with fail
    go_ret
    exact ⟨rfl, hB⟩
end Go.Proofs.YtnlndaknljbhcaaDoor
