/- The law's own wakes. -/
import Derived.Test.YtheealkoooiloaaDoorSuM
import Derived.Lib.SlBytesConst
import Derived.Deep.CutRange
namespace Go.Proofs.YtheealkoooiloaaDoor
open Go.RowKit Go.Shelf
attribute [local go_sem] Oper.semAt_some run_store_func

theorem Of_yes (x : List UInt8) (a b c : Int) (h : sumsG x = .ok (a, b, c)) (hreach : x.length ≤ 1000000) (sv : Value) (w : World) (hT : Tab w) (hS : Sl eB w.heap.size w sv x) :
    Calls Tryd.prog 9 #[sv] w fun e w' => e = .returned (.tuple #[v3 a b c, .int .i64 0]) ∧ Below w.heap.size w w' :=
  (Of_any sv x hreach w hT hS).mono (by
    rintro e w' ⟨hB, ⟨a', b', c', hy, rfl⟩ | ⟨m, hm, rfl⟩⟩
    · rw [h] at hy; cases hy; exact ⟨rfl, hB⟩
    · rw [h] at hm; cases hm)
theorem Of_no (x : List UInt8) (m : Int) (h : sumsG x = .error m) (hreach : x.length ≤ 1000000) (sv : Value) (w : World) (hT : Tab w) (hS : Sl eB w.heap.size w sv x) :
    Calls Tryd.prog 9 #[sv] w fun e w' => e = .returned (.tuple #[v3 0 0 0, .int .i64 m]) ∧ Below w.heap.size w w' :=
  (Of_any sv x hreach w hT hS).mono (by
    rintro e w' ⟨hB, ⟨a', b', c', hy, rfl⟩ | ⟨m', hm, rfl⟩⟩
    · rw [h] at hy; cases hy
    · rw [h] at hm; cases hm; exact ⟨rfl, hB⟩)
theorem Unpack_yes (x : List UInt8) (n : Int) (a b c : Nat) (h : unG x n = some (a, b, c)) (sv : Value) (w : World) (hS : Sl eB w.heap.size w sv x) :
    Calls Tryd.prog 13 #[sv, .int .i64 n] w fun e w' => e = .returned (.tuple #[v3 a b c, .int .i64 0]) ∧ Below w.heap.size w w' :=
  (Unpack_any sv x n w hS).mono (by
    rintro e w' ⟨hB, ⟨a', b', c', hy, rfl⟩ | ⟨hm, rfl⟩⟩
    · rw [h] at hy; cases hy; exact ⟨rfl, hB⟩
    · rw [h] at hm; cases hm)
theorem Unpack_no (x : List UInt8) (n : Int) (h : unG x n = none) (sv : Value) (w : World) (hS : Sl eB w.heap.size w sv x) :
    Calls Tryd.prog 13 #[sv, .int .i64 n] w fun e w' => e = .returned (.tuple #[v3 0 0 0, .int .i64 2]) ∧ Below w.heap.size w w' :=
  (Unpack_any sv x n w hS).mono (by
    rintro e w' ⟨hB, ⟨a', b', c', hy, rfl⟩ | ⟨hm, rfl⟩⟩
    · rw [h] at hy; cases hy
    · exact ⟨rfl, hB⟩)
theorem Rises_any (sv : Value) (x : List UInt8) (hreach : x.length ≤ 1000000) (w : World) (hS : Sl eB w.heap.size w sv x) :
    Calls Tryd.prog 15 #[sv] w fun e w' => Below w.heap.size w w' ∧ ∃ v, e = .returned v ∧ Sl eF w'.heap.size w' v ((List.range x.length).map (riseB x)) := callsIn_inProg (Rises_in sv x hreach w hS 0)
theorem wk1 : sumsG [65, 67] = .ok (1, 1, 2) := by kernel_rfl
theorem wk2 : sumsG [65] = .error 2 := by kernel_rfl
theorem wk3 : sumsG [65, 78] = .error 10 := by kernel_rfl
theorem wk4 : rightB (1 : Nat) (1 : Nat) (2 : Nat) (2 : Nat) = true := by kernel_rfl
theorem wk5 : unG (packL 1 1 2 2) 2 = some (1, 1, 2) := by kernel_rfl
theorem wk6 : rightB 1 1 2 1 = false := by kernel_rfl
theorem wk7 : (List.range 2).map (riseB [65, 67]) = [false, true] := by kernel_rfl
theorem wk8 : longN 58 = 18 := by kernel_rfl
theorem wk9 : (packL 1 1 2 2).length = 8 := by kernel_rfl
set_option maxRecDepth 100000 in
set_option maxHeartbeats 400000 in
theorem wakes_any (w : World) (hT : Tab w) : Calls Tryd.prog 8 #[] w fun e w' => e = .returned (.bool true) ∧ Below w.heap.size w w' := by
  have c1 := fun v w => Of_yes _ _ _ _ wk1 (by simp) v w
  have c2 := fun v w => Of_no _ _ wk2 (by simp) v w
  have c3' := fun v w => Of_no _ _ wk3 (by simp) v w
  have c6 : ∀ w, Calls Tryd.prog 11 #[v3 1 1 2, .int .i64 1] w fun e w' => Below w.heap.size w w' ∧ e = .returned (.tuple #[.slice none 0 0, .int .i64 2]) := fun w => Pack_no 1 1 2 1 wk6 w
  have c7 : ∀ v w, Sl eB w.heap.size w v [65, 67] → Calls Tryd.prog 15 #[v] w fun e w' => Below w.heap.size w w' ∧ ∃ v, e = .returned v ∧ Sl eF w'.heap.size w' v [false, true] := fun v w h => by
    have := Rises_any v [65, 67] (by simp) w h
    have e7 : (List.range ([65, 67] : List UInt8).length).map (riseB [65, 67]) = [false, true] := wk7
    rwa [e7] at this
  have c8 : ∀ w, Calls Tryd.prog 17 #[v3 1 1 2, .int .i64 2] w fun e w' => e = .returned (.bool true) ∧ Below w.heap.size w w' := fun w => by
    have := Right_any 1 1 2 2 w
    rwa [show rightB 1 1 2 2 = true from wk4] at this
  have c9 : ∀ w, Calls Tryd.prog 19 #[.int .i64 58] w fun e w' => e = .returned (.int .i64 18) ∧ Below w.heap.size w w' := fun w => by
    have := Long_yes 58 (by omega) (by omega) w
    rw [wk8] at this
    exact this
  have ca : ∀ w, Calls Tryd.prog 19 #[.int .i64 1] w fun e w' => e = .returned (.int .i64 (-1)) ∧ w = w' := fun w => Long_no 1 (by kernel_rfl) w
  obtain ⟨PL, hl8, c4, c5⟩ : ∃ PL : List UInt8, PL.length = 8 ∧ (∀ w, Calls Tryd.prog 11 #[v3 1 1 2, .int .i64 2] w fun e w' => Below w.heap.size w w' ∧ ∃ v, e = .returned (.tuple #[v, .int .i64 0]) ∧ Sl eB w'.heap.size w' v PL) ∧
      ∀ v w, Sl eB w.heap.size w v PL → Calls Tryd.prog 13 #[v, .int .i64 2] w fun e w' => e = .returned (.tuple #[v3 1 1 2, .int .i64 0]) ∧ Below w.heap.size w w' :=
    ⟨packL 1 1 2 2, wk9, fun w => Pack_yes 1 1 2 2 (by omega) (by omega) wk4 w, fun v w => Unpack_yes _ _ _ _ _ wk5 v w⟩
  have h8 : ((PL.length : Int) == 8) = true := by rw [hl8]; rfl
  clear hl8
  have kc := fun (w : World) (C : Array Value) (n c : Nat) => Lib.run_convert_bytes_const (P := Tryd.prog) w 22 5 C n c Tryd.underlying22 Tryd.underlying5
  obtain ⟨hz, hsz⟩ := zero_of_info infoS
  have hc0 : (v3 0 0 0).cells = #[.int .i64 0, .int .i64 0, .int .i64 0] := rfl
  go_enter Tryd.func8, Tryd.ntmps8
  have hA0 := below_alloc w (.cells #[.int .u8 65, .int .u8 67] 5 (2, 3))
  have hq0 := Sl.new eB w [65, 67] #[eB 65, eB 67] 5 (2, 3) 2 2 rfl (Nat.le_refl _) rfl
  go_wp2_with fail
  go_at_call 9
  refine (c1 _ _ (hT.below hA0) hq0).mono ?_
  rintro e w1 ⟨rfl, hB1⟩
  have hB1 := below_trans hA0 hB1
  have hT1 := hT.below hB1
  have hr1 := Rowed.new w1 24 (c3 1 1 2)
  have hA1 := hB1.alloc hB1.size (.cells (c3 1 1 2) 24)
  have hT1 := hT1.below (below_alloc w1 (.cells (c3 1 1 2) 24))
  have hlt1 := hr1.lt
  clear hA0 hq0 c1 hB1
  go_upto_region 2 with fail
  generalize w1.alloc (.cells (c3 1 1 2) 24) = w2 at *
  generalize w1.heap.size = g1 at *
  have hA2 := below_alloc w2 (.cells #[.int .u8 65] 5 (1, 2))
  have hq2 := Sl.new eB w2 [65] #[eB 65] 5 (1, 2) 1 1 rfl (Nat.le_refl _) rfl
  go_wp2_with fail
  go_at_call 9
  refine (c2 _ _ (hT1.below hA2) hq2).mono ?_
  rintro e w3 ⟨rfl, hB3⟩
  have hB3 := below_trans hA2 hB3
  have hr3 := (hr1.below hB3 hlt1).alloc (.cells (c3 0 0 0) 24)
  have hT3 := (hT1.below hB3).below (below_alloc w3 (.cells (c3 0 0 0) 24))
  have hA3 := below_trans hA1 (hB3.alloc hB3.size (.cells (c3 0 0 0) 24))
  have hlt3 := hr3.lt
  clear hA2 hq2 c2 hB3 hr1 hT1 hA1 hlt1
  go_upto_region 3 with fail
  generalize w3.alloc (.cells (c3 0 0 0) 24) = w4 at *
  generalize w3.heap.size = g3 at *
  have hA4 := below_alloc w4 (.cells #[.int .u8 65, .int .u8 78] 5 (2, 3))
  have hq4 := Sl.new eB w4 [65, 78] #[eB 65, eB 78] 5 (2, 3) 2 2 rfl (Nat.le_refl _) rfl
  go_wp2_with fail
  go_at_call 9
  refine (c3' _ _ (hT3.below hA4) hq4).mono ?_
  rintro e w5 ⟨rfl, hB5⟩
  have hB5 := below_trans hA4 hB5
  have hr5 := (hr3.below hB5 hlt3).alloc (.cells (c3 0 0 0) 24)
  have hA5 := below_trans hA3 (hB5.alloc hB5.size (.cells (c3 0 0 0) 24))
  have hlt5 := hr5.lt
  clear hA4 hq4 c3' hB5 hr3 hT3 hA3 hlt3 hT
  go_upto_region 4 with fail
  generalize w5.alloc (.cells (c3 0 0 0) 24) = w6 at *
  generalize w5.heap.size = g5 at *
  go_wp2_with (refine wpList_load_row rfl 24 (.tmp 1) rfl g1 rfl _ (c3 1 1 2) _ _ hr5 Tryd.underlying24 rfl (size_c3 1 1 2) ?_)
  go_at_call 11
  refine (c4 _).mono ?_
  rintro e w7 ⟨hB7, v7, rfl, hv7⟩
  have hr7 := hr5.below hB7 hlt5
  have hA7 := below_trans hA5 hB7
  have hlt7 := hr7.lt
  obtain ⟨A7, k7, rfl⟩ := hv7.len
  clear c4 hB7 hr5 hA5 hlt5
  go_wp2_with fail
  go_at_call 13
  refine (c5 _ _ hv7).mono ?_
  rintro e w8 ⟨rfl, hB8⟩
  have hr8 := (hr7.below hB8 hlt7).alloc (.cells (c3 1 1 2) 24)
  have hs8 := Rowed.new w8 24 (c3 1 1 2)
  have hA8 := below_trans hA7 (hB8.alloc hB8.size (.cells (c3 1 1 2) 24))
  have hlt8 := hs8.lt
  have hlt8' := hr8.lt
  clear c5 hB8 hr7 hA7 hlt7 hv7
  go_upto_region 6 with fail
  generalize w8.alloc (.cells (c3 1 1 2) 24) = w9 at *
  generalize w8.heap.size = g8 at *
  go_wp2_with (refine wpList_load_row rfl 24 (.tmp 1) rfl g1 rfl _ (c3 1 1 2) _ _ hr8 Tryd.underlying24 rfl (size_c3 1 1 2) ?_)
  go_at_call 11
  refine (c6 _).mono ?_
  rintro e wa ⟨hBa, rfl⟩
  have hra := hr8.below hBa hlt8'
  have hsa := hs8.below hBa hlt8
  have hAa := below_trans hA8 hBa
  clear c6 hBa hr8 hs8 hA8 hlt8 hlt8'
  have hAb := below_trans hAa (below_alloc wa (.cells #[.int .u8 65, .int .u8 67] 5 (2, 3)))
  have hqb := Sl.new eB wa [65, 67] #[eB 65, eB 67] 5 (2, 3) 2 2 rfl (Nat.le_refl _) rfl
  have hrb := hra.alloc (.cells #[.int .u8 65, .int .u8 67] 5 (2, 3))
  have hsb := hsa.alloc (.cells #[.int .u8 65, .int .u8 67] 5 (2, 3))
  have hltb := hrb.lt
  have hltb' := hsb.lt
  clear hra hsa hAa
  go_upto_region 7 with fail
  go_wp2_with fail
  go_at_call 15
  refine (c7 _ _ hqb).mono ?_
  rintro e wc ⟨hBc, vr, rfl, hvr⟩
  obtain ⟨Ar, kr, rfl, _, hcs⟩ := hvr
  obtain ⟨br, ro, rfl, hbr, hcr⟩ := hcs (by simp)
  have hrc := hrb.below hBc hltb
  have hsc := hsb.below hBc hltb'
  have hAc := below_trans hAb hBc
  have r0 := hcr 0 false rfl
  have r1 := hcr 1 true rfl
  rw [Nat.add_zero] at r0
  have hbd : ∀ w, (Instr.build 24 #[(0, .int .i64 1), (1, .int .i64 1), (2, .int .i64 2)]).run Tryd.prog w = .ok (v3 1 1 2) w := fun _ => by kernel_rfl
  have heq : ∀ w, (Op.equalIn 10000 24 (v3 1 1 2) (v3 1 1 2)).run Tryd.prog w = .ok true w := fun _ => by kernel_rfl
  clear hqb hrb hsb hltb hltb' hBc hcs hcr hAb c7 kc
  simp only [List.length_cons, List.length_nil, Nat.reduceAdd]
  have q0 := hrc.cell 0
  have q1 := hrc.cell 1
  have q2 := hrc.cell 2
  have t0 := hsc.cell 0
  have t1 := hsc.cell 1
  have t2 := hsc.cell 2
  simp at q0 q1 q2 t0 t1 t2
  go_wp2_with fail
  go_at_call 17
  refine (c8 _).mono ?_
  rintro e wd ⟨rfl, hBd⟩
  have r0 := (hBd.cell (p := ⟨br, ro, none⟩) hbr).trans r0
  have r1 := (hBd.cell (p := ⟨br, ro + 1, none⟩) hbr).trans r1
  have hAd := below_trans hAc hBd
  have hbrd : br < wd.heap.size := by have := hBd.size; omega
  clear hBd hAc hrc hsc hbr q0 q1 q2 t0 t1 t2
  go_wp2_with fail
  go_at_call 19
  refine (c9 _).mono ?_
  rintro e we ⟨rfl, hBe⟩
  have r0 := (hBe.cell (p := ⟨br, ro, none⟩) hbrd).trans r0
  have r1 := (hBe.cell (p := ⟨br, ro + 1, none⟩) hbrd).trans r1
  have hAe := below_trans hAd hBe
  clear hBe hAd hbrd
  go_wp2_with (go_at_call 19; refine (ca _).mono ?_; rintro e w' ⟨rfl, rfl⟩)
  go_ret
  exact ⟨rfl, hAe⟩
end Go.Proofs.YtheealkoooiloaaDoor
