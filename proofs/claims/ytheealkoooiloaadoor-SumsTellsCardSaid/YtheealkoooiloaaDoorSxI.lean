/- SumsTells. -/
import Derived.Test.YtheealkoooiloaaDoorSxH
namespace Go.Proofs.YtheealkoooiloaaDoor
open Go.RowKit Go.Shelf
attribute [local go_sem] Oper.semAt_some run_store_func

theorem cells_of_row {W : World} {g : Nat} {p q r : Int} (h : Rowed W g 24 (c3 p q r)) : W.cell? ⟨g, 0, none⟩ = some (.int .i64 p) ∧ W.cell? ⟨g, 1, none⟩ = some (.int .i64 q) ∧ W.cell? ⟨g, 2, none⟩ = some (.int .i64 r) := by
  have k0 := h.cell 0
  have k1 := h.cell 1
  have k2 := h.cell 2
  simp at k0 k1 k2
  exact ⟨k0, k1, k2⟩
theorem Sl.read {α : Type} {enc : α → Value} {B : Nat} {W : World} {A : Option Addr} {c n : Nat} {xs : List α} (h : Sl enc B W (.slice A n c) xs) {k : Nat} (hk : k < xs.length) : ∃ bk off, A = some ⟨bk, off, none⟩ ∧ bk < B ∧ W.cell? ⟨bk, off + k, none⟩ = some (enc xs[k]) := by
  obtain ⟨A', c', e, hc, hcs⟩ := h
  injection e with e1 e2 e3
  subst e1 e3
  obtain ⟨bk, off, e4, hb, hcell⟩ := hcs (by omega)
  exact ⟨bk, off, e4, hb, hcell k _ (by simp [hk])⟩
set_option maxRecDepth 100000 in
set_option maxHeartbeats 4000000 in
theorem SumsTells_yes (v0 v1 : Value) (x bs : List UInt8) (a b c n : Int) (w : World) (h0 : Sl eB w.heap.size w v0 x) (h1 : Sl eB w.heap.size w v1 bs) (hT : Tab w) (hx : x.length ≤ 1100) (hb : bs.length ≤ 60) :
    Calls Tryd.prog 3 #[v0, v3 a b c, .int .i64 n, v1] w fun e w' => e = .returned (.bool true) ∧ Below w.heap.size w w' := by
  have hw := wakes_any
  obtain ⟨a1, b1, c1, m1, o1, r1⟩ := of_both x (by omega)
  obtain ⟨L2, m2, o2, r2⟩ := pack_both a b c n
  obtain ⟨a3, b3, c3', m3, o3, r3⟩ := un_both bs n
  have o4 := fun w => Rises_any v0 x (by omega) w
  have r4 := fun w => rRises_any v0 x (by omega) w
  have o5 := fun w => Right_any a b c n w
  have r5 := fun w => refRight_any a b c n w
  obtain ⟨k6, o6, r6⟩ := long_both n
  have o1 := o1 v0
  have r1 := r1 v0
  have o3 := o3 v1
  have r3 := r3 v1
  have d1 : decide ((1100 : Int) < (x.length : Int)) = false := decide_eq_false (by omega)
  have d2 : decide ((60 : Int) < (bs.length : Int)) = false := decide_eq_false (by omega)
  have d1' : decide (1100 < x.length) = false := decide_eq_false (by omega)
  have d2' : decide (60 < bs.length) = false := decide_eq_false (by omega)
  have hE1 := fun w => eqS a1 b1 c1 a1 b1 c1 w
  have hE3 := fun w => eqS a3 b3 c3' a3 b3 c3' w
  simp only [beq_self_eq_true, Bool.and_self] at hE1 hE3
  have hRl : ((List.range x.length).map (riseB x)).length ≤ 1100 := by simp; omega
  generalize (List.range x.length).map (riseB x) = RL at *
  generalize rightB a b c n = rb at *
  have g1 : (m1 != m1) = false := by simp
  have g2 : (m2 != m2) = false := by simp
  have g3 : (m3 != m3) = false := by simp
  have g4 : ((RL.length : Int) != (RL.length : Int)) = false := by simp
  have g5 : (L2 != L2) = false := by simp
  have g6 : (k6 == k6) = true := by simp
  have g7 : (rb == rb) = true := by simp
  obtain ⟨A0, cc0, rfl⟩ := h0.len
  obtain ⟨A1, cc1, rfl⟩ := h1.len
  have hcl : (v3 a b c).cells = c3 a b c := rfl
  have hr := Rowed.new w 24 (c3 a b c)
  have hA := below_alloc w (.cells (c3 a b c) 24)
  have hlt := hr.lt
  clear hx hb
  go_enter Tryd.func3, Tryd.ntmps3
  go_wp2_with fail
  generalize w.alloc (.cells (c3 a b c) 24) = w0 at *
  have h0 := h0.next hA
  have h1 := h1.next hA
  have hT := hT.below hA
  clear d1 d2 d1' d2'
  go_at_call 9
  refine (o1 _ hT h0).mono ?_
  rintro e w1 ⟨rfl, hB1⟩
  have hAa := below_alloc w1 (.cells (c3 a1 b1 c1) 24)
  have hra := Rowed.new w1 24 (c3 a1 b1 c1)
  have hBx := below_trans hB1 hAa
  have hlta := hra.lt
  have h0 := h0.next hBx
  have h1 := h1.next hBx
  have hT := hT.below hBx
  have hr := hr.below hBx hlt
  have hlt := hr.lt
  have hA := below_trans hA hBx
  clear o1 hAa hB1
  go_upto_region 4 with fail
  generalize w1.alloc (.cells (c3 a1 b1 c1) 24) = w2 at *
  generalize w1.heap.size = ga at *
  clear hBx
  go_wp2_with fail
  go_at_call 10
  refine (r1 _ h0).mono ?_
  rintro e w3 ⟨rfl, hB1⟩
  have hAb := below_alloc w3 (.cells (c3 a1 b1 c1) 24)
  have hrb := Rowed.new w3 24 (c3 a1 b1 c1)
  have hBx := below_trans hB1 hAb
  have hltb := hrb.lt
  have h0 := h0.next hBx
  have h1 := h1.next hBx
  have hT := hT.below hBx
  have hr := hr.below hBx hlt
  have hlt := hr.lt
  have hra := hra.below hBx hlta
  have hlta := hra.lt
  have hA := below_trans hA hBx
  clear r1 hAb hB1
  go_upto_region 5 with fail
  generalize w3.alloc (.cells (c3 a1 b1 c1) 24) = w4 at *
  generalize w3.heap.size = gb at *
  clear hBx
  obtain ⟨k0, k1, k2⟩ := cells_of_row hr
  go_wp2_with fail
  go_at_call 11
  refine (o2 _).mono ?_
  rintro e w5 ⟨vp, rfl, hp, hBx⟩
  have h0 := h0.next hBx
  have h1 := h1.next hBx
  have hT := hT.below hBx
  have hr := hr.below hBx hlt
  have hlt := hr.lt
  have hra := hra.below hBx hlta
  have hlta := hra.lt
  have hrb := hrb.below hBx hltb
  have hltb := hrb.lt
  have hA := below_trans hA hBx
  clear o2 hBx k0 k1 k2
  obtain ⟨k0, k1, k2⟩ := cells_of_row hr
  go_wp2_with fail
  go_at_call 12
  refine (r2 _).mono ?_
  rintro e w6 ⟨vq, rfl, hq, hBx⟩
  have h0 := h0.next hBx
  have h1 := h1.next hBx
  have hT := hT.below hBx
  have hr := hr.below hBx hlt
  have hlt := hr.lt
  have hra := hra.below hBx hlta
  have hlta := hra.lt
  have hrb := hrb.below hBx hltb
  have hltb := hrb.lt
  have hp := hp.next hBx
  have hA := below_trans hA hBx
  clear r2 hBx k0 k1 k2
  go_wp2_with fail
  go_at_call 13
  refine (o3 _ h1).mono ?_
  rintro e w7 ⟨rfl, hB1⟩
  have hAu := below_alloc w7 (.cells (c3 a3 b3 c3') 24)
  have hru := Rowed.new w7 24 (c3 a3 b3 c3')
  have hBx := below_trans hB1 hAu
  have hltu := hru.lt
  have h0 := h0.next hBx
  have h1 := h1.next hBx
  have hT := hT.below hBx
  have hr := hr.below hBx hlt
  have hlt := hr.lt
  have hra := hra.below hBx hlta
  have hlta := hra.lt
  have hrb := hrb.below hBx hltb
  have hltb := hrb.lt
  have hp := hp.next hBx
  have hq := hq.next hBx
  have hA := below_trans hA hBx
  clear o3 hAu hB1
  go_upto_region 8 with fail
  generalize w7.alloc (.cells (c3 a3 b3 c3') 24) = w8 at *
  generalize w7.heap.size = gu at *
  clear hBx
  go_wp2_with fail
  go_at_call 14
  refine (r3 _ h1).mono ?_
  rintro e w9 ⟨rfl, hB1⟩
  have hAv := below_alloc w9 (.cells (c3 a3 b3 c3') 24)
  have hrv := Rowed.new w9 24 (c3 a3 b3 c3')
  have hBx := below_trans hB1 hAv
  have hltv := hrv.lt
  have h0 := h0.next hBx
  have hT := hT.below hBx
  have hr := hr.below hBx hlt
  have hlt := hr.lt
  have hra := hra.below hBx hlta
  have hlta := hra.lt
  have hrb := hrb.below hBx hltb
  have hltb := hrb.lt
  have hru := hru.below hBx hltu
  have hltu := hru.lt
  have hp := hp.next hBx
  have hq := hq.next hBx
  have hA := below_trans hA hBx
  clear r3 hAv hB1 h1
  go_upto_region 9 with fail
  generalize w9.alloc (.cells (c3 a3 b3 c3') 24) = w10 at *
  generalize w9.heap.size = gv at *
  clear hBx
  go_wp2_with fail
  go_at_call 15
  refine (o4 _ h0).mono ?_
  rintro e w11 ⟨hBx, vl, rfl, hl⟩
  have h0 := h0.next hBx
  have hT := hT.below hBx
  have hr := hr.below hBx hlt
  have hlt := hr.lt
  have hra := hra.below hBx hlta
  have hlta := hra.lt
  have hrb := hrb.below hBx hltb
  have hltb := hrb.lt
  have hru := hru.below hBx hltu
  have hltu := hru.lt
  have hrv := hrv.below hBx hltv
  have hltv := hrv.lt
  have hp := hp.next hBx
  have hq := hq.next hBx
  have hA := below_trans hA hBx
  clear o4 hBx
  go_wp2_with fail
  go_at_call 16
  refine (r4 _ h0).mono ?_
  rintro e w12 ⟨hBx, vm, rfl, hm⟩
  have hT := hT.below hBx
  have hr := hr.below hBx hlt
  have hlt := hr.lt
  have hra := hra.below hBx hlta
  have hrb := hrb.below hBx hltb
  have hru := hru.below hBx hltu
  have hrv := hrv.below hBx hltv
  have hp := hp.next hBx
  have hq := hq.next hBx
  have hl := hl.next hBx
  have hA := below_trans hA hBx
  clear r4 hBx h0 hlta hltb hltu hltv
  obtain ⟨Al, cl, rfl⟩ := hl.len
  obtain ⟨Am, cm, rfl⟩ := hm.len
  have e1 := run_str (P := Tryd.prog) hp 22 9 5 Tryd.underlying22 Tryd.underlying5 Tryd.underlying9
  have e2 := run_str (P := Tryd.prog) hq 22 9 5 Tryd.underlying22 Tryd.underlying5 Tryd.underlying9
  obtain ⟨p0, p1, p2⟩ := cells_of_row hra
  obtain ⟨q0, q1, q2⟩ := cells_of_row hrb
  obtain ⟨s0, s1, s2⟩ := cells_of_row hru
  obtain ⟨t0, t1, t2⟩ := cells_of_row hrv
  obtain ⟨Ap, cp, rfl⟩ := hp.len
  obtain ⟨Aq, cq, rfl⟩ := hq.len
  clear hra hrb hru hrv hp hq
  go_wp2_with fail
  clear p0 p1 p2 q0 q1 q2 s0 s1 s2 t0 t1 t2 e1 e2 g1 g2 g3 g4 g5 hE1 hE3
  go_loopw [23] (fun i wr => ∃ k : Nat, k ≤ RL.length ∧ i = .int .i64 k ∧ Below w12.heap.size w12 wr) (fun i _ => RL.length - (intOf i).toNat)
  case atStart => exact ⟨0, Nat.zero_le _, rfl, Below.refl _ _⟩
  case round =>
    obtain ⟨k, hk, rfl, hB⟩ := hrel
    by_cases hlt' : k < RL.length
    · obtain ⟨bk, off, rfl, hb1, hcl1⟩ := hl.read hlt'
      obtain ⟨bk2, off2, rfl, hb2, hcl2⟩ := hm.read hlt'
      have u1 := (hB.cell (p := ⟨bk, off + k, none⟩) hb1).trans hcl1
      have u2 := (hB.cell (p := ⟨bk2, off2 + k, none⟩) hb2).trans hcl2
      have hkl : (k : Int) < RL.length := by omega
      have Hk := Lib.hid hlt'
      clear hcl1 hcl2 hl hm
      generalize RL[k] = q at *
      clear hlt'
      have gq : (q != q) = false := by simp
      go_wp2_with fail
      go_quiet (fail)
      go_wp2_with fail
      go_roundw
      case rel => exact ⟨k + 1, by have := Hk.out; omega, by go_num, hB.trans ⟨rfl, rfl, rfl, Nat.le_refl _, fun _ _ => rfl⟩⟩
      case measure => have := Hk.out; simp [intOf]; omega
    · obtain rfl : k = RL.length := by omega
      have hTr := hT.below hB
      have hrr := hr.below hB hlt
      have hltr := hrr.lt
      have hAr := below_trans hA hB
      clear hl hm hB hT hr hA hlt hlt' hk
      have hrd : Rowed wr.drew w.heap.size 24 (c3 a b c) := hrr
      have hTd : Tab wr.drew := hTr
      have hld : w.heap.size < wr.drew.heap.size := hltr
      have hAd : Below w.heap.size w wr.drew := hAr.trans ⟨rfl, rfl, rfl, Nat.le_refl _, fun _ _ => rfl⟩
      have ld1 : ∀ w', Below wr.drew.heap.size wr.drew w' → (Instr.loadAt 24 (.pointer (some ⟨w.heap.size, 0, none⟩))).run Tryd.prog w' = .ok (v3 a b c) w' := fun w' hB => run_loadAt_row w' w.heap.size _ 24 _ _ _ (hrd.below hB hld) Tryd.underlying24 rfl (size_c3 a b c)
      have hw2 : ∀ w', Below wr.drew.heap.size wr.drew w' → Calls Tryd.prog 8 #[] w' fun e w'' => e = .returned (.bool true) ∧ Below w'.heap.size w' w'' := fun w' hB => hw w' (hTd.below hB)
      have hS0 : Below wr.drew.heap.size wr.drew wr.drew := Below.refl _ _
      clear hw hTr hrr hltr hAr hrd hTd hld
      go_wp2_with fail
      refine wp_region_det (Below wr.drew.heap.size wr.drew) [(123, v3 a b c), (124, .int .i64 n), (125, .bool rb), (126, v3 a b c), (127, .int .i64 n), (128, .bool rb), (129, .bool true), (130, .bool true), (131, .int .i64 n), (132, .int .i64 k6), (133, .int .i64 n), (134, .int .i64 k6), (135, .bool true), (136, .bool true), (137, .bool true), (138, .bool true), (139, .bool true), (8, .bool true)]
        (by kernel_rfl) (by kernel_rfl) (by kernel_rfl) (by kernel_rfl) (by kernel_rfl) hS0 ?ok1 ?fin1
      case ok1 =>
        intro A hA
        simp only [putAll, Act.put, List.setIfInBounds_toArray, List.set_cons_zero, List.set_cons_succ] at hA
        subst hA
        simp only [detAll]
        refine ⟨?_, ?_, ?_, ?_, ?_, ?_, ?_, ?_, ?_, ?_, ?_, ?_, ?_, ?_, ?_, ?_, ?_, ?_, trivial⟩
        all_goals first
          | exact det_load 24 (.tmp 5) rfl rfl _ ld1 rfl
          | (intro w' hS'
             clear ld1
             go_simp
             first
               | exact hS'
               | exact ⟨rfl, hS'⟩
               | (go_at_call 17; refine (o5 _).mono ?_; rintro e w'' ⟨rfl, hB⟩; exact ⟨rfl, below_trans hS' hB⟩)
               | (go_at_call 18; refine (r5 _).mono ?_; rintro e w'' ⟨rfl, hB⟩; exact ⟨rfl, below_trans hS' hB⟩)
               | (go_at_call 19; refine (o6 _).mono ?_; rintro e w'' ⟨rfl, hB⟩; exact ⟨rfl, below_trans hS' hB⟩)
               | (go_at_call 20; refine (r6 _).mono ?_; rintro e w'' ⟨rfl, rfl⟩; exact ⟨rfl, hS'⟩)
               | (go_at_call 8; refine (hw2 _ hS').mono ?_; rintro e w'' ⟨rfl, hB⟩; exact ⟨rfl, below_trans hS' hB⟩)
               | done)
      case fin1 =>
        intro A hA w6 hS6
        simp only [putAll, Act.put, List.setIfInBounds_toArray, List.set_cons_zero, List.set_cons_succ] at hA
        subst hA
        clear ld1
        go_wp2_with fail
        go_ret
        exact ⟨rfl, below_trans hAd hS6⟩
set_option maxRecDepth 100000 in
set_option maxHeartbeats 1000000 in
theorem SumsTells_any (v0 : Value) (x : List UInt8) (a b c n : Int) (v1 : Value) (bs : List UInt8) (w : World) (h0 : Sl eB w.heap.size w v0 x) (h1 : Sl eB w.heap.size w v1 bs) (hT : Tab w) :
    Calls Tryd.prog 3 #[v0, v3 a b c, .int .i64 n, v1] w fun e w' => e = .returned (.bool true) ∧ Below w.heap.size w w' := by
  have hw := wakes_any
  have hcl : (v3 a b c).cells = c3 a b c := rfl
  have hA := below_alloc w (.cells (c3 a b c) 24)
  by_cases hs : 1100 < x.length
  · have d1 : decide ((1100 : Int) < (x.length : Int)) = true := decide_eq_true (by omega)
    obtain ⟨A0, c0, rfl⟩ := h0.len
    obtain ⟨A1, c1, rfl⟩ := h1.len
    have hT := hT.below hA
    go_enter Tryd.func3, Tryd.ntmps3
    go_wp2_with fail
    generalize w.alloc (.cells (c3 a b c) 24) = w0 at *
    go_at_call 8
    refine (hw _ hT).mono ?_
    rintro e w' ⟨rfl, hB⟩
    go_wp2_with fail
    go_ret
    exact ⟨rfl, below_trans hA hB⟩
  by_cases ht : 60 < bs.length
  · have d1 : decide ((1100 : Int) < (x.length : Int)) = false := decide_eq_false (by omega)
    have d2 : decide ((60 : Int) < (bs.length : Int)) = true := decide_eq_true (by omega)
    obtain ⟨A0, c0, rfl⟩ := h0.len
    obtain ⟨A1, c1, rfl⟩ := h1.len
    have hT := hT.below hA
    go_enter Tryd.func3, Tryd.ntmps3
    go_wp2_with fail
    generalize w.alloc (.cells (c3 a b c) 24) = w0 at *
    go_at_call 8
    refine (hw _ hT).mono ?_
    rintro e w' ⟨rfl, hB⟩
    go_wp2_with fail
    go_ret
    exact ⟨rfl, below_trans hA hB⟩
  exact SumsTells_yes v0 v1 x bs a b c n w h0 h1 hT (by omega) (by omega)
end Go.Proofs.YtheealkoooiloaaDoor
