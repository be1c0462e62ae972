/- ExtraTells. -/
import Derived.Test.YtpjpfgahjalggaaDoorExW
import Derived.Test.YtpjpfgahjalggaaDoorGC
import Derived.Deep.CutRange
import Derived.Deep.QuietTactic
namespace Go.Proofs.YtpjpfgahjalggaaDoor
open Go.RowKit Go.Shelf
attribute [local go_sem] Oper.semAt_some run_store_func

set_option maxRecDepth 100000 in
set_option maxHeartbeats 4000000 in
theorem ExtraTells_main (v0 : Value) (y : List UInt8) (a b c z : Int) (w : World) (hS : Sl eB w.heap.size w v0 y) (hT : Tab w) (h2 : y.length ≤ 300) :
    Calls Tryd.prog 3 #[v0, v3 a b c, .int .i64 z] w fun e w' => e = .returned (.bool true) ∧ Below w.heap.size w w' := by
  have hw := ewakes_any
  have g1 := fun v w => Find_both y a b c (by omega) v w
  have q1 := fun v w => rFind_both y a b c v w
  have g2 := fun v w => Runs_any v y (by omega) w
  have q2 := fun v w => rRuns_any v y (by omega) w
  have g3 := fun v w => Without_any v y z (by omega) w
  have q3 := fun v w => rWithout_any v y z (by omega) w
  have Hrl := Lib.hid (Nat.le_trans (runsG_len y y.length) h2)
  have hcl : (v3 a b c).cells = c3 a b c := rfl
  have hr := Rowed.new w 24 (c3 a b c)
  have hA := below_alloc w (.cells (c3 a b c) 24)
  have hB0 := hA
  have k0 := hr.cell 0
  have k1 := hr.cell 1
  have k2 := hr.cell 2
  obtain ⟨A, cap, rfl⟩ := hS.len
  have d1 : decide ((300 : Int) < (y.length : Int)) = false := decide_eq_false (by omega)
  have hS1 := hS.next hA
  have hT1 := hT.below hA
  clear hA
  generalize fX y a b c = X at *
  generalize fK y a b c = K at *
  generalize fM y a b c = M at *
  generalize runsG y y.length = rl at *
  go_enter Tryd.func3, Tryd.ntmps3
  go_wp2_with fail
  go_at_call 8
  refine (g1 _ _ hT1 hS1).mono ?_
  rintro e w1 ⟨u1, rfl, hu1, hC⟩
  have hr := hr.below hC hr.lt
  have hS := hS1.next hC
  have hT := hT1.below hC
  have hB := below_trans hB0 hC
  clear g1 hC hB0 k0 k1 k2 hS1 hT1
  have k0 := hr.cell 0
  have k1 := hr.cell 1
  have k2 := hr.cell 2
  go_wp2_with fail
  go_at_call 9
  refine (q1 _ _ hS).mono ?_
  rintro e w2 ⟨u2, rfl, hu2, hC⟩
  have hS := hS.next hC
  have hu1 := hu1.next hC
  have hT := hT.below hC
  have hB := below_trans hB hC
  clear q1 hC k0 k1 k2 hr
  go_wp2_with fail
  go_at_call 10
  refine (g2 _ _ hS).mono ?_
  rintro e w3 ⟨u3, rfl, hu3, hC⟩
  have hS := hS.next hC
  have hu1 := hu1.next hC
  have hu2 := hu2.next hC
  have hT := hT.below hC
  have hB := below_trans hB hC
  clear g2 hC
  go_wp2_with fail
  go_at_call 11
  refine (q2 _ _ hS).mono ?_
  rintro e w4 ⟨u4, rfl, hu4, hC⟩
  have hS := hS.next hC
  have hu1 := hu1.next hC
  have hu2 := hu2.next hC
  have hu3 := hu3.next hC
  have hT := hT.below hC
  have hB := below_trans hB hC
  obtain ⟨A3, n3, rfl⟩ := hu3.len
  obtain ⟨A4, n4, rfl⟩ := hu4.len
  have s1 := str_of hu1
  have s2 := str_of hu2
  clear q2 hC hu1 hu2
  go_wp2_with fail
  clear s1 s2
  go_loopw [15] (fun i wr => ∃ k : Nat, k ≤ rl.length ∧ i = .int .i64 k ∧ Below w4.heap.size w4 wr) (fun i _ => rl.length - (intOf i).toNat)
  case atStart => exact ⟨0, Nat.zero_le _, rfl, Below.refl _ _⟩
  case round =>
    obtain ⟨k, hk, rfl, hBr⟩ := hrel
    by_cases hlt : k < rl.length
    · have hki : (k : Int) < (rl.length : Int) := by omega
      have hkd : decide ((k : Int) < (rl.length : Int)) = true := decide_eq_true hki
      have hl2 := hu3.next hBr
      have hm2 := hu4.next hBr
      obtain ⟨Al', kl', e, _, hlc⟩ := hl2
      injection e with e1 e2 e3
      subst e1 e3
      obtain ⟨Am', km', e, _, hmc⟩ := hm2
      injection e with e1 e2 e3
      subst e1 e3
      obtain ⟨bl, ol, rfl, _, hlc⟩ := hlc (by omega)
      obtain ⟨bm, om, rfl, _, hmc⟩ := hmc (by omega)
      have k1 := hlc k _ (List.getElem?_eq_getElem hlt)
      have k2 := hmc k _ (List.getElem?_eq_getElem hlt)
      have Hk := Lib.hid hlt
      have hk9 : k ≤ 1000000 := by have := Hrl.out; omega
      have hwk := wrap64_succ k hk9
      generalize rl[k] = g at *
      clear hlc hmc hlt g3 q3
      go_wp2_with fail
      go_quiet (fail)
      have hBq : Below w4.heap.size w4 (wr.drewN nq) := below_trans hBr ⟨rfl, rfl, rfl, Nat.le_refl _, fun _ _ => rfl⟩
      go_wp2_with fail
      go_roundw
      case rel => exact ⟨k + 1, by have := Hk.out; omega, by go_num, hBq⟩
      case measure => have := Hk.out; simp [intOf]; omega
    · obtain rfl : k = rl.length := by omega
      have hkd : decide ((rl.length : Int) < (rl.length : Int)) = false := decide_eq_false (by omega)
      have hS := hS.next hBr
      have hT := hT.below hBr
      have hB := below_trans hB hBr
      clear hBr hu3 hu4 hlt hk
      go_wp2_with fail
      generalize withG y z = Y at *
      refine wp_region_ghost (CallS [(2, .b Y), (6, .b Y)] wr.drew) (fun g => [(75, .slice A y.length cap), (76, .int .i64 z), (77, g 2), (78, .string ⟨Y.toArray⟩), (79, .slice A y.length cap), (80, .int .i64 z), (81, g 6), (82, .string ⟨Y.toArray⟩), (83, .bool true), (84, .bool true), (85, .bool true), (86, .bool true), (6, .bool true)]) (fun _ => undef)
        (by kernel_rfl) (by kernel_rfl) (by kernel_rfl) (by kernel_rfl) (fun _ => by kernel_rfl) ?startA ?okA ?finA
      case startA =>
        intro D hD
        refine CallS.start fun c hc => ?_
        simp only [List.mem_cons, List.not_mem_nil, or_false] at hc
        rcases hc with rfl | rfl <;> exact hD _ (by simp)
      case okA =>
        intro T hT'
        simp only [putAll, Act.put, List.setIfInBounds_toArray, List.set_cons_zero, List.set_cons_succ] at hT'
        have hSd : Sl eB wr.drew.heap.size wr.drew (.slice A y.length cap) y := hS
        have hTd : Tab wr.drew := hT.below (below_drew_w wr)
        simp only [ghAll]
        refine ⟨?_, ?_, ?_, ?_, ?_, ?_, ?_, ?_, ?_, ?_, ?_, ?_, ?_, trivial⟩
        all_goals first
          | (refine gc_conv 22 9 _ rfl _ rfl (fun g => by rw [hT' g]; rfl) (fun D g w' hdp h => by
               first
                 | (have h3 := h.2 (2, .b Y) (by simp) (dep_on hdp (by kernel_rfl)); rw [hT' g]; exact str_of h3)
                 | (have h3 := h.2 (6, .b Y) (by simp) (dep_on hdp (by kernel_rfl)); rw [hT' g]; exact str_of h3)) (fun g => by rw [hT' g]; rfl))
          | (refine gc_call (r := .b Y) rfl rfl (by simp) (fun g v => by rw [hT', hT']; rfl) (fun g => by rw [hT' g]; rfl) (fun D g w' hdp h => by
               rw [hT' g]
               unfold Oper.wp
               go_simp
               first
                 | (refine (g3 _ _ (hSd.next h.1)).mono ?_
                    rintro e w3 ⟨v, rfl, hv, hC⟩
                    exact ⟨hv.sl, hC⟩)
                 | (refine (q3 _ _ (hSd.next h.1)).mono ?_
                    rintro e w3 ⟨v, rfl, hv, hC⟩
                    exact ⟨hv, hC⟩)))
          | (refine gc_op rfl fun D g w' hdp h => ?_
             rw [hT' g]
             clear hT'
             go_simp
             first
               | exact Below.refl _ _
               | (refine (hw _ (hTd.below h.1)).mono ?_
                  rintro e w3 ⟨rfl, hC⟩
                  exact ⟨rfl, hC⟩))
      case finA =>
        intro T hT' D g WF hall ⟨s1, _⟩
        have hTg := hT' g
        simp only [putAll, Act.put, List.setIfInBounds_toArray, List.set_cons_zero, List.set_cons_succ] at hTg
        rw [hTg]
        clear hT' hTg
        have hB2 := below_trans hB (below_trans (below_drew_w wr) s1)
        clear hall s1
        go_wp2_with fail
        go_ret
        exact ⟨rfl, hB2⟩
theorem ExtraTells_any (v0 : Value) (y : List UInt8) (a b c z : Int) (w : World) (hS : Sl eB w.heap.size w v0 y) (hT : Tab w) :
    Calls Tryd.prog 3 #[v0, v3 a b c, .int .i64 z] w fun e w' => e = .returned (.bool true) ∧ Below w.heap.size w w' := by
  by_cases h : y.length ≤ 300
  · exact ExtraTells_main v0 y a b c z w hS hT h
  · have hw := ewakes_any
    have hcl : (v3 a b c).cells = c3 a b c := rfl
    have hA := below_alloc w (.cells (c3 a b c) 24)
    have hT := hT.below hA
    have d1 : decide ((300 : Int) < (y.length : Int)) = true := decide_eq_true (by omega)
    obtain ⟨A0, c0, rfl⟩ := hS.len
    clear h hS
    go_enter Tryd.func3, Tryd.ntmps3
    go_wp2_with fail
    go_at_call 7
    refine (hw _ hT).mono ?_
    rintro e w' ⟨rfl, hB⟩
    go_wp2_with fail
    go_ret
    exact ⟨rfl, below_trans hA hB⟩
end Go.Proofs.YtpjpfgahjalggaaDoor
