/- ExtraFinds. -/
import Derived.Test.YtpjpfgahjalggaaDoorExN
import Derived.Deep.CutRange
import Derived.Deep.QuietTactic
namespace Go.Proofs.YtpjpfgahjalggaaDoor
open Go.RowKit Go.Shelf
attribute [local go_sem] Oper.semAt_some run_store_func

theorem find_facts {y : List UInt8} {a b c : Int} {k : Nat} (h : findE y a b c = .ok k) : fX y a b c = delW y k ∧ fK y a b c = (k : Int) ∧ fM y a b c = 0 := by
  unfold fX fK fM
  rw [h]
  exact ⟨rfl, rfl, rfl⟩
set_option maxRecDepth 100000 in
set_option maxHeartbeats 4000000 in
theorem ExtraFinds_main (v0 : Value) (x y : List UInt8) (z : Int) (b : UInt8) (a1 a2 a3 : Int) (k : Nat) (w : World) (hS : Sl eB w.heap.size w v0 x) (hT : Tab w)
    (hO : ∀ v w, Sl eB w.heap.size w v x → Calls Tryd.prog 14 #[v] w fun e w' => e = .returned (.tuple #[v3 a1 a2 a3, .int .i64 0]) ∧ Below w.heap.size w w')
    (b1 b2 b3 : Int) (hP : ∀ v w, Sl eB w.heap.size w v y → Calls Tryd.prog 14 #[v] w fun e w' => e = .returned (.tuple #[v3 b1 b2 b3, .int .i64 0]) ∧ Below w.heap.size w w')
    (hA : ∀ v w, Sl eB w.heap.size w v x → Calls Tryd.prog 15 #[v, eD 2 z b] w fun e w' => ∃ v, e = .returned v ∧ Sl eB w'.heap.size w' v y ∧ Below w.heap.size w w')
    (h2 : x.length ≤ 200) (h9 : y.length ≤ 1000) (hk : k < y.length) (hd : delW y k = x) (hf : findE y a1 a2 a3 = .ok k) :
    Calls Tryd.prog 4 #[v0, .int .i64 z, .int .u8 (b.toNat : Int)] w fun e w' => e = .returned (.bool true) ∧ Below w.heap.size w w' := by
  have hw := ewakes_any
  have hF := fun v w => Find_both y a1 a2 a3 (by omega) v w
  obtain ⟨f1, f2, f3⟩ := find_facts hf
  rw [f1, f2, f3, hd] at hF
  have hW := fun v w => Without_any v y (k : Int) (by omega) w
  have hg : withG y (k : Int) = x := by
    rw [withG, if_pos ⟨by omega, by omega⟩]
    simpa using hd
  rw [hg] at hW
  have hcl : (v3 a1 a2 a3).cells = c3 a1 a2 a3 := rfl
  have hcl2 : (v3 b1 b2 b3).cells = c3 b1 b2 b3 := rfl
  have d1 : decide ((200 : Int) < (x.length : Int)) = false := decide_eq_false (by omega)
  have d2 : decide ((0 : Int) ≤ (k : Int)) = true := decide_eq_true (by omega)
  have d3 : decide ((k : Int) < (y.length : Int)) = true := decide_eq_true (by omega)
  have hB0 := Below.refl w.heap.size w
  obtain ⟨A0, c0, rfl⟩ := hS.len
  clear h2 h9 hd hf f1 f2 f3 hg
  have Hk := Lib.hid hk
  clear hk
  go_enter Tryd.func4, Tryd.ntmps4
  go_wp2_with fail
  go_at_call 14
  refine (hO _ _ hS).mono ?_
  rintro e w1 ⟨rfl, hC⟩
  have hC1 := below_alloc w1 (.cells (c3 a1 a2 a3) 24)
  have hr := Rowed.new w1 24 (c3 a1 a2 a3)
  have hC := below_trans hC hC1
  have hS := hS.next hC
  have hT := hT.below hC
  have hB0 := below_trans hB0 hC
  clear hC hC1
  go_wp2_with fail
  go_at_call 15
  refine (hA _ _ hS).mono ?_
  rintro e w2 ⟨u, rfl, hu, hC⟩
  have hr := hr.below hC hr.lt
  have hS := hS.next hC
  have hT := hT.below hC
  have hB0 := below_trans hB0 hC
  clear hC hO hA
  obtain ⟨A1, c1, rfl⟩ := hu.len
  go_wp2_with fail
  go_at_call 14
  refine (hP _ _ hu).mono ?_
  rintro e w3 ⟨rfl, hC⟩
  have hr := hr.below hC hr.lt
  have hC1 := below_alloc w3 (.cells (c3 b1 b2 b3) 24)
  have hr := hr.below hC1 hr.lt
  have hC := below_trans hC hC1
  have hS := hS.next hC
  have hu := hu.next hC
  have hT := hT.below hC
  have hB0 := below_trans hB0 hC
  have k0 := hr.cell 0
  have k1 := hr.cell 1
  have k2 := hr.cell 2
  clear hC hC1 hP
  go_wp2_with fail
  go_at_call 8
  refine (hF _ _ hT hu).mono ?_
  rintro e w4 ⟨q, rfl, hq, hC⟩
  have hS := hS.next hC
  have hu := hu.next hC
  have hT := hT.below hC
  have hB0 := below_trans hB0 hC
  clear hC hF k0 k1 k2 hr
  go_wp2_with fail
  refine wp_region_ghost (CallS [(22, .b x)] w4.drew) (fun g => [(49, .int .i64 0), (50, .bool true), (51, .bool true), (52, q), (53, .string ⟨x.toArray⟩), (54, .slice A0 x.length c0), (55, .string ⟨x.toArray⟩), (56, .bool true), (57, .bool true), (58, .bool true), (59, .int .i64 k), (60, .bool true), (61, .bool true), (62, .bool true), (63, .int .i64 k), (64, .slice A1 y.length c1), (65, .int .i64 y.length), (66, .bool true), (67, .bool true), (68, .bool true), (69, .slice A1 y.length c1), (70, .int .i64 k), (71, g 22), (72, .string ⟨x.toArray⟩), (73, .slice A0 x.length c0), (74, .string ⟨x.toArray⟩), (75, .bool true), (76, .bool true), (77, .bool true), (78, .bool true), (79, .bool true), (6, .bool true)]) (fun _ => undef)
    (by kernel_rfl) (by kernel_rfl) (by kernel_rfl) (by kernel_rfl) (fun _ => by kernel_rfl) ?startA ?okA ?finA
  case startA =>
    intro D hD
    refine CallS.start fun c hc => ?_
    simp only [List.mem_cons, List.not_mem_nil, or_false] at hc
    rcases hc with rfl
    exact hD _ (by simp)
  case okA =>
    intro T hT'
    simp only [putAll, Act.put, List.setIfInBounds_toArray, List.set_cons_zero, List.set_cons_succ] at hT'
    have hqd : Sl eB w4.drew.heap.size w4.drew q x := hq
    have hSd : Sl eB w4.drew.heap.size w4.drew (.slice A0 x.length c0) x := hS
    have hud : Sl eB w4.drew.heap.size w4.drew (.slice A1 y.length c1) y := hu
    have hTd : Tab w4.drew := hT.below (below_drew_w w4)
    simp only [ghAll]
    refine ⟨?_, ?_, ?_, ?_, ?_, ?_, ?_, ?_, ?_, ?_, ?_, ?_, ?_, ?_, ?_, ?_, ?_, ?_, ?_, ?_, ?_, ?_, ?_, ?_, ?_, ?_, ?_, ?_, ?_, ?_, ?_, ?_, trivial⟩
    all_goals first
      | (refine gc_conv 22 9 _ rfl _ rfl (fun g => by rw [hT' g]; rfl) (fun D g w' hdp h => by
           first
             | (rw [hT' g]; exact str_of (hqd.next h.1))
             | (rw [hT' g]; exact str_of (hSd.next h.1))
             | (have h3 := h.2 (22, .b x) (by simp) (dep_on hdp (by kernel_rfl)); rw [hT' g]; exact str_of h3)) (fun g => by rw [hT' g]; rfl))
      | (refine gc_call (r := .b x) rfl rfl (by simp) (fun g v => by rw [hT', hT']; rfl) (fun g => by rw [hT' g]; rfl) (fun D g w' hdp h => by
           rw [hT' g]
           unfold Oper.wp
           go_simp
           refine (hW _ _ (hud.next h.1)).mono ?_
           rintro e w3 ⟨v, rfl, hv, hC⟩
           exact ⟨hv.sl, hC⟩))
      | (refine gc_op rfl fun D g w' hdp h => ?_
         rw [hT' g]
         clear hT'
         go_simp
         first
           | exact Below.refl _ _
           | exact ⟨Hk.out, Below.refl _ _⟩
           | (refine (hw _ (hTd.below h.1)).mono ?_
              rintro e w3 ⟨rfl, hC⟩
              exact ⟨rfl, hC⟩))
  case finA =>
    intro T hT' D g WF hall ⟨s1, _⟩
    have hTg := hT' g
    simp only [putAll, Act.put, List.setIfInBounds_toArray, List.set_cons_zero, List.set_cons_succ] at hTg
    rw [hTg]
    clear hT' hTg
    have hB2 := below_trans hB0 (below_trans (below_drew_w w4) s1)
    clear hall s1
    go_wp2_with fail
    go_ret
    exact ⟨rfl, hB2⟩
end Go.Proofs.YtpjpfgahjalggaaDoor
