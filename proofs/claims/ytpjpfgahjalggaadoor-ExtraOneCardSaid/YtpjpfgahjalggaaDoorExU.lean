/- ExtraOne. -/
import Derived.Test.YtpjpfgahjalggaaDoorExP
namespace Go.Proofs.YtpjpfgahjalggaaDoor
open Go.RowKit Go.Shelf
attribute [local go_sem] Oper.semAt_some run_store_func

set_option maxRecDepth 100000 in
set_option maxHeartbeats 4000000 in
theorem ExtraOne_main (sv : Value) (y : List UInt8) (a b c : Int) (h3 : 3 ≤ y.length) (h60 : y.length ≤ 60) (hR1 : rightB a b c ((y.length : Int) - 1) = true) (h4 : FourL y) (w : World) (hS : Sl eB w.heap.size w sv y) (hT : Tab w) :
    Calls Tryd.prog 5 #[sv, v3 a b c] w fun e w' => e = .returned (.bool true) ∧ Below w.heap.size w w' := by
  have h9 : y.length ≤ 1000 := by omega
  have hw := ewakes_any
  have hg : findE y a b c = match (List.range y.length).find? (hitE y a b c) with
    | none => .error 130
    | some p => .ok p := by rw [findE, if_neg (by rw [hR1]; simp; omega), if_neg ((fourL_iff y).1 h4)]; cases (List.range y.length).find? (hitE y a b c) <;> rfl
  have Hhit : Hid (∀ k, k < y.length → hitE y a b c k = true → (∀ j, j < k → hitE y a b c j = false) → fX y a b c = delW y k ∧ fK y a b c = (k : Int) ∧ fM y a b c = 0) := Lib.hid fun k hk hh hno => find_facts (by rw [hg, firstG (n := y.length) hk hh hno])
  have Hno : Hid ((∀ j, j < y.length → hitE y a b c j = false) → fX y a b c = [] ∧ fK y a b c = 0 ∧ fM y a b c = 130) := Lib.hid fun hno => by
    have : findE y a b c = .error 130 := by rw [hg, noneG (n := y.length) hno]
    unfold fX fK fM
    rw [this]
    exact ⟨rfl, rfl, rfl⟩
  have hR := fun w => refRight_any a b c ((y.length : Int) - 1) w
  rw [hR1] at hR
  have hC := fun v w hS => rOf_any v y (by omega) w hS
  have hF := fun v w => Find_both y a b c (by omega) v w
  have hsb := four_sums y (by omega) h9 h4
  have hA := below_alloc w (.cells (c3 a b c) 24)
  have hcl : ∀ a b c : Int, (v3 a b c).cells = c3 a b c := fun _ _ _ => rfl
  have hr := Rowed.new w 24 (c3 a b c)
  have k0 := hr.cell 0
  have k1 := hr.cell 1
  have k2 := hr.cell 2
  have hcl1 := hcl a b c
  have hWo : Hid (∀ k : Nat, k < y.length → ∀ v w, Sl eB w.heap.size w v y → Calls Tryd.prog 13 #[v, .int .i64 k] w fun e w' => ∃ u, e = .returned u ∧ Sl eB w'.heap.size w' u (delW y k) ∧ Below w.heap.size w w') := Lib.hid fun k hk v w hS => by
    have := rWithout_any v y k (by omega) w hS
    rwa [withG, if_pos (by omega), Int.toNat_natCast] at this
  have hOf : Hid (∀ k : Nat, k < y.length → ∀ v w, Sl eB w.heap.size w v (delW y k) → Calls Tryd.prog 14 #[v] w fun e w' => Below w.heap.size w w' ∧ e = .returned (.tuple #[v3 (s1G y k) (s2G y k) (s3G y k), .int .i64 0])) := Lib.hid fun k hk v w hS => by
    have hl := delW_length y k hk
    refine (rOf_any v (delW y k) (by omega) w hS).mono ?_
    rintro e w' ⟨hB, ⟨x1, x2, x3, e1, e2⟩ | ⟨m, e1, -⟩⟩
    · rw [del_sums y k hk h3 (by omega) h4] at e1
      cases e1
      exact ⟨hB, e2⟩
    · rw [del_sums y k hk h3 (by omega) h4] at e1
      cases e1
  obtain ⟨A, cap, rfl⟩ := hS.len
  have d1 : decide ((y.length : Int) < 3) = false := decide_eq_false (by omega)
  have d1' : ¬ y.length < 3 := by omega
  have d2 : decide ((60 : Int) < (y.length : Int)) = false := decide_eq_false (by omega)
  have d2' : ¬ 60 < y.length := by omega
  have hwr := wrap64_mid ((y.length : Int) - 1) (by omega) (by omega)
  have hT := hT.below hA
  clear hR1 h4 hg
  go_enter Tryd.func5, Tryd.ntmps5
  go_wp2_with fail
  go_at_call 16
  refine (hR _).mono ?_
  rintro e w1 ⟨rfl, hB⟩
  have hr := hr.below hB hr.lt
  have hT := hT.below hB
  have hB := below_trans hA hB
  have hS := hS.next hB
  clear hR hA k0 k1 k2
  go_wp2_with fail
  go_at_call 14
  refine (hC _ _ hS).mono ?_
  rintro e w2 ⟨hB2, ⟨x1, x2, x3, e1, rfl⟩ | ⟨m, e1, -⟩⟩
  case inr => rw [hsb] at e1; cases e1
  clear e1 hsb hC
  have hcl2 := hcl x1 x2 x3
  have hr := hr.below hB2 hr.lt
  have hB := below_trans hB hB2
  have hS := hS.next hB2
  have hT := hT.below hB2
  have hA3 := below_alloc w2 (.cells (c3 x1 x2 x3) 24)
  have hr := hr.below hA3 hr.lt
  have hB := below_trans hB hA3
  have hS := hS.next hA3
  have hT := hT.below hA3
  have k0 := hr.cell 0
  have k1 := hr.cell 1
  have k2 := hr.cell 2
  clear hA3 hB2
  go_wp2_with fail
  go_at_call 8
  refine (hF _ _ hT hS).mono ?_
  rintro e w3 ⟨u, rfl, hX, hB3⟩
  have hr := hr.below hB3 hr.lt
  have hB := below_trans hB hB3
  have hS := hS.next hB3
  have hT := hT.below hB3
  clear hB3 hF k0 k1 k2
  obtain ⟨Ax, cx, rfl⟩ := hX.len
  generalize fX y a b c = X at *
  generalize fK y a b c = K at *
  generalize fM y a b c = M at *
  go_wp2_with fail
  go_loopw [10] (fun i wr => ∃ k : Nat, k ≤ y.length ∧ i = .int .i64 k ∧ (∀ j, j < k → hitE y a b c j = false) ∧ Below w3.heap.size w3 wr) (fun i _ => y.length - (intOf i).toNat)
  case atStart => exact ⟨0, Nat.zero_le _, rfl, fun j hj => absurd hj (by omega), Below.refl _ _⟩
  case round =>
    obtain ⟨k, hk, rfl, hno, hBw⟩ := hrel
    have hS := hS.next hBw
    have hT := hT.below hBw
    have hX := hX.next hBw
    have hr := hr.below hBw hr.lt
    by_cases hlt : k < y.length
    · have hki : (k : Int) < (y.length : Int) := by omega
      have hW := hWo.out k hlt _ _ hS
      have hW2 := Lib.hid (hWo.out k hlt)
      have hO := hOf.out k hlt
      have hkd : decide ((k : Int) < (y.length : Int)) = true := decide_eq_true hki
      have hw1 := wrap64_succ k (by omega)
      have Hm := Lib.hid hlt
      have HnoK := Lib.hid hno
      have hEq := fun w => eqS (s1G y k) (s2G y k) (s3G y k) a b c w
      rw [show (s1G y k == a && (s2G y k == b && s3G y k == c)) = hitE y a b c k from rfl] at hEq
      clear hno hlt hk
      go_wp2_with fail
      go_at_call 13
      refine hW.mono ?_
      rintro e w4 ⟨u, rfl, hu, hB4⟩
      have hr := hr.below hB4 hr.lt
      have hS := hS.next hB4
      have hT := hT.below hB4
      have hX := hX.next hB4
      have hB4 := below_trans hBw hB4
      clear hW
      go_wp2_with fail
      go_at_call 14
      refine (hO _ _ hu).mono ?_
      rintro e w5 ⟨hB5, rfl⟩
      have hr := hr.below hB5 hr.lt
      have hcl3 := hcl (s1G y k) (s2G y k) (s3G y k)
      have hA6 := below_alloc w5 (.cells (c3 (s1G y k) (s2G y k) (s3G y k)) 24)
      have hr := hr.below hA6 hr.lt
      have hB56 := below_trans hB5 hA6
      have hS := hS.next hB56
      have hT := hT.below hB56
      have hX := hX.next hB56
      have hB6 := below_trans hB4 hB56
      have hr2 := Rowed.new w5 24 (c3 (s1G y k) (s2G y k) (s3G y k))
      have q0 := hr.cell 0
      have q1 := hr.cell 1
      have q2 := hr.cell 2
      have t0 := hr2.cell 0
      have t1 := hr2.cell 1
      have t2 := hr2.cell 2
      obtain ⟨A2, c2, rfl⟩ := hu.len
      clear hO hB4 hB5 hA6 hB56 hu
      cases hq : hitE y a b c k with
      | true =>
        rw [hq] at hEq
        obtain ⟨rfl, rfl, rfl⟩ := Hhit.out k Hm.out hq HnoK.out
        clear hq Hhit Hno
        go_wp2_with fail
        generalize w5.alloc (.cells #[.int .i64 (s1G y k), .int .i64 (s2G y k), .int .i64 (s3G y k)] 24) = w6 at *
        refine wp_region_ghost (CallS [(12, .b (delW y k))] w6.drew) (fun g => [(73, .int .i64 0), (74, .bool true), (75, .bool true), (76, .int .i64 k), (77, .int .i64 k), (78, .bool true), (79, .bool true), (80, .bool true), (81, .slice Ax (delW y k).length cx), (82, .string ⟨(delW y k).toArray⟩), (83, .slice A y.length cap), (84, .int .i64 k), (85, g 12), (86, .string ⟨(delW y k).toArray⟩), (87, .bool true), (88, .bool true), (89, .bool true), (90, .bool true), (91, .bool true), (4, .bool true)]) (fun _ => undef)
          (by kernel_rfl) (by kernel_rfl) (by kernel_rfl) (by kernel_rfl) (fun _ => by kernel_rfl) ?startA ?okA ?finA
        case startA =>
          intro D hD
          refine CallS.start fun c hc => ?_
          simp only [List.mem_cons, List.not_mem_nil, or_false] at hc
          rcases hc with rfl <;> exact hD _ (by simp)
        case okA =>
          intro T hT'
          simp only [putAll, Act.put, List.setIfInBounds_toArray, List.set_cons_zero, List.set_cons_succ] at hT'
          have hSd : Sl eB w6.drew.heap.size w6.drew (.slice A y.length cap) y := hS
          have hTd : Tab w6.drew := hT.below (below_drew_w w6)
          have hud : Sl eB w6.drew.heap.size w6.drew (.slice Ax (delW y k).length cx) (delW y k) := hX
          simp only [ghAll]
          refine ⟨?_, ?_, ?_, ?_, ?_, ?_, ?_, ?_, ?_, ?_, ?_, ?_, ?_, ?_, ?_, ?_, ?_, ?_, ?_, ?_, trivial⟩
          · refine gc_op rfl fun D g w' hdp h => ?_
            rw [hT' g]
            clear hT'
            go_simp
            exact Below.refl _ _
          · refine gc_op rfl fun D g w' hdp h => ?_
            rw [hT' g]
            clear hT'
            go_simp
            exact Below.refl _ _
          · refine gc_op rfl fun D g w' hdp h => ?_
            rw [hT' g]
            clear hT'
            go_simp
            exact Below.refl _ _
          · refine gc_op rfl fun D g w' hdp h => ?_
            rw [hT' g]
            clear hT'
            go_simp
            exact Below.refl _ _
          · refine gc_op rfl fun D g w' hdp h => ?_
            rw [hT' g]
            clear hT'
            go_simp
            exact Below.refl _ _
          · refine gc_op rfl fun D g w' hdp h => ?_
            rw [hT' g]
            clear hT'
            go_simp
            exact Below.refl _ _
          · refine gc_op rfl fun D g w' hdp h => ?_
            rw [hT' g]
            clear hT'
            go_simp
            exact Below.refl _ _
          · refine gc_op rfl fun D g w' hdp h => ?_
            rw [hT' g]
            clear hT'
            go_simp
            exact Below.refl _ _
          · refine gc_op rfl fun D g w' hdp h => ?_
            rw [hT' g]
            clear hT'
            go_simp
            exact Below.refl _ _
          · refine gc_conv 22 9 _ rfl _ rfl (fun g => by rw [hT' g]; rfl) (fun D g w' hdp h => by
              rw [hT' g]
              exact str_of (hud.next h.1)) (fun g => by rw [hT' g]; rfl)
          · refine gc_op rfl fun D g w' hdp h => ?_
            rw [hT' g]
            clear hT'
            go_simp
            exact Below.refl _ _
          · refine gc_op rfl fun D g w' hdp h => ?_
            rw [hT' g]
            clear hT'
            go_simp
            exact Below.refl _ _
          · refine gc_call (r := .b (delW y k)) rfl rfl (by simp) (fun g v => by rw [hT', hT']; rfl) (fun g => by rw [hT' g]; rfl) (fun D g w' hdp h => by
              rw [hT' g]
              unfold Oper.wp
              go_simp
              refine (hW2.out _ _ (hSd.next h.1)).mono ?_
              rintro e w3 ⟨v, rfl, hv, hC⟩
              exact ⟨hv, hC⟩)
          · refine gc_conv 22 9 _ rfl _ rfl (fun g => by rw [hT' g]; rfl) (fun D g w' hdp h => by
              have h3 := h.2 (12, .b (delW y k)) (by simp) (dep_on hdp (by kernel_rfl))
              rw [hT' g]
              exact str_of h3) (fun g => by rw [hT' g]; rfl)
          · refine gc_op rfl fun D g w' hdp h => ?_
            rw [hT' g]
            clear hT'
            go_simp
            exact Below.refl _ _
          · refine gc_op rfl fun D g w' hdp h => ?_
            rw [hT' g]
            clear hT'
            go_simp
            exact Below.refl _ _
          · refine gc_op rfl fun D g w' hdp h => ?_
            rw [hT' g]
            clear hT'
            go_simp
            exact Below.refl _ _
          · refine gc_op rfl fun D g w' hdp h => ?_
            rw [hT' g]
            clear hT'
            go_simp
            refine (hw _ (hTd.below h.1)).mono ?_
            rintro e w3 ⟨rfl, hC⟩
            exact ⟨rfl, hC⟩
          · refine gc_op rfl fun D g w' hdp h => ?_
            rw [hT' g]
            clear hT'
            go_simp
            exact Below.refl _ _
          · refine gc_op rfl fun D g w' hdp h => ?_
            rw [hT' g]
            clear hT'
            go_simp
            exact Below.refl _ _
        case finA =>
          intro T hT' D g WF hall ⟨s1, _⟩
          have hTg := hT' g
          simp only [putAll, Act.put, List.setIfInBounds_toArray, List.set_cons_zero, List.set_cons_succ] at hTg
          rw [hTg]
          clear hT' hTg hall
          have hB2 := below_trans hB6 (below_trans (below_drew_w w6) s1)
          clear s1
          go_wp2_with fail
          go_ret
          exact ⟨rfl, below_trans hB hB2⟩
      | false =>
        rw [hq] at hEq
        have Hne := Lib.hid (show ∀ j, j < k + 1 → hitE y a b c j = false from fun j hj => by
          by_cases h : j = k
          · rw [h]; exact hq
          · exact HnoK.out j (by omega))
        clear hq
        go_wp2_with fail
        go_roundw
        case rel => exact ⟨k + 1, by have := Hm.out; omega, by go_num, Hne.out, hB6⟩
        case measure => have := Hm.out; simp [intOf]; omega
    · obtain rfl : k = y.length := by omega
      have hkd : decide ((y.length : Int) < (y.length : Int)) = false := decide_eq_false (by omega)
      obtain ⟨rfl, rfl, rfl⟩ := Hno.out hno
      clear hno hlt hk Hno Hhit
      go_wp2_with fail
      go_at_call 7
      refine (hw _ hT).mono ?_
      rintro e w7 ⟨rfl, hB7⟩
      go_wp2_with fail
      go_ret
      exact ⟨rfl, below_trans (below_trans hB hBw) hB7⟩
set_option maxRecDepth 100000 in
set_option maxHeartbeats 4000000 in
theorem ExtraOne_bad (sv : Value) (y : List UInt8) (a b c : Int) (h3 : 3 ≤ y.length) (h60 : y.length ≤ 60) (hR1 : rightB a b c ((y.length : Int) - 1) = true) (hbad : (-1 : Int) ∈ codesOf y) (w : World) (hS : Sl eB w.heap.size w sv y) (hT : Tab w) :
    Calls Tryd.prog 5 #[sv, v3 a b c] w fun e w' => e = .returned (.bool true) ∧ Below w.heap.size w w' := by
  have h9 : y.length ≤ 1000 := by omega
  have hw := ewakes_any
  have hg : findE y a b c = .error 10 := by rw [findE, if_neg (by rw [hR1]; simp; omega), if_pos hbad]
  have hF := fun v w => Find_both y a b c (by omega) v w
  have e1 : fX y a b c = [] := by unfold fX; rw [hg]
  have e2 : fK y a b c = 0 := by unfold fK; rw [hg]
  have e3 : fM y a b c = 10 := by unfold fM; rw [hg]
  rw [e1, e2, e3] at hF
  have hR := fun w => refRight_any a b c ((y.length : Int) - 1) w
  rw [hR1] at hR
  have hC := fun v w hS => rOf_any v y (by omega) w hS
  have hsb := sums_bad y (by omega) h9 hbad
  have hA := below_alloc w (.cells (c3 a b c) 24)
  have hcl : (v3 a b c).cells = c3 a b c := rfl
  have hcl0 : (v3 0 0 0).cells = c3 0 0 0 := rfl
  have hr := Rowed.new w 24 (c3 a b c)
  have k0 := hr.cell 0
  have k1 := hr.cell 1
  have k2 := hr.cell 2
  obtain ⟨A, cap, rfl⟩ := hS.len
  have d1 : decide ((y.length : Int) < 3) = false := decide_eq_false (by omega)
  have d1' : ¬ y.length < 3 := by omega
  have d2 : decide ((60 : Int) < (y.length : Int)) = false := decide_eq_false (by omega)
  have d2' : ¬ 60 < y.length := by omega
  have hwr := wrap64_mid ((y.length : Int) - 1) (by omega) (by omega)
  have hT := hT.below hA
  clear hR1 hbad hg e1 e2 e3
  go_enter Tryd.func5, Tryd.ntmps5
  go_wp2_with fail
  go_at_call 16
  refine (hR _).mono ?_
  rintro e w1 ⟨rfl, hB⟩
  have hr := hr.below hB hr.lt
  have hT := hT.below hB
  have hB := below_trans hA hB
  have hS := hS.next hB
  clear hR hA k0 k1 k2
  go_wp2_with fail
  go_at_call 14
  refine (hC _ _ hS).mono ?_
  rintro e w2 ⟨hB2, ⟨x1, x2, x3, e1, -⟩ | ⟨m, e1, rfl⟩⟩
  case inl => rw [hsb] at e1; cases e1
  rw [hsb] at e1
  cases e1
  clear hsb hC
  have hr := hr.below hB2 hr.lt
  have hA3 := below_alloc w2 (.cells (c3 0 0 0) 24)
  have hr := hr.below hA3 hr.lt
  have hB23 := below_trans hB2 hA3
  have hB := below_trans hB hB23
  have hS := hS.next hB23
  have hT := hT.below hB23
  have k0 := hr.cell 0
  have k1 := hr.cell 1
  have k2 := hr.cell 2
  clear hA3 hB2 hB23
  go_wp2_with fail
  go_at_call 8
  refine (hF _ _ hT hS).mono ?_
  rintro e w3 ⟨u, rfl, hX, hB3⟩
  have hB := below_trans hB hB3
  have hT := hT.below hB3
  clear hB3 hF k0 k1 k2 hr
  obtain ⟨Ax, cx, rfl⟩ := hX.len
  clear hX
  go_wp2_with fail
  go_at_call 7
  refine (hw _ hT).mono ?_
  rintro e w7 ⟨rfl, hB7⟩
  go_wp2_with fail
  go_ret
  exact ⟨rfl, below_trans hB hB7⟩
set_option maxRecDepth 100000 in
set_option maxHeartbeats 4000000 in
theorem ExtraOne_out (sv : Value) (y : List UInt8) (a b c : Int) (h : y.length < 3 ∨ 60 < y.length ∨ rightB a b c ((y.length : Int) - 1) = false) (w : World) (hS : Sl eB w.heap.size w sv y) (hT : Tab w) :
    Calls Tryd.prog 5 #[sv, v3 a b c] w fun e w' => e = .returned (.bool true) ∧ Below w.heap.size w w' := by
  have hw := ewakes_any
  have hR := fun w => refRight_any a b c ((y.length : Int) - 1) w
  have hA := below_alloc w (.cells (c3 a b c) 24)
  have hcl : (v3 a b c).cells = c3 a b c := rfl
  have hr := Rowed.new w 24 (c3 a b c)
  have k0 := hr.cell 0
  have k1 := hr.cell 1
  have k2 := hr.cell 2
  have hT := hT.below hA
  obtain ⟨A, cap, rfl⟩ := hS.len
  have hd : (y.length < 3 ∧ decide ((y.length : Int) < 3) = true) ∨ (¬ y.length < 3 ∧ decide ((y.length : Int) < 3) = false ∧ 60 < y.length ∧ decide ((60 : Int) < (y.length : Int)) = true) ∨ (¬ y.length < 3 ∧ decide ((y.length : Int) < 3) = false ∧ ¬ 60 < y.length ∧ decide ((60 : Int) < (y.length : Int)) = false ∧ rightB a b c ((y.length : Int) - 1) = false ∧ wrap64 ((y.length : Int) - 1) = (y.length : Int) - 1) := by
    by_cases h0 : y.length < 3
    · exact .inl ⟨h0, decide_eq_true (by omega)⟩
    · by_cases h1 : 60 < y.length
      · exact .inr (.inl ⟨h0, decide_eq_false (by omega), h1, decide_eq_true (by omega)⟩)
      · exact .inr (.inr ⟨h0, decide_eq_false (by omega), h1, decide_eq_false (by omega), by rcases h with h | h | h <;> first | exact h | omega, wrap64_mid _ (by omega) (by omega)⟩)
  clear h hS hr
  rcases hd with ⟨f1, d1⟩ | ⟨f1, d1, f2, d2⟩ | ⟨f1, d1, f2, d2, hf, hwr⟩
  · go_enter Tryd.func5, Tryd.ntmps5
    go_wp2_with fail
    go_at_call 7
    refine (hw _ hT).mono ?_
    rintro e w7 ⟨rfl, hB7⟩
    go_wp2_with fail
    go_ret
    exact ⟨rfl, below_trans hA hB7⟩
  · go_enter Tryd.func5, Tryd.ntmps5
    go_wp2_with fail
    go_at_call 7
    refine (hw _ hT).mono ?_
    rintro e w7 ⟨rfl, hB7⟩
    go_wp2_with fail
    go_ret
    exact ⟨rfl, below_trans hA hB7⟩
  · rw [hf] at hR
    go_enter Tryd.func5, Tryd.ntmps5
    go_wp2_with fail
    go_at_call 16
    refine (hR _).mono ?_
    rintro e w1 ⟨rfl, hB⟩
    have hT := hT.below hB
    go_wp2_with fail
    go_at_call 7
    refine (hw _ hT).mono ?_
    rintro e w7 ⟨rfl, hB7⟩
    go_wp2_with fail
    go_ret
    exact ⟨rfl, below_trans (below_trans hA hB) hB7⟩
theorem ExtraOne_any (sv : Value) (y : List UInt8) (a b c : Int) (w : World) (hS : Sl eB w.heap.size w sv y) (hT : Tab w) :
    Calls Tryd.prog 5 #[sv, v3 a b c] w fun e w' => e = .returned (.bool true) ∧ Below w.heap.size w w' := by
  by_cases h : y.length < 3 ∨ 60 < y.length ∨ rightB a b c ((y.length : Int) - 1) = false
  · exact ExtraOne_out sv y a b c h w hS hT
  · have hR : rightB a b c ((y.length : Int) - 1) = true := by
      cases hr : rightB a b c ((y.length : Int) - 1) with
      | true => rfl
      | false => exact absurd (.inr (.inr hr)) h
    by_cases hb : (-1 : Int) ∈ codesOf y
    · exact ExtraOne_bad sv y a b c (by omega) (by omega) hR hb w hS hT
    · exact ExtraOne_main sv y a b c (by omega) (by omega) hR ((fourL_iff y).2 hb) w hS hT
end Go.Proofs.YtpjpfgahjalggaaDoor
