/- Contracts of helixref12.Right, helixref14.Find. -/
import Derived.Test.YtpjpfgahjalggaaDoorExI
import Derived.Test.YtpjpfgahjalggaaDoorExG
import Derived.Test.YtpjpfgahjalggaaDoorRoA
namespace Go.Proofs.YtpjpfgahjalggaaDoor
open Go.RowKit Go.Shelf
attribute [local go_sem] Oper.semAt_some run_store_func

theorem refmay_any (k : Int) (w : World) : Calls Tryd.prog 23 #[.int .i64 k] w fun e w' => e = .returned (.bool (mayB k)) ∧ w = w' := by
  by_cases h : 2 ≤ k
  · have d : decide (2 ≤ k) = true := decide_eq_true h
    rw [mayB, d, Bool.true_and]
    go_enter Tryd.func23, Tryd.ntmps23
    go_wp2
    go_ret
    exact ⟨rfl, rfl⟩
  · have d : decide (2 ≤ k) = false := decide_eq_false h
    rw [mayB, d, Bool.false_and]
    go_enter Tryd.func23, Tryd.ntmps23
    go_wp2
    go_ret
    exact ⟨rfl, rfl⟩
set_option maxRecDepth 100000 in
set_option maxHeartbeats 2000000 in
theorem refRight_any (a b c n : Int) (w : World) :
    Calls Tryd.prog 16 #[v3 a b c, .int .i64 n] w fun e w' => e = .returned (.bool (rightB a b c n)) ∧ Below w.heap.size w w' := by
  have hmy := refmay_any n
  have hcl : (v3 a b c).cells = c3 a b c := rfl
  have hr := Rowed.new w 24 (c3 a b c)
  have hB := below_alloc w (.cells (c3 a b c) 24)
  have k0 := hr.cell 0
  have k1 := hr.cell 1
  have k2 := hr.cell 2
  simp at k0 k1 k2
  have hn : mayB n = true → 2 ≤ n ∧ n ≤ 1000 := by
    intro h
    unfold mayB at h
    rw [Bool.and_eq_true, decide_eq_true_eq, decide_eq_true_eq] at h
    omega
  cases hm : mayB n with
  | false =>
    have Hv := Lib.hid (show rightB a b c n = false by rw [rightB, hm, Bool.false_and])
    rw [hm] at hmy
    go_enter Tryd.func16, Tryd.ntmps16
    go_wp2_with (go_at_call 23; refine (hmy _).mono ?_; rintro e w' ⟨rfl, rfl⟩)
    go_ret
    exact ⟨by rw [Hv.out]; rfl, hB⟩
  | true =>
    obtain ⟨hn2, hn1⟩ := hn hm
    rw [hm] at hmy
    have e6 : IntKind.i64.wrap (6 * n) = 6 * n := IntWalk.i64_in _ (by omega)
    have w6 : wrap64 (6 * n) = 6 * n := IntWalk.wrap64_in _ (by omega)
    cases h0 : decide (0 ≤ a) with
    | false =>
      have Hv := Lib.hid (show rightB a b c n = false by rw [rightB, hm, h0]; simp)
      go_enter Tryd.func16, Tryd.ntmps16
      go_wp2_with (go_at_call 23; refine (hmy _).mono ?_; rintro e w' ⟨rfl, rfl⟩)
      go_ret
      exact ⟨by rw [Hv.out]; rfl, hB⟩
    | true =>
      cases h1 : decide (a < n) with
      | false =>
        have Hv := Lib.hid (show rightB a b c n = false by rw [rightB, hm, h0, h1]; simp)
        go_enter Tryd.func16, Tryd.ntmps16
        go_wp2_with (go_at_call 23; refine (hmy _).mono ?_; rintro e w' ⟨rfl, rfl⟩)
        go_ret
        exact ⟨by rw [Hv.out]; rfl, hB⟩
      | true =>
        cases h2 : decide (0 ≤ b) with
        | false =>
          have Hv := Lib.hid (show rightB a b c n = false by rw [rightB, hm, h0, h1, h2]; simp)
          go_enter Tryd.func16, Tryd.ntmps16
          go_wp2_with (go_at_call 23; refine (hmy _).mono ?_; rintro e w' ⟨rfl, rfl⟩)
          go_ret
          exact ⟨by rw [Hv.out]; rfl, hB⟩
        | true =>
          cases h3 : decide (b < 4) with
          | false =>
            have Hv := Lib.hid (show rightB a b c n = false by rw [rightB, hm, h0, h1, h2, h3]; simp)
            go_enter Tryd.func16, Tryd.ntmps16
            go_wp2_with (go_at_call 23; refine (hmy _).mono ?_; rintro e w' ⟨rfl, rfl⟩)
            go_ret
            exact ⟨by rw [Hv.out]; rfl, hB⟩
          | true =>
            cases h4 : decide (0 ≤ c) with
            | false =>
              have Hv := Lib.hid (show rightB a b c n = false by rw [rightB, hm, h0, h1, h2, h3, h4]; simp)
              go_enter Tryd.func16, Tryd.ntmps16
              go_wp2_with (go_at_call 23; refine (hmy _).mono ?_; rintro e w' ⟨rfl, rfl⟩)
              go_ret
              exact ⟨by rw [Hv.out]; rfl, hB⟩
            | true =>
              cases h5 : decide (c ≤ 6 * n) with
              | false =>
                have Hv := Lib.hid (show rightB a b c n = false by rw [rightB, hm, h0, h1, h2, h3, h4, h5]; simp)
                go_enter Tryd.func16, Tryd.ntmps16
                go_wp2_with (go_at_call 23; refine (hmy _).mono ?_; rintro e w' ⟨rfl, rfl⟩)
                go_ret
                exact ⟨by rw [Hv.out]; rfl, hB⟩
              | true =>
                have Hv := Lib.hid (show rightB a b c n = true by rw [rightB, hm, h0, h1, h2, h3, h4, h5]; rfl)
                go_enter Tryd.func16, Tryd.ntmps16
                go_wp2_with (go_at_call 23; refine (hmy _).mono ?_; rintro e w' ⟨rfl, rfl⟩)
                go_ret
                exact ⟨by rw [Hv.out]; rfl, hB⟩

theorem sums_bad (y : List UInt8) (h3 : 2 ≤ y.length) (h9 : y.length ≤ 1000) (hbad : (-1 : Int) ∈ codesOf y) : sumsG y = .error 10 := by
  rw [sumsG, if_neg (by unfold mayB; rw [decide_eq_true (show (2 : Int) ≤ y.length by omega), decide_eq_true (show (y.length : Int) ≤ 1000 by omega)]; simp), if_pos]
  refine Classical.byContradiction fun h => ?_
  exact (fourL_iff y).1 (fun k hk e => h ⟨k, hk, e⟩) hbad
set_option maxRecDepth 100000 in
set_option maxHeartbeats 1000000 in
theorem rfind_arg (y : List UInt8) (a b c : Int) (h : y.length < 3 ∨ 1000 < y.length ∨ rightB a b c ((y.length : Int) - 1) = false) (sv : Value) (w : World) (hS : Sl eB w.heap.size w sv y) :
    Calls Tryd.prog 9 #[sv, v3 a b c] w (EFindIs y a b c w) := by
  have Hg := Lib.hid (show findE y a b c = .error 2 by rw [findE, if_pos h])
  have hR := fun w => refRight_any a b c ((y.length : Int) - 1) w
  have hA := below_alloc w (.cells (c3 a b c) 24)
  have hcl : (v3 a b c).cells = c3 a b c := rfl
  have hr := Rowed.new w 24 (c3 a b c)
  have k0 := hr.cell 0
  have k1 := hr.cell 1
  have k2 := hr.cell 2
  obtain ⟨A, cap, rfl⟩ := hS.len
  have hd : (y.length < 3 ∧ decide ((y.length : Int) < 3) = true) ∨ (¬ y.length < 3 ∧ decide ((y.length : Int) < 3) = false ∧ 1000 < y.length ∧ decide ((1000 : Int) < (y.length : Int)) = true) ∨ (¬ y.length < 3 ∧ decide ((y.length : Int) < 3) = false ∧ ¬ 1000 < y.length ∧ decide ((1000 : Int) < (y.length : Int)) = false ∧ rightB a b c ((y.length : Int) - 1) = false ∧ wrap64 ((y.length : Int) - 1) = (y.length : Int) - 1) := by
    by_cases h0 : y.length < 3
    · exact .inl ⟨h0, decide_eq_true (by omega)⟩
    · by_cases h1 : 1000 < y.length
      · exact .inr (.inl ⟨h0, decide_eq_false (by omega), h1, decide_eq_true (by omega)⟩)
      · exact .inr (.inr ⟨h0, decide_eq_false (by omega), h1, decide_eq_false (by omega), by rcases h with h | h | h <;> first | exact h | omega, wrap64_mid _ (by omega) (by omega)⟩)
  clear h hS hr
  rcases hd with ⟨f1, d1⟩ | ⟨f1, d1, f2, d2⟩ | ⟨f1, d1, f2, d2, hf, hwr⟩
  · go_enter Tryd.func9, Tryd.ntmps9
    go_wp2_with fail
    go_ret3
    exact ⟨hA, .inr ⟨2, Hg.out, rfl⟩⟩
  · go_enter Tryd.func9, Tryd.ntmps9
    go_wp2_with fail
    go_ret3
    exact ⟨hA, .inr ⟨2, Hg.out, rfl⟩⟩
  · rw [hf] at hR
    go_enter Tryd.func9, Tryd.ntmps9
    go_wp2_with fail
    go_at_call 16
    refine (hR _).mono ?_
    rintro e w1 ⟨rfl, hB⟩
    go_wp2_with fail
    go_ret3
    exact ⟨below_trans hA hB, .inr ⟨2, Hg.out, rfl⟩⟩
set_option maxRecDepth 100000 in
set_option maxHeartbeats 1000000 in
theorem rfind_bad (y : List UInt8) (a b c : Int) (h3 : 3 ≤ y.length) (h9 : y.length ≤ 1000) (hR1 : rightB a b c ((y.length : Int) - 1) = true) (hbad : (-1 : Int) ∈ codesOf y) (sv : Value) (w : World) (hS : Sl eB w.heap.size w sv y) :
    Calls Tryd.prog 9 #[sv, v3 a b c] w (EFindIs y a b c w) := by
  have Hg := Lib.hid (show findE y a b c = .error 10 by rw [findE, if_neg (by rw [hR1]; simp; omega), if_pos hbad])
  have hR := fun w => refRight_any a b c ((y.length : Int) - 1) w
  rw [hR1] at hR
  have hC := fun v w hS => rOf_any v y (by omega) w hS
  have hsb := sums_bad y (by omega) h9 hbad
  have hA := below_alloc w (.cells (c3 a b c) 24)
  have hcl : (v3 a b c).cells = c3 a b c := rfl
  have hcl0 : (v3 0 0 0).cells = c3 0 0 0 := rfl
  have hr := Rowed.new w 24 (c3 a b c)
  have k0 := hr.cell 0
  have k1 := hr.cell 1
  have k2 := hr.cell 2
  obtain ⟨A, cap, rfl⟩ := hS.len
  have d1 : decide ((y.length : Int) < 3) = false := decide_eq_false (by omega)
  have d2 : decide ((1000 : Int) < (y.length : Int)) = false := decide_eq_false (by omega)
  have hwr := wrap64_mid ((y.length : Int) - 1) (by omega) (by omega)
  clear hr hbad hR1
  go_enter Tryd.func9, Tryd.ntmps9
  go_wp2_with fail
  go_at_call 16
  refine (hR _).mono ?_
  rintro e w1 ⟨rfl, hB⟩
  have hB := below_trans hA hB
  have hS := hS.next hB
  clear hR hA k0 k1 k2
  go_wp2_with fail
  go_at_call 14
  refine (hC _ _ hS).mono ?_
  rintro e w2 ⟨hB2, ⟨x1, x2, x3, e1, -⟩ | ⟨m, e1, rfl⟩⟩
  · rw [hsb] at e1
    cases e1
  · rw [hsb] at e1
    cases e1
    have hA3 := below_alloc w2 (.cells (c3 0 0 0) 24)
    go_wp2_with fail
    go_ret3
    exact ⟨below_trans (below_trans hB hB2) hA3, .inr ⟨10, Hg.out, rfl⟩⟩
set_option maxRecDepth 100000 in
set_option maxHeartbeats 4000000 in
theorem rfind_main (y : List UInt8) (a b c : Int) (h3 : 3 ≤ y.length) (h9 : y.length ≤ 1000) (hR1 : rightB a b c ((y.length : Int) - 1) = true) (h4 : FourL y) (sv : Value) (w : World) (hS : Sl eB w.heap.size w sv y) :
    Calls Tryd.prog 9 #[sv, v3 a b c] w (EFindIs y a b c w) := by
  have Hg := Lib.hid (show findE y a b c = match (List.range y.length).find? (hitE y a b c) with
    | none => .error 130
    | some p => .ok p by rw [findE, if_neg (by rw [hR1]; simp; omega), if_neg ((fourL_iff y).1 h4)]; cases (List.range y.length).find? (hitE y a b c) <;> rfl)
  have hR := fun w => refRight_any a b c ((y.length : Int) - 1) w
  rw [hR1] at hR
  have hC := fun v w hS => rOf_any v y (by omega) w hS
  have hsb := four_sums y (by omega) h9 h4
  have hA := below_alloc w (.cells (c3 a b c) 24)
  have hcl : ∀ a b c : Int, (v3 a b c).cells = c3 a b c := fun _ _ _ => rfl
  have hr := Rowed.new w 24 (c3 a b c)
  have k0 := hr.cell 0
  have k1 := hr.cell 1
  have k2 := hr.cell 2
  have hcl1 := hcl a b c
  have hWo : Hid (∀ k : Nat, k < y.length → ∀ v w, Sl eB w.heap.size w v y → Calls Tryd.prog 13 #[v, .int .i64 k] w fun e w' => ∃ u, e = .returned u ∧ Sl eB w'.heap.size w' u (delW y k) ∧ Below w.heap.size w w') := Lib.hid fun k hk v w hS => by
    have := rWithout_any v y k (by omega) w hS
    rwa [withG, if_pos (by omega), Int.toNat_natCast] at this
  have hOf : Hid (∀ k : Nat, k < y.length → ∀ v w, Sl eB w.heap.size w v (delW y k) → Calls Tryd.prog 14 #[v] w fun e w' => Below w.heap.size w w' ∧ e = .returned (.tuple #[v3 (s1G y k) (s2G y k) (s3G y k), .int .i64 0])) := Lib.hid fun k hk v w hS => by
    have hl := delW_length y k hk
    refine (rOf_any v (delW y k) (by omega) w hS).mono ?_
    rintro e w' ⟨hB, ⟨x1, x2, x3, e1, e2⟩ | ⟨m, e1, -⟩⟩
    · rw [del_sums y k hk h3 (by omega) h4] at e1
      cases e1
      exact ⟨hB, e2⟩
    · rw [del_sums y k hk h3 (by omega) h4] at e1
      cases e1
  obtain ⟨A, cap, rfl⟩ := hS.len
  have d1 : decide ((y.length : Int) < 3) = false := decide_eq_false (by omega)
  have d2 : decide ((1000 : Int) < (y.length : Int)) = false := decide_eq_false (by omega)
  have hwr := wrap64_mid ((y.length : Int) - 1) (by omega) (by omega)
  clear hR1 h4
  go_enter Tryd.func9, Tryd.ntmps9
  go_wp2_with fail
  go_at_call 16
  refine (hR _).mono ?_
  rintro e w1 ⟨rfl, hB⟩
  have hr := hr.below hB hr.lt
  have hB := below_trans hA hB
  have hS := hS.next hB
  clear hR hA k0 k1 k2
  go_wp2_with fail
  go_at_call 14
  refine (hC _ _ hS).mono ?_
  rintro e w2 ⟨hB2, ⟨x1, x2, x3, e1, rfl⟩ | ⟨m, e1, -⟩⟩
  case inr => rw [hsb] at e1; cases e1
  clear e1 hsb hC
  have hcl2 := hcl x1 x2 x3
  have hr := hr.below hB2 hr.lt
  have hB := below_trans hB hB2
  have hS := hS.next hB2
  have hA3 := below_alloc w2 (.cells (c3 x1 x2 x3) 24)
  have hr := hr.below hA3 hr.lt
  have hB := below_trans hB hA3
  have hS := hS.next hA3
  clear hA3 hB2
  go_wp2_with fail
  generalize w2.alloc (.cells (c3 x1 x2 x3) 24) = w3 at *
  go_loopw [9] (fun i wr => ∃ k : Nat, k ≤ y.length ∧ i = .int .i64 k ∧ (∀ j, j < k → hitE y a b c j = false) ∧ Below w3.heap.size w3 wr) (fun i _ => y.length - (intOf i).toNat)
  case atStart => exact ⟨0, Nat.zero_le _, rfl, fun j hj => absurd hj (by omega), Below.refl _ _⟩
  case round =>
    obtain ⟨k, hk, rfl, hno, hBw⟩ := hrel
    have hS := hS.next hBw
    have hr := hr.below hBw hr.lt
    by_cases hlt : k < y.length
    · have hki : (k : Int) < (y.length : Int) := by omega
      have hW := hWo.out k hlt _ _ hS
      have hO := hOf.out k hlt
      have hkd : decide ((k : Int) < (y.length : Int)) = true := decide_eq_true hki
      have hw1 := wrap64_succ k (by omega)
      have Hm := Lib.hid hlt
      have Hno := Lib.hid hno
      have hEq := fun w => eqS (s1G y k) (s2G y k) (s3G y k) a b c w
      rw [show (s1G y k == a && (s2G y k == b && s3G y k == c)) = hitE y a b c k from rfl] at hEq
      clear hno hlt hk
      go_wp2_with fail
      go_at_call 13
      refine hW.mono ?_
      rintro e w4 ⟨u, rfl, hu, hB4⟩
      have hr := hr.below hB4 hr.lt
      have hB4 := below_trans hBw hB4
      clear hW hS
      go_wp2_with fail
      go_at_call 14
      refine (hO _ _ hu).mono ?_
      rintro e w5 ⟨hB5, rfl⟩
      have hr := hr.below hB5 hr.lt
      have hu := hu.next hB5
      have hB5 := below_trans hB4 hB5
      have hcl3 := hcl (s1G y k) (s2G y k) (s3G y k)
      have hA6 := below_alloc w5 (.cells (c3 (s1G y k) (s2G y k) (s3G y k)) 24)
      have hr := hr.below hA6 hr.lt
      have hu := hu.next hA6
      have hB6 := below_trans hB5 hA6
      have hr2 := Rowed.new w5 24 (c3 (s1G y k) (s2G y k) (s3G y k))
      have q0 := hr.cell 0
      have q1 := hr.cell 1
      have q2 := hr.cell 2
      have t0 := hr2.cell 0
      have t1 := hr2.cell 1
      have t2 := hr2.cell 2
      obtain ⟨A2, c2, rfl⟩ := hu.len
      clear hO hB4 hB5 hA6
      cases hq : hitE y a b c k with
      | true =>
        rw [hq] at hEq
        have hg : findE y a b c = .ok k := by rw [Hg.out, firstG (n := y.length) Hm.out hq Hno.out]
        have Hg := Lib.hid hg
        clear hg hq
        go_wp2_with fail
        go_ret3
        exact ⟨below_trans hB hB6, .inl ⟨_, _, Hg.out, rfl, hu⟩⟩
      | false =>
        rw [hq] at hEq
        have Hne := Lib.hid (show ∀ j, j < k + 1 → hitE y a b c j = false from fun j hj => by
          by_cases h : j = k
          · rw [h]; exact hq
          · exact Hno.out j (by omega))
        clear hq
        go_wp2_with fail
        go_roundw
        case rel => exact ⟨k + 1, by have := Hm.out; omega, by go_num, Hne.out, hB6⟩
        case measure => have := Hm.out; simp [intOf]; omega
    · obtain rfl : k = y.length := by omega
      have hkd : decide ((y.length : Int) < (y.length : Int)) = false := decide_eq_false (by omega)
      have hg : findE y a b c = .error 130 := by rw [Hg.out, noneG (n := y.length) hno]
      have Hg := Lib.hid hg
      clear hg hno hlt hk
      go_wp2_with fail
      go_ret3
      exact ⟨below_trans hB hBw, .inr ⟨130, Hg.out, rfl⟩⟩
theorem rFind_any (y : List UInt8) (a b c : Int) (sv : Value) (w : World) (hS : Sl eB w.heap.size w sv y) :
    Calls Tryd.prog 9 #[sv, v3 a b c] w (EFindIs y a b c w) := by
  by_cases h : y.length < 3 ∨ 1000 < y.length ∨ rightB a b c ((y.length : Int) - 1) = false
  · exact rfind_arg y a b c h sv w hS
  · have hR : rightB a b c ((y.length : Int) - 1) = true := by
      cases hr : rightB a b c ((y.length : Int) - 1) with
      | true => rfl
      | false => exact absurd (.inr (.inr hr)) h
    by_cases hb : (-1 : Int) ∈ codesOf y
    · exact rfind_bad y a b c (by omega) (by omega) hR hb sv w hS
    · exact rfind_main y a b c (by omega) (by omega) hR ((fourL_iff y).2 hb) sv w hS
end Go.Proofs.YtpjpfgahjalggaaDoor
