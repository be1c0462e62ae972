import Derived.Deep.CutRange
import Derived.Lib.SlBytesConst
import Derived.Test.YtkibigbcdlilkaaGreatDoorDTJY
import Derived.Test.YtkibigbcdlilkaaGreatDoorExMY
namespace Go.Proofs.YtkibigbcdlilkaaGreatDoor
open Go.RowKit Go.Shelf
attribute [local go_sem] Oper.semAt_some run_store_func
set_option maxHeartbeats 1000000 in
theorem rcode_yes (c : UInt8) (h : codeOf c.toNat ≠ -1) (w : World) :
    Calls Tryz.prog 74 #[eB c] w fun e w' => e = .returned (.tuple #[.int .i64 (codeOf c.toNat), .bool true]) ∧ w = w' := by
  rcases code_four h with rfl | rfl | rfl | rfl
  all_goals
   clear h
   go_enter Tryz.func74, Tryz.ntmps74
   go_wp2
   go_ret2
   exact ⟨rfl, rfl⟩
set_option maxHeartbeats 1000000 in
theorem rcode_no (c : UInt8) (h : codeOf c.toNat = -1) (w : World) :
    Calls Tryz.prog 74 #[eB c] w fun e w' => e = .returned (.tuple #[.int .i64 0, .bool false]) ∧ w = w' := by
  obtain ⟨h0, h1, h2, h3⟩ := code_none h
  have e : ∀ k : UInt8, c ≠ k → ((c.toNat : Int) == (k.toNat : Int)) = false := by
   intro k hk
   rw [beq_eq_false_iff_ne]
   intro e
   exact hk (UInt8.toNat_inj.1 (by omega))
  have g0 : ((c.toNat : Int) == 65) = false := e 65 h0
  have g1 : ((c.toNat : Int) == 67) = false := e 67 h1
  have g2 : ((c.toNat : Int) == 71) = false := e 71 h2
  have g3 : ((c.toNat : Int) == 84) = false := e 84 h3
  clear h h0 h1 h2 h3 e
  go_enter Tryz.func74, Tryz.ntmps74
  go_wp2
  go_ret2
  exact ⟨rfl, rfl⟩
theorem code_le {a b : UInt8} (ha : codeOf a.toNat ≠ -1) (hb : codeOf b.toNat ≠ -1) : decide (codeOf a.toNat ≤ codeOf b.toNat) = decide (a.toNat ≤ b.toNat) := by
 rcases code_four ha with rfl | rfl | rfl | rfl <;> rcases code_four hb with rfl | rfl | rfl | rfl <;> rfl
def befG (x : List UInt8) (k : Nat) : Int := if k = 0 then 0 else codeOf (atB x (k - 1)).toNat
set_option maxRecDepth 100000 in
set_option maxHeartbeats 4000000 in
theorem rOf_full (sv : Value) (x : List UInt8) (w : World) (hS : Sl eB w.heap.size w sv x) :
    Calls Tryz.prog 45 #[sv] w fun e w' => Below w.heap.size w w' ∧
      ((∃ a b c, sumsG x = .ok (a, b, c) ∧ e = .returned (.tuple #[v3 a b c, .int .i64 0])) ∨ ∃ m, sumsG x = .error m ∧ e = .returned (.tuple #[v3 0 0 0, .int .i64 m])) := by
  obtain ⟨A, c, rfl⟩ := hS.len
  obtain ⟨hz, hsz⟩ := zero_of_info infoS
  have hc0 : (v3 0 0 0).cells = #[.int .i64 0, .int .i64 0, .int .i64 0] := rfl
  have hbd0 : ∀ w, (Instr.build 51 #[]).run Tryz.prog w = .ok (v3 0 0 0) w := fun _ => by kernel_rfl
  have hbd3 : ∀ (a b c : Int) w, (Instr.build 51 #[(0, .int .i64 a), (1, .int .i64 b), (2, .int .i64 c)]).run Tryz.prog w = .ok (v3 a b c) w := fun _ _ _ _ => by kernel_rfl
  have hr0 := Rowed.new w 51 (c3 0 0 0)
  have hA0 := below_alloc w (.cells (c3 0 0 0) 51)
  have hlt0 := hr0.lt
  cases hm : mayB x.length with
  | false =>
    have hg : sumsG x = .error 2 := by rw [sumsG, if_pos hm]
    have ht : (decide ((x.length : Int) < 2) = true) ∨ (decide ((x.length : Int) < 2) = false ∧ decide ((1000 : Int) < x.length) = true) := by
     unfold mayB at hm
     by_cases h : (x.length : Int) < 2
     · exact .inl (decide_eq_true h)
     · refine .inr ⟨decide_eq_false h, decide_eq_true ?_⟩
       rw [decide_eq_true (by omega), Bool.true_and] at hm
       have := of_decide_eq_false hm
       omega
    have Hg := Lib.hid hg
    clear hm hg
    rcases ht with h1 | ⟨h1, h2⟩
    · go_enter Tryz.func45, Tryz.ntmps45
      go_upto_region 1 with fail
      generalize w.alloc (.cells (c3 0 0 0) 51) = w1 at *
      generalize hg0 : w.heap.size = g0 at *
      have k0 := hr0.cell 0
      have k1 := hr0.cell 1
      have k2 := hr0.cell 2
      have f0 := hr0.frozen 0
      have f1 := hr0.frozen 1
      have f2 := hr0.frozen 2
      simp at k0 k1 k2
      go_wp2_with fail
      subst hg0
      refine bodyPost_ret (v := .tuple #[v3 0 0 0, .int .i64 2]) ?_ rfl ⟨below3 hA0 _ (Nat.le_refl _) _ _ _, .inr ⟨2, Hg.out, rfl⟩⟩
      exact results_cell_slot (p := 2) (q := 3) rfl _ _ w.heap.size _ _ _ _ rfl (row3 hr0 0 0 0) Tryz.underlying51 rfl (size_c3 0 0 0)
    · go_enter Tryz.func45, Tryz.ntmps45
      go_upto_region 1 with fail
      generalize w.alloc (.cells (c3 0 0 0) 51) = w1 at *
      generalize hg0 : w.heap.size = g0 at *
      have k0 := hr0.cell 0
      have k1 := hr0.cell 1
      have k2 := hr0.cell 2
      have f0 := hr0.frozen 0
      have f1 := hr0.frozen 1
      have f2 := hr0.frozen 2
      simp at k0 k1 k2
      go_wp2_with fail
      subst hg0
      refine bodyPost_ret (v := .tuple #[v3 0 0 0, .int .i64 2]) ?_ rfl ⟨below3 hA0 _ (Nat.le_refl _) _ _ _, .inr ⟨2, Hg.out, rfl⟩⟩
      exact results_cell_slot (p := 2) (q := 3) rfl _ _ w.heap.size _ _ _ _ rfl (row3 hr0 0 0 0) Tryz.underlying51 rfl (size_c3 0 0 0)
  | true =>
    have hn : 2 ≤ x.length ∧ x.length ≤ 1000 := by
     unfold mayB at hm
     rw [Bool.and_eq_true] at hm
     have h1 := of_decide_eq_true hm.1
     have h2 := of_decide_eq_true hm.2
     omega
    have d1 : decide ((x.length : Int) < 2) = false := decide_eq_false (by omega)
    have d2 : decide ((1000 : Int) < x.length) = false := decide_eq_false (by omega)
    have Hm := Lib.hid hm
    have Hn := Lib.hid hn
    clear hm hn
    go_enter Tryz.func45, Tryz.ntmps45
    go_upto_region 1 with fail
    generalize w.alloc (.cells (c3 0 0 0) 51) = w1 at *
    have hr1 := Rowed.new w1 51 (c3 0 0 0)
    have hr0' := hr0.alloc (.cells (c3 0 0 0) 51)
    have hA1 := hA0.alloc hA0.size (.cells (c3 0 0 0) 51)
    have hg01 : w.heap.size ≤ w1.heap.size := hA0.size
    have hlt0 : w.heap.size < w1.heap.size := hlt0
    clear hr0 hA0
    go_upto_region 5 with fail
    generalize w1.alloc (.cells (c3 0 0 0) 51) = w2 at *
    generalize hg1 : w1.heap.size = g1 at *
    go_wp2_with fail
    go_loopw [6, 7] (fun b i wr => ∃ k : Nat, k ≤ x.length ∧ i = .int .i64 k ∧ b = .int .i64 (befG x k) ∧ (∀ j, j < k → codeOf (atB x j).toNat ≠ -1) ∧ Rowed wr w.heap.size 51 (c3 0 0 0) ∧ Rowed wr g1 51 (c3 (sT x k) (sS x k) (sW x k)) ∧ Below w.heap.size w wr) (fun _ i _ => x.length - (intOf i).toNat)
    case atStart => exact ⟨0, Nat.zero_le _, rfl, rfl, fun j hj => absurd hj (by omega), hr0', hr1, hA1⟩
    case round =>
     clear hr0' hr1 hA1
     obtain ⟨k, hk, rfl, rfl, hok, hr0, hr1, hB⟩ := hrel
     by_cases hlt : k < x.length
     · obtain ⟨bk, off, rfl, q0⟩ : ∃ bk off, A = some ⟨bk, off, none⟩ ∧ wr.cell? ⟨bk, off + k, none⟩ = some (eB (atB x k)) := by
         obtain ⟨A', c', e, hc, hcs⟩ := hS
         injection e with e1 e2 e3
         subst e1 e3
         obtain ⟨bk, off, e4, hb, hcell⟩ := hcs (by omega)
         exact ⟨bk, off, e4, (hB.cell (p := ⟨bk, off + k, none⟩) hb).trans (hcell k _ (atB_lt hlt))⟩
       have hkl : (k : Int) < x.length := by omega
       by_cases hbad : codeOf (atB x k).toNat = -1
       · have Hg : Hid (sumsG x = .error 10) := Lib.hid (by rw [sumsG, if_neg (by rw [Hm.out]; simp), if_pos ⟨k, hlt, hbad⟩])
         have hC := fun w => rcode_no (atB x k) hbad w
         have k0 := hr0.cell 0
         have k1 := hr0.cell 1
         have k2 := hr0.cell 2
         have f0 := hr0.frozen 0
         have f1 := hr0.frozen 1
         have f2 := hr0.frozen 2
         simp at k0 k1 k2
         clear hbad hok hlt hS hk
         generalize atB x k = ch at *
         go_wp2_with (go_at_call 74; refine (hC _).mono ?_; rintro e w' ⟨rfl, rfl⟩)
         refine bodyPost_ret (v := .tuple #[v3 0 0 0, .int .i64 10]) ?_ rfl ⟨below3 hB _ (Nat.le_refl _) _ _ _, .inr ⟨10, Hg.out, rfl⟩⟩
         exact results_cell_slot (p := 2) (q := 3) rfl _ _ w.heap.size _ _ _ _ rfl (row3 hr0 0 0 0) Tryz.underlying51 rfl (size_c3 0 0 0)
       · have hC := fun w => rcode_yes (atB x k) hbad w
         have hok' : ∀ j, j < k + 1 → codeOf (atB x j).toNat ≠ -1 := fun j hj => by
          by_cases e : j = k
          · rw [e]; exact hbad
          · exact hok j (by omega)
         have rT := sT_range x k (by have := Hn.out; omega)
         have rS := sS_range x k hok
         have rW := sW_range x k (by have := Hn.out; omega) hok
         have hk1000 : k ≤ 1000 := by have := Hn.out; omega
         have hT' : sT x (k + 1) = sT x k + if riseB x k then (k : Int) else 0 := rfl
         have hS' : sS x (k + 1) = sS x k + codeOf (atB x k).toNat := rfl
         have hW' : sW x (k + 1) = sW x k + codeOf (atB x k).toNat * ((k : Int) + 1) := rfl
         have hb' : befG x (k + 1) = codeOf (atB x k).toNat := by rw [befG, if_neg (by omega), Nat.add_sub_cancel]
         have hcc := code_bound hbad
         have hrise : riseB x k = (decide ((0 : Int) < k) && decide (befG x k ≤ codeOf (atB x k).toNat)) := by
          unfold riseB befG
          by_cases e : k = 0
          · subst e; rfl
          · rw [if_neg e, code_le (hok _ (by omega)) hbad, decide_eq_true (show 0 < k by omega), decide_eq_true (show (0 : Int) < k by omega)]
         have k0 := hr1.cell 0
         have k1 := hr1.cell 1
         have k2 := hr1.cell 2
         have f0 := hr1.frozen 0
         have f1 := hr1.frozen 1
         have f2 := hr1.frozen 2
         simp at k0 k1 k2
         have Hok := Lib.hid hok'
         have Hlt := Lib.hid hlt
         have HT := Lib.hid hT'
         have HS := Lib.hid hS'
         have HW := Lib.hid hW'
         have Hb := Lib.hid hb'
         have hmul : 0 ≤ ((k : Int) + 1) * codeOf (atB x k).toNat ∧ ((k : Int) + 1) * codeOf (atB x k).toNat ≤ 3003 := by
          have h3 : codeOf (atB x k).toNat = 0 ∨ codeOf (atB x k).toNat = 1 ∨ codeOf (atB x k).toNat = 2 ∨ codeOf (atB x k).toNat = 3 := by omega
          rcases h3 with e | e | e | e <;> rw [e] <;> omega
         clear hbad hok hok' hlt hS hk hT' hS' hW' hb'
         generalize sT x k = a at *
         generalize sS x k = b at *
         generalize sW x k = d at *
         generalize befG x k = bf at *
         generalize codeOf (atB x k).toNat = cc at *
         generalize atB x k = ch at *
         have m1 : wrap64 (((k : Int) + 1) * cc) = ((k : Int) + 1) * cc := IntWalk.wrap64_in _ (by omega)
         have m2 : IntKind.i64.wrap (((k : Int) + 1) * cc) = ((k : Int) + 1) * cc := IntWalk.i64_in _ (by omega)
         have m3 : IntKind.i64.wrap (d + ((k : Int) + 1) * cc) = d + ((k : Int) + 1) * cc := IntWalk.i64_in _ (by omega)
         have m4 : wrap64 (d + ((k : Int) + 1) * cc) = d + ((k : Int) + 1) * cc := IntWalk.wrap64_in _ (by omega)
         have hg1l : w.heap.size < g1 := hlt0
         cases hrk : riseB x k with
         | false =>
           rw [hrk] at hrise
           cases h0 : decide ((0 : Int) < k) with
           | false =>
             have h0n : decide (0 < k) = false := by
              have := of_decide_eq_false h0
              exact decide_eq_false (by omega)
             clear hrise h0
             go_wp2_with (go_at_call 74; refine (hC _).mono ?_; rintro e w' ⟨rfl, rfl⟩)
             go_roundw
             case rel => exact ⟨k + 1, by have := Hlt.out; omega, by go_num, by rw [Hb.out]; first | rfl | skip, Hok.out, ((hr0.other g1 1 (.int .i64 (b + cc)) (by omega)).other g1 2 (.int .i64 (d + ((k : Int) + 1) * cc)) (by omega)), by rw [HT.out, HS.out, HW.out, hrk, Int.mul_comm cc]; first | exact ((hr1.set 1 (.int .i64 (b + cc))).set 2 (.int .i64 (d + ((k : Int) + 1) * cc))) | simpa using ((hr1.set 1 (.int .i64 (b + cc))).set 2 (.int .i64 (d + ((k : Int) + 1) * cc))), ((hB.setCell (p := ⟨g1, 1, none⟩) hg01 (.int .i64 (b + cc))).setCell (p := ⟨g1, 2, none⟩) hg01 (.int .i64 (d + ((k : Int) + 1) * cc)))⟩
             case measure => have := Hlt.out; simp [intOf]; omega
           | true =>
             rw [h0, Bool.true_and] at hrise
             have h0n : decide (0 < k) = true := by
              have := of_decide_eq_true h0
              exact decide_eq_true (by omega)
             clear h0
             replace hrise := hrise.symm
             go_wp2_with (go_at_call 74; refine (hC _).mono ?_; rintro e w' ⟨rfl, rfl⟩)
             go_roundw
             case rel => exact ⟨k + 1, by have := Hlt.out; omega, by go_num, by rw [Hb.out]; first | rfl | skip, Hok.out, ((hr0.other g1 1 (.int .i64 (b + cc)) (by omega)).other g1 2 (.int .i64 (d + ((k : Int) + 1) * cc)) (by omega)), by rw [HT.out, HS.out, HW.out, hrk, Int.mul_comm cc]; first | exact ((hr1.set 1 (.int .i64 (b + cc))).set 2 (.int .i64 (d + ((k : Int) + 1) * cc))) | simpa using ((hr1.set 1 (.int .i64 (b + cc))).set 2 (.int .i64 (d + ((k : Int) + 1) * cc))), ((hB.setCell (p := ⟨g1, 1, none⟩) hg01 (.int .i64 (b + cc))).setCell (p := ⟨g1, 2, none⟩) hg01 (.int .i64 (d + ((k : Int) + 1) * cc)))⟩
             case measure => have := Hlt.out; simp [intOf]; omega
         | true =>
           rw [hrk] at hrise
           replace hrise := hrise.symm
           rw [Bool.and_eq_true] at hrise
           obtain ⟨h0, hrise⟩ := hrise
           have h0n : decide (0 < k) = true := by
            have := of_decide_eq_true h0
            exact decide_eq_true (by omega)
           clear h0
           go_wp2_with (go_at_call 74; refine (hC _).mono ?_; rintro e w' ⟨rfl, rfl⟩)
           go_roundw
           case rel => exact ⟨k + 1, by have := Hlt.out; omega, by go_num, by rw [Hb.out]; first | rfl | skip, Hok.out, (((hr0.other g1 0 (.int .i64 (a + k)) (by omega)).other g1 1 (.int .i64 (b + cc)) (by omega)).other g1 2 (.int .i64 (d + ((k : Int) + 1) * cc)) (by omega)), by rw [HT.out, HS.out, HW.out, hrk, Int.mul_comm cc]; first | exact (((hr1.set 0 (.int .i64 (a + k))).set 1 (.int .i64 (b + cc))).set 2 (.int .i64 (d + ((k : Int) + 1) * cc))) | simpa using (((hr1.set 0 (.int .i64 (a + k))).set 1 (.int .i64 (b + cc))).set 2 (.int .i64 (d + ((k : Int) + 1) * cc))), (((hB.setCell (p := ⟨g1, 0, none⟩) hg01 (.int .i64 (a + k))).setCell (p := ⟨g1, 1, none⟩) hg01 (.int .i64 (b + cc))).setCell (p := ⟨g1, 2, none⟩) hg01 (.int .i64 (d + ((k : Int) + 1) * cc)))⟩
           case measure => have := Hlt.out; simp [intOf]; omega
     · obtain rfl : k = x.length := by omega
       have hg : sumsG x = .ok (sT x x.length % x.length, sS x x.length % 4, sW x x.length % (6 * x.length + 1)) := by
        rw [sumsG, if_neg (by rw [Hm.out]; simp), if_neg]
        rintro ⟨j, hj, hbad⟩
        exact hok j hj hbad
       have rT := sT_range x x.length Hn.out.2
       have rS := sS_range x x.length hok
       have rW := sW_range x x.length Hn.out.2 hok
       have Hg := Lib.hid hg
       clear hg hok hlt hk
       generalize sT x x.length = a at *
       generalize sS x x.length = b at *
       generalize sW x x.length = d at *
       generalize befG x x.length = bf at *
       have hn2 : (2 : Int) ≤ x.length := by have := Hn.out; omega
       have hn1 : (x.length : Int) ≤ 1000 := by have := Hn.out; omega
       have t1 : a.tmod x.length = a % x.length := Int.tmod_eq_emod_of_nonneg (by omega)
       have t2 : b.tmod 4 = b % 4 := Int.tmod_eq_emod_of_nonneg (by omega)
       have t3 : d.tmod (6 * (x.length : Int) + 1) = d % (6 * (x.length : Int) + 1) := Int.tmod_eq_emod_of_nonneg (by omega)
       have n1 : ¬ (x.length : Int) = 0 := by omega
       have n1' : ¬ x.length = 0 := by omega
       have w6 : IntKind.i64.wrap (6 * (x.length : Int)) = 6 * (x.length : Int) := IntWalk.i64_in _ (by omega)
       have w7 : IntKind.i64.wrap (6 * (x.length : Int) + 1) = 6 * (x.length : Int) + 1 := IntWalk.i64_in _ (by omega)
       have n2 : ¬ 6 * (x.length : Int) + 1 = 0 := by omega
       have k0 := hr1.cell 0
       have k1 := hr1.cell 1
       have k2 := hr1.cell 2
       simp at k0 k1 k2
       have d0 : wr.drew.cell? ⟨g1, 0, none⟩ = some (.int .i64 a) := k0
       have d1 : wr.drew.cell? ⟨g1, 1, none⟩ = some (.int .i64 b) := k1
       have d2 : wr.drew.cell? ⟨g1, 2, none⟩ = some (.int .i64 d) := k2
       clear k0 k1 k2
       go_wp2_with fail
       refine (wpIn_wide (n := 5)).1 ?_
       refine wpIn_region_det2 14 [(61, .pointer (some ⟨g1, 0, none⟩)), (62, .int .i64 a), (63, .int .i64 x.length), (64, .int .i64 (a % x.length)), (65, .pointer (some ⟨g1, 1, none⟩)), (66, .int .i64 b), (67, .int .i64 (b % 4)), (68, .pointer (some ⟨g1, 2, none⟩)), (69, .int .i64 d), (70, .int .i64 x.length), (71, .int .i64 (6 * (x.length : Int))), (72, .int .i64 (6 * (x.length : Int) + 1)), (73, .int .i64 (d % (6 * (x.length : Int) + 1))), (74, v3 (a % x.length) (b % 4) (d % (6 * (x.length : Int) + 1)))]
         (by kernel_rfl) (by decide) (by kernel_rfl) (by kernel_rfl) (by kernel_rfl) (by kernel_rfl) (by kernel_rfl) ?ok1 ?tail1 ?tail2
       case ok1 =>
        intro A' hA'
        simp only [putAll, Act.put, List.setIfInBounds_toArray, List.set_cons_zero, List.set_cons_succ] at hA'
        subst hA'
        refine ⟨?_, ?_, ?_, ?_, ?_, ?_, ?_, ?_, ?_, ?_, ?_, ?_, ?_, ?_, trivial⟩
        all_goals unfold DetIn
        all_goals go_simp
       all_goals
        intro A' hA'
        simp only [putAll, Act.put, List.setIfInBounds_toArray, List.set_cons_zero, List.set_cons_succ] at hA'
        subst hA'
        have hrd : Rowed wr.drew w.heap.size 51 (c3 0 0 0) := hr0
        have hBd : Below w.heap.size w wr.drew := hB.trans ⟨rfl, rfl, rfl, Nat.le_refl _, fun _ _ => rfl⟩
        have k0 := hrd.cell 0
        have k1 := hrd.cell 1
        have k2 := hrd.cell 2
        have f0 := hrd.frozen 0
        have f1 := hrd.frozen 1
        have f2 := hrd.frozen 2
        have e0 := hr0.frozen 0
        have e1 := hr0.frozen 1
        have e2 := hr0.frozen 2
        simp at k0 k1 k2
        simp only [List.drop_succ_cons, List.drop_zero, List.reverse_cons, List.reverse_nil, List.nil_append, List.cons_append]
        gi_wp2_with fail
        go_wp2_with fail
        have hBe : Below w.heap.size w (((wr.setCell ⟨w.heap.size, 0, none⟩ (.int .i64 (a % x.length))).setCell ⟨w.heap.size, 1, none⟩ (.int .i64 (b % 4))).setCell ⟨w.heap.size, 2, none⟩ (.int .i64 (d % (6 * (x.length : Int) + 1)))).drew := (below3 hB w.heap.size (Nat.le_refl _) _ _ _).trans ⟨rfl, rfl, rfl, Nat.le_refl _, fun _ _ => rfl⟩
        have hre : Rowed (((wr.setCell ⟨w.heap.size, 0, none⟩ (.int .i64 (a % x.length))).setCell ⟨w.heap.size, 1, none⟩ (.int .i64 (b % 4))).setCell ⟨w.heap.size, 2, none⟩ (.int .i64 (d % (6 * (x.length : Int) + 1)))).drew w.heap.size 51 (c3 (a % x.length) (b % 4) (d % (6 * (x.length : Int) + 1))) := row3 hr0 _ _ _
        refine bodyPost_ret (v := .tuple #[v3 (a % x.length) (b % 4) (d % (6 * (x.length : Int) + 1)), .int .i64 0]) ?_ ?_ ?_
        · exact results_cell_slot (p := 2) (q := 3) rfl _ _ w.heap.size _ _ _ _ rfl hre Tryz.underlying51 rfl (size_c3 _ _ _)
        · rfl
        · exact ⟨hBe, .inl ⟨_, _, _, Hg.out, rfl⟩⟩
theorem rOf_any (sv : Value) (x : List UInt8) (_hreach : x.length ≤ 1000000) (w : World) (hS : Sl eB w.heap.size w sv x) :
    Calls Tryz.prog 45 #[sv] w fun e w' => Below w.heap.size w w' ∧
      ((∃ a b c, sumsG x = .ok (a, b, c) ∧ e = .returned (.tuple #[v3 a b c, .int .i64 0])) ∨ ∃ m, sumsG x = .error m ∧ e = .returned (.tuple #[v3 0 0 0, .int .i64 m])) := rOf_full sv x w hS
end Go.Proofs.YtkibigbcdlilkaaGreatDoor
