import Derived.Test.YtgblkcddhnigaaaDoorClSaZ
import Derived.Test.YtgblkcddhnigaaaDoorGH2Z
namespace Go.Proofs.YtgblkcddhnigaaaDoor
open Go.RowKit Go.Shelf
attribute [local go_sem] Oper.semAt_some run_store_func
set_option maxRecDepth 100000 in
set_option maxHeartbeats 4000000 in
theorem RSort_any (v0 : Value) (rows : List RowC) (hr : rows.length ≤ 1000) (hl8 : ∀ p ∈ rows, p.bs.length ≤ 1000) (w : World) (h0 : RowsIn w v0 rows) :
    Calls Tryd.prog 25 #[v0] w fun e w' => ∃ u vs, e = .returned u ∧ CollT w.heap.size w' u vs ∧ (bsL vs).Perm (bsL rows) ∧ RiseL (bsL vs) ∧ Below w.heap.size w w' := by
  obtain ⟨i0, hi, hz0, hz1, hz2⟩ := info_parts info_row
  obtain ⟨i1, hi', hz0', hz1', hz2'⟩ := info_parts info_u8
  obtain ⟨A, c, rfl, hA⟩ := h0.some
  have HAT := Lib.hid (show ∀ b off, A = some ⟨b, off, none⟩ → ∀ k (hk : k < rows.length), w.cell? ⟨b, off + k, none⟩ = some (.slice rows[k].A rows[k].bs.length rows[k].c) from fun b off e k hk => (RowsIn.at (e ▸ h0) k hk).1)
  have HSR := Lib.hid (show ∀ k (hk : k < rows.length), Sl eB w.heap.size w (.slice rows[k].A rows[k].bs.length rows[k].c) rows[k].bs from fun k hk => h0.2 _ (List.getElem_mem hk))
  have HTK := Lib.hid (show ∀ k (hk : k < rows.length), bsL (rows.take (k + 1)) = bsL (rows.take k) ++ [rows[k].bs] from fun k hk => by
   rw [List.take_succ_eq_append_getElem hk, bsL_app]; rfl)
  have HE := Lib.hid (show rows.take rows.length = rows from List.take_length)
  have HL := Lib.hid hr
  have H8 := Lib.hid (show ∀ k (hk : k < rows.length), rows[k].bs.length ≤ 1000 from fun k hk => hl8 _ (List.getElem_mem hk))
  clear hr hl8 h0
  go_enter Tryd.func25, Tryd.ntmps25
  go_wp2_with fail
  go_loopw [3, 4] (fun t i wr => ∃ (k : Nat) (vs : List RowC), k ≤ rows.length ∧ vs.length = k ∧ i = .int .i64 k ∧ CollT w.heap.size wr t vs ∧ (bsL vs).Perm (bsL (rows.take k)) ∧ RiseL (bsL vs) ∧ Below w.heap.size w wr) (fun _ i _ => rows.length - (RowKit.intOf i).toNat)
  case atStart => exact ⟨0, [], Nat.zero_le _, rfl, rfl, CollT.nil _ _, .nil, .nil, Below.refl _ _⟩
  case round =>
   obtain ⟨k, vs, hk, hvl, rfl, hC, hpm, hri, hB⟩ := hrel
   by_cases hlt : k < rows.length
   · obtain ⟨b, off, rfl, hb⟩ := hA (by omega)
     have hs8 := H8.out k hlt
     have HTk := Lib.hid (HTK.out k hlt)
     have Hk := Lib.hid hlt
     have hk9 : k ≤ 1000 := by have := HL.out; omega
     have hkl : (k : Int) < (rows.length : Int) := by omega
     obtain ⟨At, ct, rfl⟩ := (Sl.of_own hC.1).len
     obtain ⟨PP, hPP⟩ : ∃ PP : World → Prop, ∀ W, PP W ↔ (CollT w.heap.size W (.slice At vs.length ct) vs ∧ Below w.heap.size w W) := ⟨_, fun _ => Iff.rfl⟩
     have HPP := Lib.hid hPP
     have HCX := Lib.hid (show ∀ W, PP W → W.cell? ⟨b, off + k, none⟩ = some (eC rows[k]) from fun W h => (((HPP.out W).1 h).2.cell (p := ⟨b, off + k, none⟩) hb).trans (HAT.out b off rfl k hlt))
     have HSX := Lib.hid (show ∀ W, PP W → Sl eB W.heap.size W (eC rows[k]) rows[k].bs from fun W h => (HSR.out k hlt).next ((HPP.out W).1 h).2)
     have hp0 := (hPP wr).2 ⟨hC, hB⟩
     generalize rows[k] = R at *
     have HVL := Lib.hid hvl
     have HPM := Lib.hid hpm
     have HRI := Lib.hid hri
     have hv9 : vs.length ≤ 1000 := by omega
     have HBB := Lib.hid hb
     have HCT := Lib.hid (show vs.length ≤ ct from by
      obtain ⟨_, _, e, h1, -⟩ := Sl.of_own hC.1
      injection e with e1 e2 e3
      omega)
     have HPD := Lib.hid (show ∀ W n, PP W → PP (W.drewN n) from fun W n h => (HPP.out _).2 ⟨((HPP.out W).1 h).1.bel (drewN_bel _ _ _), ((HPP.out W).1 h).2.trans (drewN_bel _ _ _)⟩)
     clear hlt hvl hpm hri hC hB hPP hb hk
     go_wp2_with fail
     go_loopw [5] (fun q wx => ∃ j : Nat, j ≤ vs.length ∧ q = .int .i64 j ∧ PP wx ∧ ∀ x ∈ (bsL vs).drop j, Lib.compareBytes R.bs x < 0) (fun q _ => (RowKit.intOf q).toNat)
     case atStart => exact ⟨vs.length, Nat.le_refl _, rfl, hp0, fun x hx => by rw [List.drop_of_length_le (by simp [bsL])] at hx; cases hx⟩
     case round =>
      clear hp0
      obtain ⟨j, hj, rfl, hP, hgt⟩ := hrel
      by_cases hj0 : 0 < j
      · obtain ⟨m, rfl⟩ : ∃ m, j = m + 1 := ⟨j - 1, by omega⟩
        have hcx := HCX.out _ hP
        have hsx := HSX.out _ hP
        obtain ⟨hC, hB⟩ := (HPP.out _).1 hP
        have hlc : (bsL vs).length = vs.length := by simp [bsL]
        obtain ⟨gb, cap, eg, -, hgl, -, -, hcy, -, -⟩ := own_setV (xs := vs.map eC) (by rw [List.length_map]; exact hC.1) m (by rw [List.length_map]; omega)
        rw [List.getElem_map] at hcy
        injection eg with eg1 eg2 eg3
        subst eg1
        have hsy := Sl.of_own (hC.2 _ (List.getElem_mem (show m < vs.length by omega)))
        have hd := fun n => str_n hsx (Below.refl _ wr) n
        have he := fun n => str_n hsy (Below.refl _ wr) n
        have Hjv := Lib.hid hj
        have Hgt := Lib.hid hgt
        have HDR := Lib.hid (show (bsL vs).drop m = vs[m].bs :: (bsL vs).drop (m + 1) from bsL_dropG vs m (by omega))
        have hgb := gtr_dec 9 vs[m].bs R.bs
        have hm9 : m ≤ 1000 := by omega
        have hml : (m : Int) < (vs.length : Int) := by omega
        have Hm := Lib.hid (show (bsL vs)[m]? = some vs[m].bs from bsL_someG vs m (by omega))
        generalize vs[m] = Y at *
        clear hj hgt hsx hsy hC hB eg2 eg3 hlc
        by_cases hcmp : Lib.compareBytes R.bs Y.bs < 0
        · rw [decide_eq_true hcmp] at hgb
          have Hc := Lib.hid hcmp
          clear hcmp
          go_wp2_with fail
          go_quiet (fail)
          have hP2 := HPD.out _ nq hP
          generalize wr.drewN nq = W1 at *
          clear hcx hcy hd he
          go_wp2_with fail
          go_roundw
          case rel =>
           refine ⟨m, by have := Hjv.out; omega, by go_num, hP2, fun x hx => ?_⟩
           rw [HDR.out] at hx
           rcases List.mem_cons.1 hx with rfl | hx
           · exact Hc.out
           · exact Hgt.out x hx
          case measure => simp [RowKit.intOf]
        · rw [decide_eq_false hcmp] at hgb
          have HLE := Lib.hid (show ∀ h0 : 0 < m + 1, ¬ Lib.compareBytes R.bs ((bsL vs)[m + 1 - 1]'(by have := Hjv.out; simp [bsL]; omega)) < 0 from fun h0 => by
           have h1 := Hm.out
           have h2 : (bsL vs)[m + 1 - 1]? = some Y.bs := h1
           rw [(List.getElem?_eq_some_iff.1 h2).2]
           exact hcmp)
          clear hcmp Hm HDR
          have hjn := Hjv.out
          go_wp2_with fail
          go_quiet (fail)
          have hP2 := HPD.out _ nq hP
          generalize wr.drewN nq = W1 at *
          have hcx1 := HCX.out _ hP2
          have hs1 := HSX.out _ hP2
          obtain ⟨hC1, hB1⟩ := (HPP.out _).1 hP2
          have hbz1 := hB1.size
          have hcx2 := (below_al W1 (.cells #[] 5)).cell (p := ⟨b, off + k, none⟩) (by have := HBB.out; show b < _; omega)
          rw [hcx1] at hcx2
          unfold eC at hcx1 hcx2
          have hrw := row_made W1
          have hA1 := below_al W1 (.cells #[] 5)
          clear hP hP2 HPD HCX HSX HPP hcx hcy hd he hgb
          go_wp2_with (at_builtin
                       refine wpList_append_sl _ rfl (.tmp 33) (.tmp 37) _ rfl W1.heap.size 5 i1 (.int .u8 0) 1 Tryd.underlying34 hi' hz0' hz1' hz2' rfl _ 0 [] hrw rfl W1.heap.size _ R.bs (hs1.below hA1) rfl (fun _ => rfl) (by unfold maxLen; omega) (by omega) (by simp) ?_
                       intro va w3 hown1 hg1 hat1
                       have hA2 : Below W1.heap.size W1 w3 := hA1.trans (below_grown hrw hg1 (by simp) (Nat.le_refl _))
                       rw [Nat.zero_add, List.nil_append] at hown1
                       obtain ⟨A3, c3, rfl⟩ : ∃ A c, va = .slice A R.bs.length c := (Sl.of_own hown1).len
                       have hC3 := hC1.bel hA2
                       have hbz3 : w.heap.size ≤ w3.heap.size := Nat.le_trans hbz1 hA2.size
                       have hRo : w3.ownsRow w.heap.size 5 1 (eC ⟨A3, c3, R.bs⟩) R.bs.length (R.bs.map eB) := ownsRow_base hown1 hbz1
                       have hB3 : Below w.heap.size w w3 := hB1.trans (hA2.mono hbz1)
                       clear hg1 hat1 hown1 hcx1 hcx2 hs1 hC1 hB1 hrw hA1 hA2)
          have HC3 := Lib.hid hC3
          have HRO := Lib.hid hRo
          have HB3 := Lib.hid hB3
          have HNV := Lib.hid (show ∀ W, Below w3.heap.size w3.drew W → Sl eC W.heap.size W (.slice (some ⟨gb, 0, none⟩) vs.length ct) vs from fun W h => (Sl.of_own hC3.1).next (Below.trans (drew_bel _ _) h))
          have hx9 : (vs.take (m + 1)).length ≤ 1000 := by rw [List.length_take]; omega
          have hy9 : (vs.drop (m + 1)).length ≤ 1000 := by rw [List.length_drop]; omega
          obtain ⟨one, HO⟩ : ∃ one : RowC, Hid (one = ⟨A3, c3, R.bs⟩) := ⟨_, Lib.hid rfl⟩
          clear hC3 hRo hB3
          go_wp2_with fail
          refine wp_region_ghostE (fun s => s == 3) (SoS w3.heap.size (vs.take (m + 1)) (vs.drop (m + 1)) one w3.drew (.slice (some ⟨gb, 0, none⟩) vs.length ct)) (fun g => [(39, g 0), (40, .slice (some ⟨gb, 0, none⟩) vs.length ct), (41, .int .i64 ((m + 1) : Nat)), (42, sliced (some ⟨gb, 0, none⟩) 0 (m + 1) ct 1), (43, g 4), (44, .slice A3 R.bs.length c3), (45, g 6), (46, g 7), (47, .slice (some ⟨gb, 0, none⟩) vs.length ct), (48, .int .i64 ((m + 1) : Nat)), (49, sliced (some ⟨gb, 0, none⟩) (m + 1) vs.length ct 1), (50, g 11), (3, g 12)]) (fun j => if j = 12 then .slice (some ⟨gb, 0, none⟩) vs.length ct else undef)
           (by kernel_rfl) (by kernel_rfl) (by kernel_rfl) (by kernel_rfl) (fun _ => by kernel_rfl) ?exactA ?startA ?okA ?finA
          case exactA =>
           intro s hs
           obtain rfl : s = 3 := eq_of_beq hs
           simp only [putAll, Act.put, List.setIfInBounds_toArray, List.set_cons_zero, List.set_cons_succ]
           rfl
          case startA =>
           intro D hD
           have e0 := hD 0 (by decide)
           have e4 := hD 4 (by decide)
           have e6 := hD 6 (by decide)
           have e7 := hD 7 (by decide)
           have e11 := hD 11 (by decide)
           have e12 := hD 12 (by decide)
           refine ⟨Below.refl _ _, Nat.le_refl _, ?_, ?_, ?_, ?_, ?_, ?_, ?_, ?_, ?_, ?_, fun _ => rfl, fun h => by simp [e12] at h⟩
           all_goals (intro h; simp [e0, e4, e6, e7, e11, e12] at h)
          case okA =>
           intro T hT
           simp only [putAll, Act.put, List.setIfInBounds_toArray, List.set_cons_zero, List.set_cons_succ] at hT
           simp only [geAll]
           refine ⟨?_, ?_, ?_, ?_, ?_, ?_, ?_, ?_, ?_, ?_, ?_, ?_, ?_, trivial⟩
           · refine ge_put rfl (fun g v => by rw [hT, hT]; rfl) fun D g w' hD hdp hS => ?_
             rw [hT g, if_pos (by rfl)]
             clear hT
             unfold Oper.wp
             go_simp
             refine (hS.belw (below_al w' (.cells #[] 34))).put0 hD _ (ownsRow_base (row_madeR w') hS.big) fun q h6 e => ?_
             obtain ⟨q', e', k', -⟩ := hS.s6 h6 (hS.n74 (hS.n40 hD))
             obtain rfl : q = q' := by rw [e] at e'; injection e' with e; injection e with e; injection e
             have := (Array.getElem?_eq_some_iff.1 k').1
             omega
           · refine ge_same fun D g w' hD hdp hS => ?_
             have e12 := hS.b12 (bool_no fun e => by rw [(hS.q12 e).1] at hD; cases hD)
             rw [hT g, e12]
             clear hT
             go_simp
             exact hS.keep (by decide) (by decide) (by decide) (by decide) (by decide) (by decide)
           · refine ge_same fun D g w' hD hdp hS => ?_
             rw [hT g]
             clear hT
             go_simp
             exact hS.keep (by decide) (by decide) (by decide) (by decide) (by decide) (by decide)
           · refine ge_slice 22 _ _ _ _ rfl rfl _ (fun g w' => by rw [hT g]; exact run_toR (some ⟨gb, 0, none⟩) vs.length ct (m + 1) (by omega) HCT.out w') (fun g => by rw [hT g]; rfl) (fun D g w' h => h.keep (i := 3) (by decide) (by decide) (by decide) (by decide) (by decide) (by decide))
           · refine ge_put rfl (fun g v => by rw [hT, hT]; rfl) fun D g w' hD hdp hS => ?_
             have h0 : D 0 = true := dep_on hdp (by kernel_rfl)
             obtain ⟨p, e0, hown⟩ := hS.s0 h0 hD
             rw [hT g, if_pos (by rfl), e0]
             clear hT
             refine op_append_sl w' (.tmp 39) (.tmp 42) 22 (by rfl) w3.heap.size 34 i0 (.slice none 0 0) 24 Tryd.underlying22 hi hz0 hz1 hz2 rfl (.slice (some ⟨p, 0, none⟩) 0 0) 0 [] hown (by rfl) _ (sliced (some ⟨gb, 0, none⟩) 0 (m + 1) ct 1) (vs.take (m + 1)) (sliced_takeR (HNV.out _ hS.bel) (m + 1) (by omega)) (by rfl) eC_one (by unfold maxLen; omega) (by omega) hS.big fun v' w2 hown2 hg2 => ?_
             refine ⟨v', rfl, ?_⟩
             rw [Nat.zero_add, List.nil_append] at hown2
             exact hS.op4 hD h0 hown2 (by rw [e0]; exact hg2)
           · refine ge_same fun D g w' hD hdp hS => ?_
             rw [hT g]
             clear hT
             go_simp
             exact hS.keep (by decide) (by decide) (by decide) (by decide) (by decide) (by decide)
           · refine ge_put rfl (fun g v => by rw [hT, hT]; rfl) fun D g w' hD hdp hS => ?_
             rw [hT g, if_pos (by rfl)]
             clear hT
             unfold Oper.wp
             go_simp
             refine (hS.belw (below_al w' (.cells #[.slice A3 R.bs.length c3] 34))).put6 hD _ (by rw [HO.out]; exact World.alloc_heap_new _ _) fun h0 h2 e => ?_
             obtain ⟨p, e0, hown⟩ := hS.s0 h0 h2
             rw [e0] at e
             have h7 := (hown.lt p rfl).2
             have h8 : p = w'.heap.size := Option.some.inj e
             omega
           · refine ge_put rfl (fun g v => by rw [hT, hT]; rfl) fun D g w' hD hdp hS => ?_
             have h4 : D 4 = true := dep_on hdp (by kernel_rfl)
             have h6 : D 6 = true := dep_on hdp (by kernel_rfl)
             obtain ⟨q, e6, hsl⟩ := hS.ask7 hD h6
             have hown := hS.s4 h4 hD
             rw [hT g, if_pos (by rfl), e6]
             clear hT
             refine op_append_sl w' (.tmp 43) (.tmp 45) 22 (by rfl) w3.heap.size 34 i0 (.slice none 0 0) 24 Tryd.underlying22 hi hz0 hz1 hz2 rfl (g 4) _ _ hown (by rfl) _ _ [one] hsl (by rfl) eC_one (by unfold maxLen; simp only [List.length_singleton]; omega) (by simp only [List.length_singleton]; omega) hS.big fun v' w2 hown2 hg2 => ?_
             refine ⟨v', rfl, ?_⟩
             rw [← List.map_append] at hown2
             exact hS.op7 hD h4 h6 hown2 hg2
           · refine ge_same fun D g w' hD hdp hS => ?_
             have e12 := hS.b12 (bool_no fun e => by rw [(hS.q12 e).2] at hD; cases hD)
             rw [hT g, e12]
             clear hT
             go_simp
             exact hS.keep (by decide) (by decide) (by decide) (by decide) (by decide) (by decide)
           · refine ge_same fun D g w' hD hdp hS => ?_
             rw [hT g]
             clear hT
             go_simp
             exact hS.keep (by decide) (by decide) (by decide) (by decide) (by decide) (by decide)
           · refine ge_slice 22 _ _ _ _ rfl rfl _ (fun g w' => by rw [hT g]; exact run_fromR (some ⟨gb, 0, none⟩) vs.length ct (m + 1) (by omega) w') (fun g => by rw [hT g]; rfl) (fun D g w' h => h.keep (i := 10) (by decide) (by decide) (by decide) (by decide) (by decide) (by decide))
           · refine ge_put rfl (fun g v => by rw [hT, hT]; rfl) fun D g w' hD hdp hS => ?_
             have h7 : D 7 = true := dep_on hdp (by kernel_rfl)
             have hown := hS.s7 h7 hD
             rw [hT g, if_pos (by rfl)]
             clear hT
             refine op_append_sl w' (.tmp 46) (.tmp 49) 22 (by rfl) w3.heap.size 34 i0 (.slice none 0 0) 24 Tryd.underlying22 hi hz0 hz1 hz2 rfl (g 7) _ _ hown (by rfl) _ (sliced (some ⟨gb, 0, none⟩) (m + 1) vs.length ct 1) (vs.drop (m + 1)) (sliced_dropR (HNV.out _ hS.bel) (m + 1) (by omega)) (by rfl) eC_one (by unfold maxLen; omega) (by omega) hS.big fun v' w2 hown2 hg2 => ?_
             refine ⟨v', rfl, ?_⟩
             rw [← List.map_append] at hown2
             exact hS.op11 hD h7 hown2 hg2
           · refine ge_put rfl (fun g v => by rw [hT, hT]; rfl) fun D g w' hD hdp hS => ?_
             have h11 : D 11 = true := dep_on hdp (by kernel_rfl)
             have h1 : D 1 = true := dep_on hdp (by kernel_rfl)
             have h8 : D 8 = true := dep_on hdp (by kernel_rfl)
             rw [hT g]
             clear hT
             go_simp
             exact hS.put12 h11 h1 h8
          case finA =>
           intro T hT D g W2 hall hS
           rw [hT g]
           simp only [putAll, Act.put, List.setIfInBounds_toArray, List.set_cons_zero, List.set_cons_succ]
           have hB2 : Below w3.heap.size w3 W2 := Below.trans (drew_bel _ _) hS.bel
           have hown := hS.s11 (hall 11 (by decide))
           rw [hS.s12 (hall 12 (by decide))]
           have hBn := below_trans HB3.out hB2
           have hCn : CollT w.heap.size W2 (g 11) (vs.take (m + 1) ++ [one] ++ vs.drop (m + 1)) := by
            refine ⟨?_, fun p hp => ?_⟩
            · rw [show (vs.take (m + 1) ++ [one] ++ vs.drop (m + 1)).length = (vs.take (m + 1)).length + 1 + (vs.drop (m + 1)).length by simp; omega]
              exact ownsRow_base hown HB3.out.size
            · rcases List.mem_append.1 hp with hp | hp
              · rcases List.mem_append.1 hp with hp | hp
                · exact (HC3.out.bel hB2).2 p (List.mem_of_mem_take hp)
                · rw [List.mem_singleton.1 hp, HO.out]
                  exact ownsRow_below HRO.out hB2
              · exact (HC3.out.bel hB2).2 p (List.mem_of_mem_drop hp)
           have HCN := Lib.hid hCn
           have HBN := Lib.hid hBn
           have hbn : bsL (vs.take (m + 1) ++ [one] ++ vs.drop (m + 1)) = (bsL vs).take (m + 1) ++ [R.bs] ++ (bsL vs).drop (m + 1) := by
            rw [bsL_app, bsL_app, HO.out]
            simp [bsL, List.map_take, List.map_drop]
           have HBNB := Lib.hid hbn
           have hvl9 : (vs.take (m + 1) ++ [one] ++ vs.drop (m + 1)).length = k + 1 := by
            have := HVL.out
            rw [List.length_append, List.length_append, List.length_take, List.length_drop]
            simp only [List.length_singleton]
            omega
           have HV9 := Lib.hid hvl9
           clear hT hS hall hown hBn hCn hbn hB2 hvl9
           go_wp2_with fail
           go_roundw
           case rel => exact ⟨k + 1, _, Hk.out, HV9.out, by go_num, HCN.out, by rw [HBNB.out, HTk.out]; exact perm_ins HPM.out _, by rw [HBNB.out]; exact rise_ins HRI.out _ (by first | (simp [bsL]; done) | (simp [bsL]; omega)) Hgt.out (by first | exact HLE.out | exact fun h0 => Int.not_lt.2 (HLE.out h0) | exact fun h0 => absurd h0 (by omega)), HBN.out⟩
           case measure => have := Hk.out; simp [RowKit.intOf]; omega
      · have hj0' : ¬ (0 : Int) < (j : Int) := by omega
        have Hgt := Lib.hid hgt
        have HLE := Lib.hid (show ∀ h0 : 0 < j, ¬ Lib.compareBytes R.bs ((bsL vs)[j - 1]'(by simp [bsL]; omega)) < 0 from fun h0 => absurd h0 hj0)
        clear hgt
        go_wp2_with fail
        go_quiet (fail)
        have hP2 := HPD.out _ nq hP
        generalize wr.drewN nq = W1 at *
        have hcx1 := HCX.out _ hP2
        have hs1 := HSX.out _ hP2
        obtain ⟨hC1, hB1⟩ := (HPP.out _).1 hP2
        have hbz1 := hB1.size
        have hcx2 := (below_al W1 (.cells #[] 5)).cell (p := ⟨b, off + k, none⟩) (by have := HBB.out; show b < _; omega)
        rw [hcx1] at hcx2
        unfold eC at hcx1 hcx2
        have hrw := row_made W1
        have hA1 := below_al W1 (.cells #[] 5)
        clear hP hP2 HPD HCX HSX HPP
        go_wp2_with (at_builtin
                     refine wpList_append_sl _ rfl (.tmp 33) (.tmp 37) _ rfl W1.heap.size 5 i1 (.int .u8 0) 1 Tryd.underlying34 hi' hz0' hz1' hz2' rfl _ 0 [] hrw rfl W1.heap.size _ R.bs (hs1.below hA1) rfl (fun _ => rfl) (by unfold maxLen; omega) (by omega) (by simp) ?_
                     intro va w3 hown1 hg1 hat1
                     have hA2 : Below W1.heap.size W1 w3 := hA1.trans (below_grown hrw hg1 (by simp) (Nat.le_refl _))
                     rw [Nat.zero_add, List.nil_append] at hown1
                     obtain ⟨A3, c3, rfl⟩ : ∃ A c, va = .slice A R.bs.length c := (Sl.of_own hown1).len
                     have hC3 := hC1.bel hA2
                     have hbz3 : w.heap.size ≤ w3.heap.size := Nat.le_trans hbz1 hA2.size
                     have hRo : w3.ownsRow w.heap.size 5 1 (eC ⟨A3, c3, R.bs⟩) R.bs.length (R.bs.map eB) := ownsRow_base hown1 hbz1
                     have hB3 : Below w.heap.size w w3 := hB1.trans (hA2.mono hbz1)
                     clear hg1 hat1 hown1 hcx1 hcx2 hs1 hC1 hB1 hrw hA1 hA2)
        have HC3 := Lib.hid hC3
        have HRO := Lib.hid hRo
        have HB3 := Lib.hid hB3
        have HNV := Lib.hid (show ∀ W, Below w3.heap.size w3.drew W → Sl eC W.heap.size W (.slice At vs.length ct) vs from fun W h => (Sl.of_own hC3.1).next (Below.trans (drew_bel _ _) h))
        have hx9 : (vs.take j).length ≤ 1000 := by rw [List.length_take]; omega
        have hy9 : (vs.drop j).length ≤ 1000 := by rw [List.length_drop]; omega
        obtain ⟨one, HO⟩ : ∃ one : RowC, Hid (one = ⟨A3, c3, R.bs⟩) := ⟨_, Lib.hid rfl⟩
        clear hC3 hRo hB3
        go_wp2_with fail
        refine wp_region_ghostE (fun s => s == 3) (SoS w3.heap.size (vs.take j) (vs.drop j) one w3.drew (.slice At vs.length ct)) (fun g => [(39, g 0), (40, .slice At vs.length ct), (41, .int .i64 (j : Nat)), (42, sliced At 0 j ct 1), (43, g 4), (44, .slice A3 R.bs.length c3), (45, g 6), (46, g 7), (47, .slice At vs.length ct), (48, .int .i64 (j : Nat)), (49, sliced At j vs.length ct 1), (50, g 11), (3, g 12)]) (fun j => if j = 12 then .slice At vs.length ct else undef)
         (by kernel_rfl) (by kernel_rfl) (by kernel_rfl) (by kernel_rfl) (fun _ => by kernel_rfl) ?exactB ?startB ?okB ?finB
        case exactB =>
         intro s hs
         obtain rfl : s = 3 := eq_of_beq hs
         simp only [putAll, Act.put, List.setIfInBounds_toArray, List.set_cons_zero, List.set_cons_succ]
         rfl
        case startB =>
         intro D hD
         have e0 := hD 0 (by decide)
         have e4 := hD 4 (by decide)
         have e6 := hD 6 (by decide)
         have e7 := hD 7 (by decide)
         have e11 := hD 11 (by decide)
         have e12 := hD 12 (by decide)
         refine ⟨Below.refl _ _, Nat.le_refl _, ?_, ?_, ?_, ?_, ?_, ?_, ?_, ?_, ?_, ?_, fun _ => rfl, fun h => by simp [e12] at h⟩
         all_goals (intro h; simp [e0, e4, e6, e7, e11, e12] at h)
        case okB =>
         intro T hT
         simp only [putAll, Act.put, List.setIfInBounds_toArray, List.set_cons_zero, List.set_cons_succ] at hT
         simp only [geAll]
         refine ⟨?_, ?_, ?_, ?_, ?_, ?_, ?_, ?_, ?_, ?_, ?_, ?_, ?_, trivial⟩
         · refine ge_put rfl (fun g v => by rw [hT, hT]; rfl) fun D g w' hD hdp hS => ?_
           rw [hT g, if_pos (by rfl)]
           clear hT
           unfold Oper.wp
           go_simp
           refine (hS.belw (below_al w' (.cells #[] 34))).put0 hD _ (ownsRow_base (row_madeR w') hS.big) fun q h6 e => ?_
           obtain ⟨q', e', k', -⟩ := hS.s6 h6 (hS.n74 (hS.n40 hD))
           obtain rfl : q = q' := by rw [e] at e'; injection e' with e; injection e with e; injection e
           have := (Array.getElem?_eq_some_iff.1 k').1
           omega
         · refine ge_same fun D g w' hD hdp hS => ?_
           have e12 := hS.b12 (bool_no fun e => by rw [(hS.q12 e).1] at hD; cases hD)
           rw [hT g, e12]
           clear hT
           go_simp
           exact hS.keep (by decide) (by decide) (by decide) (by decide) (by decide) (by decide)
         · refine ge_same fun D g w' hD hdp hS => ?_
           rw [hT g]
           clear hT
           go_simp
           exact hS.keep (by decide) (by decide) (by decide) (by decide) (by decide) (by decide)
         · refine ge_slice 22 _ _ _ _ rfl rfl _ (fun g w' => by rw [hT g]; exact run_toR At vs.length ct j (by omega) HCT.out w') (fun g => by rw [hT g]; rfl) (fun D g w' h => h.keep (i := 3) (by decide) (by decide) (by decide) (by decide) (by decide) (by decide))
         · refine ge_put rfl (fun g v => by rw [hT, hT]; rfl) fun D g w' hD hdp hS => ?_
           have h0 : D 0 = true := dep_on hdp (by kernel_rfl)
           obtain ⟨p, e0, hown⟩ := hS.s0 h0 hD
           rw [hT g, if_pos (by rfl), e0]
           clear hT
           refine op_append_sl w' (.tmp 39) (.tmp 42) 22 (by rfl) w3.heap.size 34 i0 (.slice none 0 0) 24 Tryd.underlying22 hi hz0 hz1 hz2 rfl (.slice (some ⟨p, 0, none⟩) 0 0) 0 [] hown (by rfl) _ (sliced At 0 j ct 1) (vs.take j) (sliced_takeR (HNV.out _ hS.bel) j (by omega)) (by rfl) eC_one (by unfold maxLen; omega) (by omega) hS.big fun v' w2 hown2 hg2 => ?_
           refine ⟨v', rfl, ?_⟩
           rw [Nat.zero_add, List.nil_append] at hown2
           exact hS.op4 hD h0 hown2 (by rw [e0]; exact hg2)
         · refine ge_same fun D g w' hD hdp hS => ?_
           rw [hT g]
           clear hT
           go_simp
           exact hS.keep (by decide) (by decide) (by decide) (by decide) (by decide) (by decide)
         · refine ge_put rfl (fun g v => by rw [hT, hT]; rfl) fun D g w' hD hdp hS => ?_
           rw [hT g, if_pos (by rfl)]
           clear hT
           unfold Oper.wp
           go_simp
           refine (hS.belw (below_al w' (.cells #[.slice A3 R.bs.length c3] 34))).put6 hD _ (by rw [HO.out]; exact World.alloc_heap_new _ _) fun h0 h2 e => ?_
           obtain ⟨p, e0, hown⟩ := hS.s0 h0 h2
           rw [e0] at e
           have h7 := (hown.lt p rfl).2
           have h8 : p = w'.heap.size := Option.some.inj e
           omega
         · refine ge_put rfl (fun g v => by rw [hT, hT]; rfl) fun D g w' hD hdp hS => ?_
           have h4 : D 4 = true := dep_on hdp (by kernel_rfl)
           have h6 : D 6 = true := dep_on hdp (by kernel_rfl)
           obtain ⟨q, e6, hsl⟩ := hS.ask7 hD h6
           have hown := hS.s4 h4 hD
           rw [hT g, if_pos (by rfl), e6]
           clear hT
           refine op_append_sl w' (.tmp 43) (.tmp 45) 22 (by rfl) w3.heap.size 34 i0 (.slice none 0 0) 24 Tryd.underlying22 hi hz0 hz1 hz2 rfl (g 4) _ _ hown (by rfl) _ _ [one] hsl (by rfl) eC_one (by unfold maxLen; simp only [List.length_singleton]; omega) (by simp only [List.length_singleton]; omega) hS.big fun v' w2 hown2 hg2 => ?_
           refine ⟨v', rfl, ?_⟩
           rw [← List.map_append] at hown2
           exact hS.op7 hD h4 h6 hown2 hg2
         · refine ge_same fun D g w' hD hdp hS => ?_
           have e12 := hS.b12 (bool_no fun e => by rw [(hS.q12 e).2] at hD; cases hD)
           rw [hT g, e12]
           clear hT
           go_simp
           exact hS.keep (by decide) (by decide) (by decide) (by decide) (by decide) (by decide)
         · refine ge_same fun D g w' hD hdp hS => ?_
           rw [hT g]
           clear hT
           go_simp
           exact hS.keep (by decide) (by decide) (by decide) (by decide) (by decide) (by decide)
         · refine ge_slice 22 _ _ _ _ rfl rfl _ (fun g w' => by rw [hT g]; exact run_fromR At vs.length ct j (by omega) w') (fun g => by rw [hT g]; rfl) (fun D g w' h => h.keep (i := 10) (by decide) (by decide) (by decide) (by decide) (by decide) (by decide))
         · refine ge_put rfl (fun g v => by rw [hT, hT]; rfl) fun D g w' hD hdp hS => ?_
           have h7 : D 7 = true := dep_on hdp (by kernel_rfl)
           have hown := hS.s7 h7 hD
           rw [hT g, if_pos (by rfl)]
           clear hT
           refine op_append_sl w' (.tmp 46) (.tmp 49) 22 (by rfl) w3.heap.size 34 i0 (.slice none 0 0) 24 Tryd.underlying22 hi hz0 hz1 hz2 rfl (g 7) _ _ hown (by rfl) _ (sliced At j vs.length ct 1) (vs.drop j) (sliced_dropR (HNV.out _ hS.bel) j (by omega)) (by rfl) eC_one (by unfold maxLen; omega) (by omega) hS.big fun v' w2 hown2 hg2 => ?_
           refine ⟨v', rfl, ?_⟩
           rw [← List.map_append] at hown2
           exact hS.op11 hD h7 hown2 hg2
         · refine ge_put rfl (fun g v => by rw [hT, hT]; rfl) fun D g w' hD hdp hS => ?_
           have h11 : D 11 = true := dep_on hdp (by kernel_rfl)
           have h1 : D 1 = true := dep_on hdp (by kernel_rfl)
           have h8 : D 8 = true := dep_on hdp (by kernel_rfl)
           rw [hT g]
           clear hT
           go_simp
           exact hS.put12 h11 h1 h8
        case finB =>
         intro T hT D g W2 hall hS
         rw [hT g]
         simp only [putAll, Act.put, List.setIfInBounds_toArray, List.set_cons_zero, List.set_cons_succ]
         have hB2 : Below w3.heap.size w3 W2 := Below.trans (drew_bel _ _) hS.bel
         have hown := hS.s11 (hall 11 (by decide))
         rw [hS.s12 (hall 12 (by decide))]
         have hBn := below_trans HB3.out hB2
         have hCn : CollT w.heap.size W2 (g 11) (vs.take j ++ [one] ++ vs.drop j) := by
          refine ⟨?_, fun p hp => ?_⟩
          · rw [show (vs.take j ++ [one] ++ vs.drop j).length = (vs.take j).length + 1 + (vs.drop j).length by simp; omega]
            exact ownsRow_base hown HB3.out.size
          · rcases List.mem_append.1 hp with hp | hp
            · rcases List.mem_append.1 hp with hp | hp
              · exact (HC3.out.bel hB2).2 p (List.mem_of_mem_take hp)
              · rw [List.mem_singleton.1 hp, HO.out]
                exact ownsRow_below HRO.out hB2
            · exact (HC3.out.bel hB2).2 p (List.mem_of_mem_drop hp)
         have HCN := Lib.hid hCn
         have HBN := Lib.hid hBn
         have hbn : bsL (vs.take j ++ [one] ++ vs.drop j) = (bsL vs).take j ++ [R.bs] ++ (bsL vs).drop j := by
          rw [bsL_app, bsL_app, HO.out]
          simp [bsL, List.map_take, List.map_drop]
         have HBNB := Lib.hid hbn
         have hvl9 : (vs.take j ++ [one] ++ vs.drop j).length = k + 1 := by
          have := HVL.out
          rw [List.length_append, List.length_append, List.length_take, List.length_drop]
          simp only [List.length_singleton]
          omega
         have HV9 := Lib.hid hvl9
         clear hT hS hall hown hBn hCn hbn hB2 hvl9
         go_wp2_with fail
         go_roundw
         case rel => exact ⟨k + 1, _, Hk.out, HV9.out, by go_num, HCN.out, by rw [HBNB.out, HTk.out]; exact perm_ins HPM.out _, by rw [HBNB.out]; exact rise_ins HRI.out _ (by first | (simp [bsL]; done) | (simp [bsL]; omega)) Hgt.out (by first | exact HLE.out | exact fun h0 => Int.not_lt.2 (HLE.out h0) | exact fun h0 => absurd h0 (by omega)), HBN.out⟩
         case measure => have := Hk.out; simp [RowKit.intOf]; omega
   · obtain rfl : k = rows.length := by omega
     rw [HE.out] at hpm
     have HPM := Lib.hid hpm
     have HRI := Lib.hid hri
     clear hpm hri
     go_wp2_with fail
     go_ret
     exact ⟨_, vs, rfl, hC, HPM.out, HRI.out, hB⟩
end Go.Proofs.YtgblkcddhnigaaaDoor
