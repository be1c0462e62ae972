import Derived.Test.YtcngnjkpnmpcpaaDoorPbDZ
namespace Go.Proofs.YtcngnjkpnmpcpaaDoor
open Go.RowKit Go.Shelf
attribute [local go_sem] Oper.semAt_some run_store_func
def Ch (D : Nat → Bool) : Prop := ∀ j, (j = 6 ∨ j = 7 ∨ j = 8 ∨ j = 17 ∨ j = 18) → D j = true → D 5 = true
theorem Ch.set {D : Nat → Bool} (h : Ch D) (i : Nat) (hi : (i = 6 ∨ i = 7 ∨ i = 8 ∨ i = 17 ∨ i = 18) → D 5 = true) : Ch (upd D i) := fun j hj e => by
 have up : D 5 = true → upd D i 5 = true := fun e => by
  by_cases e2 : (5 : Nat) = i
  · subst e2; exact upd_same _ _
  · rw [upd_other D e2]; exact e
 by_cases e2 : j = i
 · subst e2; exact up (hi hj)
 · rw [upd_other D e2] at e; exact up (h j hj e)
theorem place_in (at_ : Int) (n : Nat) (h : 0 < n) (hn : n ≤ 9000000000000000) : ∃ p : Nat, p < n ∧ (wrap64 (at_.tmod (n : Int) + n)).tmod (n : Int) = p := by
 have h1 : at_.tmod (n : Int) < (n : Int) := Int.tmod_lt_of_pos _ (by omega)
 have h2 : -(n : Int) < at_.tmod (n : Int) := Int.lt_tmod_of_pos _ (by omega)
 generalize at_.tmod (n : Int) = t at *
 rw [IntWalk.wrap64_in (t + n) (by omega), Int.tmod_eq_emod_of_nonneg (by omega)]
 have h3 := Int.emod_nonneg (t + n) (b := (n : Int)) (by omega)
 have h4 := Int.emod_lt_of_pos (t + n) (b := (n : Int)) (by omega)
 exact ⟨((t + n) % (n : Int)).toNat, by omega, by omega⟩
set_option maxRecDepth 100000 in
set_option maxHeartbeats 8000000 in
theorem May_loops (v0 : Value) (which : Int) (L : List Pr) (hr : L.length ≤ 8) (w : World) (hT : Tab w) (h0 : PrsIn w.heap.size w v0 L) (hg : gr20 L = false) :
    Calls Tryd.prog 6 #[v0, .int .i64 which] w fun e w' => e = .returned (.bool true) ∧ Below w.heap.size w w' := by
  have g0 := great_any v0 L w h0
  rw [hg] at g0
  have hAl := All_any v0 L (by omega) w h0
  have hal := allP_len L
  obtain ⟨A, c, rfl⟩ := h0.len
  have H0 := Lib.hid h0
  have HT := Lib.hid hT
  have HR := Lib.hid hr
  have d8 : decide ((8 : Int) < (L.length : Int)) = false := decide_eq_false (by omega)
  have e2 : IntKind.i64.wrap (2 * (L.length : Int)) = ((2 * L.length : Nat) : Int) := by rw [IntWalk.i64_in _ (by omega)]; omega
  have e3 : (((allP L).length : Int) == 2 * (L.length : Int)) = true := by rw [hal]; simp
  have hl16 : (allP L).length ≤ 16 := by omega
  generalize hall : allP L = all at *
  have HALL := Lib.hid hall
  clear hg h0 hT hr hall hal
  go_enter Tryd.func6, Tryd.ntmps6
  go_wp2_with fail
  go_at_call 8
  refine g0.mono ?_
  rintro e w1 ⟨rfl, rfl⟩
  clear g0
  go_wp2_with fail
  go_at_call 14
  refine hAl.mono ?_
  rintro e w1 ⟨u, rfl, hown, hB⟩
  obtain ⟨A2, c2, rfl, hc, hcs⟩ := Sl.of_own hown
  have HC := Lib.hid hcs
  have HL := Lib.hid hl16
  clear hAl hown hcs hc
  go_wp2_with fail
  have hdr : Tryd.prog.follows .mixedOrders = true := by kernel_rfl
  obtain ⟨i0, hi, hz0, hz1, hz2⟩ := info_parts info_pr
  go_loopw [6, 7] (fun f i wr => ∃ k : Nat, k ≤ all.length ∧ i = .int .i64 k ∧ f = .bool (finA all k) ∧ Below w1.heap.size w1 wr) (fun _ i _ => all.length - (RowKit.intOf i).toNat)
  case atStart => exact ⟨0, Nat.zero_le _, rfl, rfl, Below.refl _ _⟩
  case round =>
   obtain ⟨i, hil0, rfl, rfl, hB2⟩ := hrel
   by_cases hlt : i < all.length
   · obtain ⟨b, off, rfl, hb, hcell⟩ := HC.out (by omega)
     obtain ⟨x, hx⟩ : ∃ x, all[i] = x := ⟨_, rfl⟩
     have hcx := (hB2.cell (p := ⟨b, off + i, none⟩) hb).trans (hcell i x (by rw [List.getElem?_eq_getElem hlt, hx]))
     have hil : (i : Int) < (all.length : Int) := by omega
     have HCL := Lib.hid hcell
     have HX := Lib.hid (show all[i]? = some x from by rw [List.getElem?_eq_getElem hlt, hx])
     have Hi := Lib.hid hlt
     obtain ⟨acc, hacc⟩ : ∃ acc, (finA all i && oneG x) = acc := ⟨_, rfl⟩
     have HSX := Lib.hid (show finA all (i + 1) = finR all i acc i from by rw [finA, HX.out, ← hacc]; rfl)
     have hTw := HT.out.below (below_trans hB hB2)
     have hO := One_any x wr hTw
     have hi16 : i ≤ 16 := by have := HL.out; omega
     clear hlt hil0 hcell hx
     cases hf : finA all i with
     | true =>
       have hacc : oneG x = acc := by rw [hf] at hacc; exact hacc
       rw [hacc] at hO
       have HA := Lib.hid (show acc = acc from rfl)
       clear hf hacc hTw
       go_wp2_with fail
       go_at_call 21
       refine hO.mono ?_
       rintro e w2 ⟨rfl, hBo⟩
       have hBx := hB2.trans (hBo.mono hB2.size)
       clear hO hcx hB2 hBo
       go_wp2_with fail
       go_loopw [6, 8] (fun f j wx => ∃ k : Nat, k ≤ i ∧ j = .int .i64 k ∧ f = .bool (finR all i acc k) ∧ Below w1.heap.size w1 wx) (fun _ j _ => i - (RowKit.intOf j).toNat)
       case atStart => exact ⟨0, Nat.zero_le _, rfl, by first | rfl | (rw [HA.out]; rfl), hBx⟩
       case round =>
        obtain ⟨k, hk, rfl, rfl, hB3⟩ := hrel
        by_cases hlt2 : k < i
        · have hka : k < all.length := Nat.lt_trans hlt2 Hi.out
          obtain ⟨y, hy⟩ : ∃ y, all[k] = y := ⟨_, rfl⟩
          have hcell2 : ∀ W, Below w1.heap.size w1 W → W.cell? ⟨b, off + i, none⟩ = some (sV x) ∧ W.cell? ⟨b, off + k, none⟩ = some (sV y) := fun W hW => ⟨(hW.cell (p := ⟨b, off + i, none⟩) hb).trans (HCL.out i x HX.out), (hW.cell (p := ⟨b, off + k, none⟩) hb).trans (HCL.out k y (by rw [List.getElem?_eq_getElem hka, hy]))⟩
          have hki : (k : Int) < (i : Int) := by omega
          have hil : (i : Int) < (all.length : Int) := by have := Hi.out; omega
          have hkl : (k : Int) < (all.length : Int) := by omega
          have HR := Lib.hid (show finR all i acc (k + 1) = (finR all i acc k && decide (5 ≤ dC x y)) from by rw [finR_succ all i k acc x HX.out hka, hy])
          have Hk := Lib.hid hlt2
          have HB3 := Lib.hid hB3
          clear hlt2 hka hk hy
          cases hf : finR all i acc k with
          | false =>
            have HM := Lib.hid (show finR all i acc (k + 1) = false from by rw [HR.out, hf]; rfl)
            clear HR hf hcell2
            go_wp2_with fail
            refine wp_region_ghostE (fun s => s == 6) (fun (_ : Nat → Bool) (g : Nat → Value) W => Below wr.heap.size wr W ∧ g 15 = .bool false) (fun g => [(45, .bool false), (46, .bool false), (47, undef), (48, undef), (49, undef), (50, undef), (51, undef), (52, undef), (53, undef), (54, undef), (55, undef), (56, undef), (57, undef), (58, undef), (59, .bool false), (6, g 15)]) (fun _ => .bool false)
             (by kernel_rfl) (by kernel_rfl) (by kernel_rfl) (by kernel_rfl) (fun _ => by kernel_rfl) ?exA ?startA ?okA ?finA
            case exA =>
             intro s hs
             obtain rfl : s = 6 := eq_of_beq hs
             simp only [putAll, Act.put, List.setIfInBounds_toArray, List.set_cons_zero, List.set_cons_succ]
             rfl
            case startA =>
             intro D hD
             exact ⟨⟨rfl, rfl, rfl, Nat.le_refl _, fun _ _ => rfl⟩, rfl⟩
            case okA =>
             intro T hT
             simp only [putAll, Act.put, List.setIfInBounds_toArray, List.set_cons_zero, List.set_cons_succ] at hT
             simp only [geAll]
             refine ⟨?_, ?_, ?_, ?_, ?_, ?_, ?_, ?_, ?_, ?_, ?_, ?_, ?_, ?_, ?_, ?_, trivial⟩
             all_goals
              refine ge_same fun D g w' hD hdp hS => ?_
              obtain ⟨hS1, hS2⟩ := hS
              rw [hT g, hS2]
              have HS := Lib.hid hS1
              clear hT hD hdp hS1
              go_simp
              first
               | exact HS.out
               | exact ⟨HS.out, hS2⟩
               | exact ⟨rfl, HS.out, hS2⟩
            case finA =>
             intro T hT D g w6 hD hS
             simp only [putAll, Act.put, List.setIfInBounds_toArray, List.set_cons_zero, List.set_cons_succ] at hT
             rw [hT g, hS.2]
             have hS6 := hS.1
             clear hS hT hD
             have HS6 := Lib.hid hS6
             clear hS6
             go_wp2_with fail
             go_roundw
             case rel => exact ⟨k + 1, Hk.out, by go_num, by rw [HM.out], HB3.out.trans (HS6.out.mono HB3.out.size)⟩
             case measure => have := Hk.out; simp [RowKit.intOf]; omega
          | true =>
            have HM := Lib.hid (show finR all i acc (k + 1) = decide (5 ≤ dC x y) from by rw [HR.out, hf]; rfl)
            have hDi : ∀ W u v, Sl eB W.heap.size W u x → Sl eB W.heap.size W v y → Calls Tryd.prog 25 #[u, v] W fun e w' => e = .returned (.int .i64 (dC x y : Nat)) ∧ Below W.heap.size W w' := fun W u v h1 h2 => RDistance_any u v x y W h1 h2
            have hd5 : decide ((5 : Int) ≤ (dC x y : Int)) = decide (5 ≤ dC x y) := decide_eq_decide.2 (by omega)
            clear HR hf
            generalize decide (5 ≤ dC x y) = bd at *
            generalize dC x y = dd at *
            go_wp2_with fail
            refine wp_region_ghostE (fun s => s == 6) (DsE wr x y bd) (fun g => [(45, .bool true), (46, .bool true), (47, .slice (some ⟨b, off, none⟩) all.length c2), (48, .int .i64 i), (49, .pointer (some ⟨b, off + i, none⟩)), (50, sV x), (51, g 6), (52, .slice (some ⟨b, off, none⟩) all.length c2), (53, .int .i64 k), (54, .pointer (some ⟨b, off + k, none⟩)), (55, sV y), (56, g 11), (57, .int .i64 dd), (58, .bool bd), (59, .bool bd), (6, g 15)]) (fun j => if j = 15 then .bool true else undef)
             (by kernel_rfl) (by kernel_rfl) (by kernel_rfl) (by kernel_rfl) (fun _ => by kernel_rfl) ?exB ?startB ?okB ?finB
            case exB =>
             intro s hs
             obtain rfl : s = 6 := eq_of_beq hs
             simp only [putAll, Act.put, List.setIfInBounds_toArray, List.set_cons_zero, List.set_cons_succ]
             rfl
            case startB =>
             intro D hD
             have e15 := hD 15 (by decide)
             have e6 := hD 6 (by decide)
             have e11 := hD 11 (by decide)
             refine ⟨⟨⟨rfl, rfl, rfl, Nat.le_refl _, fun _ _ => rfl⟩, ?_, ?_⟩, fun _ => rfl, ?_, ?_⟩
             all_goals (intro h; simp [e6, e11, e15] at h)
            case okB =>
             intro T hT
             simp only [putAll, Act.put, List.setIfInBounds_toArray, List.set_cons_zero, List.set_cons_succ] at hT
             simp only [geAll]
             refine ⟨?_, ?_, ?_, ?_, ?_, ?_, ?_, ?_, ?_, ?_, ?_, ?_, ?_, ?_, ?_, ?_, trivial⟩
             case refine_7 =>
              refine ge_put rfl (fun g v => by rw [hT, hT]; rfl) fun D g w' hD hdp hS => ?_
              obtain ⟨cc, w'', hcv, hsl, hbl, -⟩ := to_bytes w' x
              have hS2 := Lib.hid (hS.first hbl hsl)
              rw [hT g]
              clear hT hcell2 hDi hS hsl hbl
              go_simp
              exact hS2.out
             case refine_12 =>
              refine ge_put rfl (fun g v => by rw [hT, hT]; rfl) fun D g w' hD hdp hS => ?_
              obtain ⟨cc, w'', hcv, hsl, hbl, -⟩ := to_bytes w' y
              have hS2 := Lib.hid (hS.second hbl hsl)
              rw [hT g]
              clear hT hcell2 hDi hS hsl hbl
              go_simp
              exact hS2.out
             case refine_13 =>
              refine ge_same fun D g w' hD hdp hS => ?_
              have hds : D 6 = true ∧ D 11 = true := by simp [Region.binds] at hdp; simp [hdp]
              have hq := hDi w' _ _ (hS.1.2.1 hds.1) (hS.1.2.2 hds.2)
              rw [hT g]
              clear hT hcell2 hDi
              go_simp
              refine hq.mono ?_
              rintro e w'' ⟨rfl, hB⟩
              exact ⟨rfl, hS.keep (by decide) (by decide) (by decide) (by decide) hB⟩
             case refine_1 =>
              refine ge_same fun D g w' hD hdp hS => ?_
              have h15 := hS.at0 hD
              have hS2 := Lib.hid hS.op0
              rw [hT g, h15]
              clear hT hcell2 hDi hS hdp hD
              go_simp
              exact hS2.out
             case refine_2 =>
              refine ge_same fun D g w' hD hdp hS => ?_
              obtain ⟨cx1, cx2⟩ := hcell2 w' (HB3.out.trans (hS.1.1.mono HB3.out.size))
              have hS2 := Lib.hid (hS.same (j := 1) (by decide) (by decide) (by decide) (by decide))
              rw [hT g]
              clear hT hcell2 hDi hS hdp hD
              go_simp
              exact hS2.out
             case refine_3 =>
              refine ge_same fun D g w' hD hdp hS => ?_
              obtain ⟨cx1, cx2⟩ := hcell2 w' (HB3.out.trans (hS.1.1.mono HB3.out.size))
              have hS2 := Lib.hid (hS.same (j := 2) (by decide) (by decide) (by decide) (by decide))
              rw [hT g]
              clear hT hcell2 hDi hS hdp hD
              go_simp
              exact hS2.out
             case refine_4 =>
              refine ge_same fun D g w' hD hdp hS => ?_
              obtain ⟨cx1, cx2⟩ := hcell2 w' (HB3.out.trans (hS.1.1.mono HB3.out.size))
              have hS2 := Lib.hid (hS.same (j := 3) (by decide) (by decide) (by decide) (by decide))
              rw [hT g]
              clear hT hcell2 hDi hS hdp hD
              go_simp
              exact hS2.out
             case refine_5 =>
              refine ge_same fun D g w' hD hdp hS => ?_
              obtain ⟨cx1, cx2⟩ := hcell2 w' (HB3.out.trans (hS.1.1.mono HB3.out.size))
              have hS2 := Lib.hid (hS.same (j := 4) (by decide) (by decide) (by decide) (by decide))
              rw [hT g]
              clear hT hcell2 hDi hS hdp hD
              go_simp
              exact hS2.out
             case refine_6 =>
              refine ge_same fun D g w' hD hdp hS => ?_
              obtain ⟨cx1, cx2⟩ := hcell2 w' (HB3.out.trans (hS.1.1.mono HB3.out.size))
              have hS2 := Lib.hid (hS.same (j := 5) (by decide) (by decide) (by decide) (by decide))
              rw [hT g]
              clear hT hcell2 hDi hS hdp hD
              go_simp
              exact hS2.out
             case refine_8 =>
              refine ge_same fun D g w' hD hdp hS => ?_
              obtain ⟨cx1, cx2⟩ := hcell2 w' (HB3.out.trans (hS.1.1.mono HB3.out.size))
              have hS2 := Lib.hid (hS.same (j := 7) (by decide) (by decide) (by decide) (by decide))
              rw [hT g]
              clear hT hcell2 hDi hS hdp hD
              go_simp
              exact hS2.out
             case refine_9 =>
              refine ge_same fun D g w' hD hdp hS => ?_
              obtain ⟨cx1, cx2⟩ := hcell2 w' (HB3.out.trans (hS.1.1.mono HB3.out.size))
              have hS2 := Lib.hid (hS.same (j := 8) (by decide) (by decide) (by decide) (by decide))
              rw [hT g]
              clear hT hcell2 hDi hS hdp hD
              go_simp
              exact hS2.out
             case refine_10 =>
              refine ge_same fun D g w' hD hdp hS => ?_
              obtain ⟨cx1, cx2⟩ := hcell2 w' (HB3.out.trans (hS.1.1.mono HB3.out.size))
              have hS2 := Lib.hid (hS.same (j := 9) (by decide) (by decide) (by decide) (by decide))
              rw [hT g]
              clear hT hcell2 hDi hS hdp hD
              go_simp
              exact hS2.out
             case refine_11 =>
              refine ge_same fun D g w' hD hdp hS => ?_
              obtain ⟨cx1, cx2⟩ := hcell2 w' (HB3.out.trans (hS.1.1.mono HB3.out.size))
              have hS2 := Lib.hid (hS.same (j := 10) (by decide) (by decide) (by decide) (by decide))
              rw [hT g]
              clear hT hcell2 hDi hS hdp hD
              go_simp
              exact hS2.out
             case refine_14 =>
              refine ge_same fun D g w' hD hdp hS => ?_
              obtain ⟨cx1, cx2⟩ := hcell2 w' (HB3.out.trans (hS.1.1.mono HB3.out.size))
              have hS2 := Lib.hid (hS.same (j := 13) (by decide) (by decide) (by decide) (by decide))
              rw [hT g]
              clear hT hcell2 hDi hS hdp hD
              go_simp
              exact hS2.out
             case refine_15 =>
              refine ge_same fun D g w' hD hdp hS => ?_
              obtain ⟨cx1, cx2⟩ := hcell2 w' (HB3.out.trans (hS.1.1.mono HB3.out.size))
              have hS2 := Lib.hid (hS.same (j := 14) (by decide) (by decide) (by decide) (by decide))
              rw [hT g]
              clear hT hcell2 hDi hS hdp hD
              go_simp
              exact hS2.out
             case refine_16 =>
              refine ge_put rfl (fun g v => by rw [hT, hT]; rfl) fun D g w' hD hdp hS => ?_
              have h0 : D 0 = true := by simp [Region.binds] at hdp; simp [hdp]
              have hS2 := Lib.hid (hS.op15 h0)
              rw [hT g]
              clear hT hcell2 hDi hS hdp hD
              go_simp
              exact hS2.out
            case finB =>
             intro T hT D g w' hD hS
             simp only [putAll, Act.put, List.setIfInBounds_toArray, List.set_cons_zero, List.set_cons_succ] at hT
             rw [hT g]
             have HS6 := Lib.hid hS.1.1
             have h15 := hS.2.2.1 (hD 15 (by decide))
             rw [h15]
             clear hS hT hD hcell2 hDi
             go_wp2_with fail
             go_roundw
             case rel => exact ⟨k + 1, Hk.out, by go_num, by rw [HM.out], HB3.out.trans (HS6.out.mono HB3.out.size)⟩
             case measure => have := Hk.out; simp [RowKit.intOf]; omega
        · obtain rfl : k = i := by omega
          have h3 : ¬ (k : Int) < (k : Int) := by omega
          clear hlt2 hk
          go_wp2_with fail
          go_roundw
          case rel => exact ⟨k + 1, Hi.out, by go_num, by rw [HSX.out], hB3⟩
          case measure => have := Hi.out; simp [RowKit.intOf]; omega
     | false =>
       have hacc : acc = false := by rw [hf] at hacc; exact hacc.symm
       have HA := Lib.hid hacc
       have hBx := hB2
       clear hf hacc hTw hO hcx hB2
       go_wp2_with fail
       go_loopw [6, 8] (fun f j wx => ∃ k : Nat, k ≤ i ∧ j = .int .i64 k ∧ f = .bool (finR all i acc k) ∧ Below w1.heap.size w1 wx) (fun _ j _ => i - (RowKit.intOf j).toNat)
       case atStart => exact ⟨0, Nat.zero_le _, rfl, by first | rfl | (rw [HA.out]; rfl), hBx⟩
       case round =>
        obtain ⟨k, hk, rfl, rfl, hB3⟩ := hrel
        by_cases hlt2 : k < i
        · have hka : k < all.length := Nat.lt_trans hlt2 Hi.out
          obtain ⟨y, hy⟩ : ∃ y, all[k] = y := ⟨_, rfl⟩
          have hcell2 : ∀ W, Below w1.heap.size w1 W → W.cell? ⟨b, off + i, none⟩ = some (sV x) ∧ W.cell? ⟨b, off + k, none⟩ = some (sV y) := fun W hW => ⟨(hW.cell (p := ⟨b, off + i, none⟩) hb).trans (HCL.out i x HX.out), (hW.cell (p := ⟨b, off + k, none⟩) hb).trans (HCL.out k y (by rw [List.getElem?_eq_getElem hka, hy]))⟩
          have hki : (k : Int) < (i : Int) := by omega
          have hil : (i : Int) < (all.length : Int) := by have := Hi.out; omega
          have hkl : (k : Int) < (all.length : Int) := by omega
          have HR := Lib.hid (show finR all i acc (k + 1) = (finR all i acc k && decide (5 ≤ dC x y)) from by rw [finR_succ all i k acc x HX.out hka, hy])
          have Hk := Lib.hid hlt2
          have HB3 := Lib.hid hB3
          clear hlt2 hka hk hy
          cases hf : finR all i acc k with
          | false =>
            have HM := Lib.hid (show finR all i acc (k + 1) = false from by rw [HR.out, hf]; rfl)
            clear HR hf hcell2
            go_wp2_with fail
            refine wp_region_ghostE (fun s => s == 6) (fun (_ : Nat → Bool) (g : Nat → Value) W => Below wr.heap.size wr W ∧ g 15 = .bool false) (fun g => [(45, .bool false), (46, .bool false), (47, undef), (48, undef), (49, undef), (50, undef), (51, undef), (52, undef), (53, undef), (54, undef), (55, undef), (56, undef), (57, undef), (58, undef), (59, .bool false), (6, g 15)]) (fun _ => .bool false)
             (by kernel_rfl) (by kernel_rfl) (by kernel_rfl) (by kernel_rfl) (fun _ => by kernel_rfl) ?exA ?startA ?okA ?finA
            case exA =>
             intro s hs
             obtain rfl : s = 6 := eq_of_beq hs
             simp only [putAll, Act.put, List.setIfInBounds_toArray, List.set_cons_zero, List.set_cons_succ]
             rfl
            case startA =>
             intro D hD
             exact ⟨⟨rfl, rfl, rfl, Nat.le_refl _, fun _ _ => rfl⟩, rfl⟩
            case okA =>
             intro T hT
             simp only [putAll, Act.put, List.setIfInBounds_toArray, List.set_cons_zero, List.set_cons_succ] at hT
             simp only [geAll]
             refine ⟨?_, ?_, ?_, ?_, ?_, ?_, ?_, ?_, ?_, ?_, ?_, ?_, ?_, ?_, ?_, ?_, trivial⟩
             all_goals
              refine ge_same fun D g w' hD hdp hS => ?_
              obtain ⟨hS1, hS2⟩ := hS
              rw [hT g, hS2]
              have HS := Lib.hid hS1
              clear hT hD hdp hS1
              go_simp
              first
               | exact HS.out
               | exact ⟨HS.out, hS2⟩
               | exact ⟨rfl, HS.out, hS2⟩
            case finA =>
             intro T hT D g w6 hD hS
             simp only [putAll, Act.put, List.setIfInBounds_toArray, List.set_cons_zero, List.set_cons_succ] at hT
             rw [hT g, hS.2]
             have hS6 := hS.1
             clear hS hT hD
             have HS6 := Lib.hid hS6
             clear hS6
             go_wp2_with fail
             go_roundw
             case rel => exact ⟨k + 1, Hk.out, by go_num, by rw [HM.out], HB3.out.trans (HS6.out.mono HB3.out.size)⟩
             case measure => have := Hk.out; simp [RowKit.intOf]; omega
          | true =>
            have HM := Lib.hid (show finR all i acc (k + 1) = decide (5 ≤ dC x y) from by rw [HR.out, hf]; rfl)
            have hDi : ∀ W u v, Sl eB W.heap.size W u x → Sl eB W.heap.size W v y → Calls Tryd.prog 25 #[u, v] W fun e w' => e = .returned (.int .i64 (dC x y : Nat)) ∧ Below W.heap.size W w' := fun W u v h1 h2 => RDistance_any u v x y W h1 h2
            have hd5 : decide ((5 : Int) ≤ (dC x y : Int)) = decide (5 ≤ dC x y) := decide_eq_decide.2 (by omega)
            clear HR hf
            generalize decide (5 ≤ dC x y) = bd at *
            generalize dC x y = dd at *
            go_wp2_with fail
            refine wp_region_ghostE (fun s => s == 6) (DsE wr x y bd) (fun g => [(45, .bool true), (46, .bool true), (47, .slice (some ⟨b, off, none⟩) all.length c2), (48, .int .i64 i), (49, .pointer (some ⟨b, off + i, none⟩)), (50, sV x), (51, g 6), (52, .slice (some ⟨b, off, none⟩) all.length c2), (53, .int .i64 k), (54, .pointer (some ⟨b, off + k, none⟩)), (55, sV y), (56, g 11), (57, .int .i64 dd), (58, .bool bd), (59, .bool bd), (6, g 15)]) (fun j => if j = 15 then .bool true else undef)
             (by kernel_rfl) (by kernel_rfl) (by kernel_rfl) (by kernel_rfl) (fun _ => by kernel_rfl) ?exB ?startB ?okB ?finB
            case exB =>
             intro s hs
             obtain rfl : s = 6 := eq_of_beq hs
             simp only [putAll, Act.put, List.setIfInBounds_toArray, List.set_cons_zero, List.set_cons_succ]
             rfl
            case startB =>
             intro D hD
             have e15 := hD 15 (by decide)
             have e6 := hD 6 (by decide)
             have e11 := hD 11 (by decide)
             refine ⟨⟨⟨rfl, rfl, rfl, Nat.le_refl _, fun _ _ => rfl⟩, ?_, ?_⟩, fun _ => rfl, ?_, ?_⟩
             all_goals (intro h; simp [e6, e11, e15] at h)
            case okB =>
             intro T hT
             simp only [putAll, Act.put, List.setIfInBounds_toArray, List.set_cons_zero, List.set_cons_succ] at hT
             simp only [geAll]
             refine ⟨?_, ?_, ?_, ?_, ?_, ?_, ?_, ?_, ?_, ?_, ?_, ?_, ?_, ?_, ?_, ?_, trivial⟩
             case refine_7 =>
              refine ge_put rfl (fun g v => by rw [hT, hT]; rfl) fun D g w' hD hdp hS => ?_
              obtain ⟨cc, w'', hcv, hsl, hbl, -⟩ := to_bytes w' x
              have hS2 := Lib.hid (hS.first hbl hsl)
              rw [hT g]
              clear hT hcell2 hDi hS hsl hbl
              go_simp
              exact hS2.out
             case refine_12 =>
              refine ge_put rfl (fun g v => by rw [hT, hT]; rfl) fun D g w' hD hdp hS => ?_
              obtain ⟨cc, w'', hcv, hsl, hbl, -⟩ := to_bytes w' y
              have hS2 := Lib.hid (hS.second hbl hsl)
              rw [hT g]
              clear hT hcell2 hDi hS hsl hbl
              go_simp
              exact hS2.out
             case refine_13 =>
              refine ge_same fun D g w' hD hdp hS => ?_
              have hds : D 6 = true ∧ D 11 = true := by simp [Region.binds] at hdp; simp [hdp]
              have hq := hDi w' _ _ (hS.1.2.1 hds.1) (hS.1.2.2 hds.2)
              rw [hT g]
              clear hT hcell2 hDi
              go_simp
              refine hq.mono ?_
              rintro e w'' ⟨rfl, hB⟩
              exact ⟨rfl, hS.keep (by decide) (by decide) (by decide) (by decide) hB⟩
             case refine_1 =>
              refine ge_same fun D g w' hD hdp hS => ?_
              have h15 := hS.at0 hD
              have hS2 := Lib.hid hS.op0
              rw [hT g, h15]
              clear hT hcell2 hDi hS hdp hD
              go_simp
              exact hS2.out
             case refine_2 =>
              refine ge_same fun D g w' hD hdp hS => ?_
              obtain ⟨cx1, cx2⟩ := hcell2 w' (HB3.out.trans (hS.1.1.mono HB3.out.size))
              have hS2 := Lib.hid (hS.same (j := 1) (by decide) (by decide) (by decide) (by decide))
              rw [hT g]
              clear hT hcell2 hDi hS hdp hD
              go_simp
              exact hS2.out
             case refine_3 =>
              refine ge_same fun D g w' hD hdp hS => ?_
              obtain ⟨cx1, cx2⟩ := hcell2 w' (HB3.out.trans (hS.1.1.mono HB3.out.size))
              have hS2 := Lib.hid (hS.same (j := 2) (by decide) (by decide) (by decide) (by decide))
              rw [hT g]
              clear hT hcell2 hDi hS hdp hD
              go_simp
              exact hS2.out
             case refine_4 =>
              refine ge_same fun D g w' hD hdp hS => ?_
              obtain ⟨cx1, cx2⟩ := hcell2 w' (HB3.out.trans (hS.1.1.mono HB3.out.size))
              have hS2 := Lib.hid (hS.same (j := 3) (by decide) (by decide) (by decide) (by decide))
              rw [hT g]
              clear hT hcell2 hDi hS hdp hD
              go_simp
              exact hS2.out
             case refine_5 =>
              refine ge_same fun D g w' hD hdp hS => ?_
              obtain ⟨cx1, cx2⟩ := hcell2 w' (HB3.out.trans (hS.1.1.mono HB3.out.size))
              have hS2 := Lib.hid (hS.same (j := 4) (by decide) (by decide) (by decide) (by decide))
              rw [hT g]
              clear hT hcell2 hDi hS hdp hD
              go_simp
              exact hS2.out
             case refine_6 =>
              refine ge_same fun D g w' hD hdp hS => ?_
              obtain ⟨cx1, cx2⟩ := hcell2 w' (HB3.out.trans (hS.1.1.mono HB3.out.size))
              have hS2 := Lib.hid (hS.same (j := 5) (by decide) (by decide) (by decide) (by decide))
              rw [hT g]
              clear hT hcell2 hDi hS hdp hD
              go_simp
              exact hS2.out
             case refine_8 =>
              refine ge_same fun D g w' hD hdp hS => ?_
              obtain ⟨cx1, cx2⟩ := hcell2 w' (HB3.out.trans (hS.1.1.mono HB3.out.size))
              have hS2 := Lib.hid (hS.same (j := 7) (by decide) (by decide) (by decide) (by decide))
              rw [hT g]
              clear hT hcell2 hDi hS hdp hD
              go_simp
              exact hS2.out
             case refine_9 =>
              refine ge_same fun D g w' hD hdp hS => ?_
              obtain ⟨cx1, cx2⟩ := hcell2 w' (HB3.out.trans (hS.1.1.mono HB3.out.size))
              have hS2 := Lib.hid (hS.same (j := 8) (by decide) (by decide) (by decide) (by decide))
              rw [hT g]
              clear hT hcell2 hDi hS hdp hD
              go_simp
              exact hS2.out
             case refine_10 =>
              refine ge_same fun D g w' hD hdp hS => ?_
              obtain ⟨cx1, cx2⟩ := hcell2 w' (HB3.out.trans (hS.1.1.mono HB3.out.size))
              have hS2 := Lib.hid (hS.same (j := 9) (by decide) (by decide) (by decide) (by decide))
              rw [hT g]
              clear hT hcell2 hDi hS hdp hD
              go_simp
              exact hS2.out
             case refine_11 =>
              refine ge_same fun D g w' hD hdp hS => ?_
              obtain ⟨cx1, cx2⟩ := hcell2 w' (HB3.out.trans (hS.1.1.mono HB3.out.size))
              have hS2 := Lib.hid (hS.same (j := 10) (by decide) (by decide) (by decide) (by decide))
              rw [hT g]
              clear hT hcell2 hDi hS hdp hD
              go_simp
              exact hS2.out
             case refine_14 =>
              refine ge_same fun D g w' hD hdp hS => ?_
              obtain ⟨cx1, cx2⟩ := hcell2 w' (HB3.out.trans (hS.1.1.mono HB3.out.size))
              have hS2 := Lib.hid (hS.same (j := 13) (by decide) (by decide) (by decide) (by decide))
              rw [hT g]
              clear hT hcell2 hDi hS hdp hD
              go_simp
              exact hS2.out
             case refine_15 =>
              refine ge_same fun D g w' hD hdp hS => ?_
              obtain ⟨cx1, cx2⟩ := hcell2 w' (HB3.out.trans (hS.1.1.mono HB3.out.size))
              have hS2 := Lib.hid (hS.same (j := 14) (by decide) (by decide) (by decide) (by decide))
              rw [hT g]
              clear hT hcell2 hDi hS hdp hD
              go_simp
              exact hS2.out
             case refine_16 =>
              refine ge_put rfl (fun g v => by rw [hT, hT]; rfl) fun D g w' hD hdp hS => ?_
              have h0 : D 0 = true := by simp [Region.binds] at hdp; simp [hdp]
              have hS2 := Lib.hid (hS.op15 h0)
              rw [hT g]
              clear hT hcell2 hDi hS hdp hD
              go_simp
              exact hS2.out
            case finB =>
             intro T hT D g w' hD hS
             simp only [putAll, Act.put, List.setIfInBounds_toArray, List.set_cons_zero, List.set_cons_succ] at hT
             rw [hT g]
             have HS6 := Lib.hid hS.1.1
             have h15 := hS.2.2.1 (hD 15 (by decide))
             rw [h15]
             clear hS hT hD hcell2 hDi
             go_wp2_with fail
             go_roundw
             case rel => exact ⟨k + 1, Hk.out, by go_num, by rw [HM.out], HB3.out.trans (HS6.out.mono HB3.out.size)⟩
             case measure => have := Hk.out; simp [RowKit.intOf]; omega
        · obtain rfl : k = i := by omega
          have h3 : ¬ (k : Int) < (k : Int) := by omega
          clear hlt2 hk
          go_wp2_with fail
          go_roundw
          case rel => exact ⟨k + 1, Hi.out, by go_num, by rw [HSX.out], hB3⟩
          case measure => have := Hi.out; simp [RowKit.intOf]; omega
   · obtain rfl : i = all.length := by omega
     have h3 : ¬ (all.length : Int) < (all.length : Int) := by omega
     clear hlt hil0 HC
     have hBt := below_trans hB hB2
     have hp3 := H0.out.next hBt
     have q1 := Check_any _ L (by have := HR.out; omega) wr (HT.out.below hBt) hp3
     have hce := chkE_fin L HR.out
     rw [HALL.out] at hce
     have hwk : ∀ W, Below w.heap.size w W → Calls Tryd.prog 9 #[] W fun e w' => e = .returned (.bool true) ∧ Below W.heap.size W w' := fun W h => wakes_any W (HT.out.below h)
     have hne : (!((chkE L == 0) == finA all all.length)) = false := by
      rw [hce]
      cases finA all all.length <;> rfl
     have HWK := Lib.hid hwk
     generalize finA all all.length = F at *
     generalize hE : chkE L = E at *
     clear hce hwk hE
     go_wp2_with fail
     go_at_call 17
     refine q1.mono ?_
     rintro e w3 ⟨rfl, hB3⟩
     have hBt3 := below_trans hBt hB3
     have hp3 := hp3.next hB3
     clear q1
     by_cases hL0 : L.length = 0
     · have hnil : L = [] := List.length_eq_zero_iff.1 hL0
       subst hnil
       have q2 := Least_any (.slice none 0 0) [] (by decide) w3 ⟨none, 0, rfl, Nat.le_refl _, fun h => absurd h (by simp)⟩
       have hle : leaA (allP []) (allP []).length = -1 := rfl
       rw [hle] at q2
       have dl0 : ((([] : List Pr).length : Int) == 0) = true := rfl
       clear hp3 hle
       go_wp2_with fail
       go_at_call 19
       refine q2.mono ?_
       rintro e w4 ⟨rfl, hB4⟩
       have hBt4 := below_trans hBt3 hB4
       have qw := HWK.out w4 hBt4
       clear q2
       go_wp2_with fail
       go_at_call 9
       refine qw.mono ?_
       rintro e w5 ⟨rfl, hB5⟩
       clear qw
       go_wp2_with fail
       go_ret
       exact ⟨rfl, below_trans hBt4 hB5⟩
     · obtain ⟨m, hm, hmz⟩ := place_in which L.length (by omega) (by have := HR.out; omega)
       have dl0 : ((L.length : Int) == 0) = false := by rw [beq_eq_false_iff_ne]; omega
       have dnz : ¬ (L.length : Int) = 0 := by omega
       obtain ⟨A', c', e, -, hcs⟩ := id hp3
       injection e with e1 e2 e3
       subst e1
       subst e3
       obtain ⟨b, off, rfl, hb, hcell⟩ := hcs (by omega)
       obtain ⟨pr, hpr⟩ : ∃ p, L[m] = p := ⟨_, rfl⟩
       have hmem : pr ∈ L := by rw [← hpr]; exact List.getElem_mem hm
       have hx1 := (hcell m hm).1
       have hx2 := (hcell m hm).2
       rw [hpr] at hx1 hx2
       have hml : (m : Int) < (L.length : Int) := by omega
       have HCE := Lib.hid hcell
       have HTW := Lib.hid (chk_twice L pr hmem)
       obtain ⟨a1, a2⟩ := pr
       simp only at hx1 hx2
       have hcN := prs_cells hcell
       have HCN := Lib.hid hcN
       clear hcs e2 hcell hpr hmem hcN
       go_wp2_with fail
       obtain ⟨N, hN⟩ : ∃ N, w3.alloc (.cells #[sV a1, sV a2] 46) = N := ⟨_, rfl⟩
       have hBN : Below w3.heap.size w3 N := by rw [← hN]; exact below_alloc _ _
       have hrN : Rowed N w3.heap.size 46 #[sV a1, sV a2] := by rw [← hN]; exact Rowed.new _ _ _
       have hzN : w3.heap.size < N.heap.size := hrN.lt
       rw [hN]
       have hcx : ∀ W, Below N.heap.size N W → W.cell? ⟨w3.heap.size, 0, none⟩ = some (sV a1) ∧ W.cell? ⟨w3.heap.size, 1, none⟩ = some (sV a2) := fun W hW => ⟨(hW.cell (p := ⟨w3.heap.size, 0, none⟩) hzN).trans (hrN.cell 0), (hW.cell (p := ⟨w3.heap.size, 1, none⟩) hzN).trans (hrN.cell 1)⟩
       have hcl : ∀ W, Below N.heap.size N W → ∀ j u, ((allP L).map sV)[j]? = some u → W.cell? ((⟨b, off, none⟩ : Addr).add j) = some u := fun W hW j u hu => by
        have e1 := HCN.out j u hu
        have e3 : ((⟨b, off, none⟩ : Addr).add j).block = b := by unfold Addr.add; split <;> rfl
        have e2 := (hBN.cell (p := (⟨b, off, none⟩ : Addr).add j) (by rw [e3]; exact hb)).trans e1
        exact (hW.cell (p := (⟨b, off, none⟩ : Addr).add j) (by rw [e3]; exact Nat.lt_trans hb hzN)).trans e2
       have hBt4 : Below w.heap.size w N := below_trans hBt3 hBN
       have hbd : ∀ w, (Instr.build 46 #[(0, sV a1), (1, sV a1)]).run Tryd.prog w = .ok (.agg #[sV a1, sV a1]) w := fun _ => by kernel_rfl
       have HP3 := Lib.hid hp3
       have HX := Lib.hid hcx
       have HCL2 := Lib.hid hcl
       have hL8 := HR.out
       have hone : ∀ u ∈ (allP L).map sV, u.oneCell' = true := by simp [Value.oneCell']
       obtain ⟨cs, hcs⟩ : ∃ cs, (allP L).map sV = cs := ⟨_, rfl⟩
       have hcsl : cs.length = 2 * L.length := by rw [← hcs, List.length_map, allP_len]
       have HCS := Lib.hid hcs
       clear hcx hcl hp3 hx1 hx2 hN
       refine wp_region_ghost (fun D g w => MyS N L a1 a2 D g w ∧ Ch D) (fun g => [(86, g 0), (87, .slice (some ⟨b, off, none⟩) L.length c), (88, g 2), (89, .agg #[sV a1, sV a2]), (90, g 4), (91, g 5), (92, .int .i64 200), (93, .bool true), (94, .bool true), (95, .pointer (some ⟨w3.heap.size, 0, none⟩)), (96, sV a1), (97, .pointer (some ⟨w3.heap.size, 0, none⟩)), (98, sV a1), (99, .agg #[sV a1, sV a1]), (100, g 14), (101, .int .i64 200), (102, .bool true), (103, .bool true), (104, .bool true), (105, .bool true), (106, .bool true), (4, .bool true)]) (fun _ => undef)
        (by kernel_rfl) (by kernel_rfl) (by kernel_rfl) (by kernel_rfl) (fun _ => by kernel_rfl) ?startM ?okM ?finM
       case startM =>
        intro D hD
        have e0 := hD 0 (by decide)
        have e2 := hD 2 (by decide)
        have e4 := hD 4 (by decide)
        have e5 := hD 5 (by decide)
        have e14 := hD 14 (by decide)
        have n6 := hD 6 (by decide)
        have n7 := hD 7 (by decide)
        have n8 := hD 8 (by decide)
        have n17 := hD 17 (by decide)
        have n18 := hD 18 (by decide)
        refine ⟨⟨⟨rfl, rfl, rfl, Nat.le_refl _, fun _ _ => rfl⟩, ?_, ?_, ?_, ?_, ?_, ?_, ?_, ?_⟩, ?_⟩
        case refine_9 => rintro j (rfl | rfl | rfl | rfl | rfl) h <;> simp_all
        all_goals (intro h; simp [e0, e2, e4, e5, e14] at h)
       case okM =>
        intro T hT
        simp only [putAll, Act.put, List.setIfInBounds_toArray, List.set_cons_zero, List.set_cons_succ] at hT
        simp only [ghAll]
        refine ⟨?_, ?_, ?_, ?_, ?_, ?_, ?_, ?_, ?_, ?_, ?_, ?_, ?_, ?_, ?_, ?_, ?_, ?_, ?_, ?_, ?_, ?_, trivial⟩
        case refine_1 =>
         refine gh_put rfl rfl (fun g v => by rw [hT, hT]; rfl) fun D g w' hD hdp ⟨hS, hC⟩ => ?_
         have hS2 := Lib.hid (And.intro (hS.op0 hD) (hC.set 0 (by simp)))
         rw [hT g]
         clear hT hS hdp
         go_simp
         exact hS2.out
        case refine_3 =>
         refine gh_put rfl rfl (fun g v => by rw [hT, hT]; rfl) fun D g w' hD hdp ⟨hS, hC⟩ => ?_
         have hds : D 0 = true := by simp [Region.binds] at hdp; simp [hdp]
         obtain ⟨q, hg0, hNq, hrq⟩ := hS.2.1 hds hD
         have hown0 : w'.ownsRow N.heap.size 46 2 (g 0) 0 [] := by
          rw [hg0]
          exact ⟨by simp, .inr ⟨q, 0, #[], rfl, hNq, hrq, Nat.le_refl _, by unfold maxLen; omega, rfl, rfl⟩⟩
         refine wp_append_own w' (.tmp 86) (.tmp 87) _ rfl N.heap.size 46 i0 _ 2 32 Tryd.underlying22 hi hz0 hz1 hz2 (by decide) (by decide) (g 0) 0 [] (by rw [hT g]; rfl) hown0 ⟨b, off, none⟩ L.length c cs (by rw [hT g]; rfl) (by omega) (by rw [← hcs]; exact HCL2.out w' hS.1) (by rw [← hcs]; exact hone) (by unfold maxLen; omega) (by omega) hS.1.size ?_
         intro v' w2 hown hgr _
         refine ⟨v', rfl, hS.op2 hD hds hNq hrq ?_ (by rw [hg0] at hgr; exact hgr), hC.set 2 (by simp)⟩
         rw [← hcs] at hown
         simpa using hown
        case refine_5 =>
         refine gh_put rfl rfl (fun g v => by rw [hT, hT]; rfl) fun D g w' hD hdp ⟨hS, hC⟩ => ?_
         have hS2 := Lib.hid (And.intro (hS.op4 hD) (hC.set 4 (by simp)))
         rw [hT g]
         clear hT hS hdp
         go_simp
         exact hS2.out
        case refine_6 =>
         refine gh_put rfl rfl (fun g v => by rw [hT, hT]; rfl) fun D g w' hD hdp ⟨hS, hC⟩ => ?_
         have hds : D 2 = true ∧ D 4 = true := by simp [Region.binds] at hdp; simp [hdp]
         obtain ⟨q, hg4, hrq⟩ := hS.2.2.2.1 hds.2 hD
         have hown2 := hS.2.2.1 hds.1 hD
         rw [hcs] at hown2
         have hcq : ∀ j u, [sV a1, sV a2][j]? = some u → w'.cell? ((⟨q, 0, none⟩ : Addr).add j) = some u := fun j u h => by
          have e : ((⟨q, 0, none⟩ : Addr).add j) = ⟨q, j, none⟩ := by unfold Addr.add; split <;> simp_all
          rw [e, hrq.cell]
          simpa using h
         refine wp_append_own w' (.tmp 88) (.tmp 90) _ rfl N.heap.size 46 i0 _ 2 32 Tryd.underlying22 hi hz0 hz1 hz2 (by decide) (by decide) (g 2) L.length cs (by rw [hT g]; rfl) hown2 ⟨q, 0, none⟩ 1 1 [sV a1, sV a2] (by rw [hT g]; exact hg4) rfl hcq (by simp [Value.oneCell']) (by unfold maxLen; omega) (by omega) hS.1.size ?_
         intro v' w2 hown hgr _
         refine ⟨v', rfl, hS.op5 hD hds.1 hds.2 (own_prs (base := N.heap.size) ?_) (hS.1.grown hgr hS.1.size fun k e => (hown2.lt k e).1), hC.set 5 (by simp)⟩
         rw [allP_snoc, List.map_append, hcs, List.length_append]
         exact hown
        case refine_7 =>
         refine gh_same fun D g w' hD hdp ⟨hS, hC⟩ => ?_
         have hds : D 5 = true := by simp [Region.binds] at hdp; simp [hdp]
         have hBw := below_trans hBt4 hS.1
         have hq := Check_any (g 5) (L ++ [(a1, a2)]) (by rw [List.length_append]; simp; omega) w' (HT.out.below hBw) (hS.2.2.2.2.1 hds)
         rw [HTW.out] at hq
         rw [hT g]
         clear hT
         go_simp
         refine hq.mono ?_
         rintro e w'' ⟨rfl, hB⟩
         exact ⟨rfl, hS.call (by decide) (by decide) (by decide) (by decide) (by decide) hds hB, hC.set 6 fun _ => hds⟩
        case refine_15 =>
         refine gh_put rfl rfl (fun g v => by rw [hT, hT]; rfl) fun D g w' hD hdp ⟨hS, hC⟩ => ?_
         have hds : D 8 = true := by simp [Region.binds] at hdp; simp [hdp]
         have hS2 := Lib.hid (And.intro (hS.op14 (hC 8 (by decide) hds)) (hC.set 14 (by simp)))
         rw [hT g]
         clear hT hS hdp
         go_simp
         exact hS2.out
        case refine_16 =>
         refine gh_same fun D g w' hD hdp ⟨hS, hC⟩ => ?_
         have hds : D 14 = true := by simp [Region.binds] at hdp; simp [hdp]
         have hBw := below_trans hBt4 hS.1
         have hq := Check_any (g 14) [(a1, a1)] (by simp) w' (HT.out.below hBw) (hS.2.2.2.2.2.1 hds)
         rw [chk_same] at hq
         have h5 := hS.2.2.2.2.2.2.2.2 hds
         rw [hT g]
         clear hT
         go_simp
         refine hq.mono ?_
         rintro e w'' ⟨rfl, hB⟩
         exact ⟨rfl, hS.call (by decide) (by decide) (by decide) (by decide) (by decide) h5 hB, hC.set 15 (by simp)⟩
        case refine_20 =>
         refine gh_same fun D g w' hD hdp ⟨hS, hC⟩ => ?_
         have hds : D 18 = true := by simp [Region.binds] at hdp; simp [hdp]
         have h5 := hC 18 (by decide) hds
         have hq := HWK.out w' (below_trans hBt4 hS.1)
         rw [hT g]
         clear hT
         go_simp
         refine hq.mono ?_
         rintro e w'' ⟨rfl, hB⟩
         exact ⟨rfl, hS.call (by decide) (by decide) (by decide) (by decide) (by decide) h5 hB, hC.set 19 (by simp)⟩
        case refine_2 =>
         refine gh_same fun D g w' hD hdp ⟨hS, hC⟩ => ?_
         obtain ⟨cx1, cx2⟩ := HX.out w' hS.1
         have hS2 := Lib.hid (And.intro (hS.same (i := 1) (by decide) (by decide) (by decide) (by decide) (by decide)) (hC.set 1 (by simp)))
         rw [hT g]
         clear hT hS hdp hD
         go_simp
         exact hS2.out
        case refine_4 =>
         refine gh_same fun D g w' hD hdp ⟨hS, hC⟩ => ?_
         obtain ⟨cx1, cx2⟩ := HX.out w' hS.1
         have hS2 := Lib.hid (And.intro (hS.same (i := 3) (by decide) (by decide) (by decide) (by decide) (by decide)) (hC.set 3 (by simp)))
         rw [hT g]
         clear hT hS hdp hD
         go_simp
         exact hS2.out
        case refine_8 =>
         refine gh_same fun D g w' hD hdp ⟨hS, hC⟩ => ?_
         obtain ⟨cx1, cx2⟩ := HX.out w' hS.1
         have hS2 := Lib.hid (And.intro (hS.same (i := 7) (by decide) (by decide) (by decide) (by decide) (by decide)) (hC.set 7 (fun _ => hC 6 (by decide) (by simp [Region.binds] at hdp; simp [hdp]))))
         rw [hT g]
         clear hT hS hdp hD
         go_simp
         exact hS2.out
        case refine_9 =>
         refine gh_same fun D g w' hD hdp ⟨hS, hC⟩ => ?_
         obtain ⟨cx1, cx2⟩ := HX.out w' hS.1
         have hS2 := Lib.hid (And.intro (hS.same (i := 8) (by decide) (by decide) (by decide) (by decide) (by decide)) (hC.set 8 (fun _ => hC 7 (by decide) (by simp [Region.binds] at hdp; simp [hdp]))))
         rw [hT g]
         clear hT hS hdp hD
         go_simp
         exact hS2.out
        case refine_10 =>
         refine gh_same fun D g w' hD hdp ⟨hS, hC⟩ => ?_
         obtain ⟨cx1, cx2⟩ := HX.out w' hS.1
         have hS2 := Lib.hid (And.intro (hS.same (i := 9) (by decide) (by decide) (by decide) (by decide) (by decide)) (hC.set 9 (by simp)))
         rw [hT g]
         clear hT hS hdp hD
         go_simp
         exact hS2.out
        case refine_11 =>
         refine gh_same fun D g w' hD hdp ⟨hS, hC⟩ => ?_
         obtain ⟨cx1, cx2⟩ := HX.out w' hS.1
         have hS2 := Lib.hid (And.intro (hS.same (i := 10) (by decide) (by decide) (by decide) (by decide) (by decide)) (hC.set 10 (by simp)))
         rw [hT g]
         clear hT hS hdp hD
         go_simp
         exact hS2.out
        case refine_12 =>
         refine gh_same fun D g w' hD hdp ⟨hS, hC⟩ => ?_
         obtain ⟨cx1, cx2⟩ := HX.out w' hS.1
         have hS2 := Lib.hid (And.intro (hS.same (i := 11) (by decide) (by decide) (by decide) (by decide) (by decide)) (hC.set 11 (by simp)))
         rw [hT g]
         clear hT hS hdp hD
         go_simp
         exact hS2.out
        case refine_13 =>
         refine gh_same fun D g w' hD hdp ⟨hS, hC⟩ => ?_
         obtain ⟨cx1, cx2⟩ := HX.out w' hS.1
         have hS2 := Lib.hid (And.intro (hS.same (i := 12) (by decide) (by decide) (by decide) (by decide) (by decide)) (hC.set 12 (by simp)))
         rw [hT g]
         clear hT hS hdp hD
         go_simp
         exact hS2.out
        case refine_14 =>
         refine gh_same fun D g w' hD hdp ⟨hS, hC⟩ => ?_
         obtain ⟨cx1, cx2⟩ := HX.out w' hS.1
         have hS2 := Lib.hid (And.intro (hS.same (i := 13) (by decide) (by decide) (by decide) (by decide) (by decide)) (hC.set 13 (by simp)))
         rw [hT g]
         clear hT hS hdp hD
         go_simp
         exact hS2.out
        case refine_17 =>
         refine gh_same fun D g w' hD hdp ⟨hS, hC⟩ => ?_
         obtain ⟨cx1, cx2⟩ := HX.out w' hS.1
         have hS2 := Lib.hid (And.intro (hS.same (i := 16) (by decide) (by decide) (by decide) (by decide) (by decide)) (hC.set 16 (by simp)))
         rw [hT g]
         clear hT hS hdp hD
         go_simp
         exact hS2.out
        case refine_18 =>
         refine gh_same fun D g w' hD hdp ⟨hS, hC⟩ => ?_
         obtain ⟨cx1, cx2⟩ := HX.out w' hS.1
         have hS2 := Lib.hid (And.intro (hS.same (i := 17) (by decide) (by decide) (by decide) (by decide) (by decide)) (hC.set 17 (fun _ => hC 8 (by decide) (by simp [Region.binds] at hdp; simp [hdp]))))
         rw [hT g]
         clear hT hS hdp hD
         go_simp
         exact hS2.out
        case refine_19 =>
         refine gh_same fun D g w' hD hdp ⟨hS, hC⟩ => ?_
         obtain ⟨cx1, cx2⟩ := HX.out w' hS.1
         have hS2 := Lib.hid (And.intro (hS.same (i := 18) (by decide) (by decide) (by decide) (by decide) (by decide)) (hC.set 18 (fun _ => hC 17 (by decide) (by simp [Region.binds] at hdp; simp [hdp]))))
         rw [hT g]
         clear hT hS hdp hD
         go_simp
         exact hS2.out
        case refine_21 =>
         refine gh_same fun D g w' hD hdp ⟨hS, hC⟩ => ?_
         obtain ⟨cx1, cx2⟩ := HX.out w' hS.1
         have hS2 := Lib.hid (And.intro (hS.same (i := 20) (by decide) (by decide) (by decide) (by decide) (by decide)) (hC.set 20 (by simp)))
         rw [hT g]
         clear hT hS hdp hD
         go_simp
         exact hS2.out
        case refine_22 =>
         refine gh_same fun D g w' hD hdp ⟨hS, hC⟩ => ?_
         obtain ⟨cx1, cx2⟩ := HX.out w' hS.1
         have hS2 := Lib.hid (And.intro (hS.same (i := 21) (by decide) (by decide) (by decide) (by decide) (by decide)) (hC.set 21 (by simp)))
         rw [hT g]
         clear hT hS hdp hD
         go_simp
         exact hS2.out
       case finM =>
        intro T hT D g w6 hD hS
        simp only [putAll, Act.put, List.setIfInBounds_toArray, List.set_cons_zero, List.set_cons_succ] at hT
        rw [hT g]
        have HS6 := Lib.hid hS.1.1
        clear hS hT hD
        go_wp2_with fail
        go_ret
        exact ⟨rfl, below_trans hBt4 HS6.out⟩
set_option maxRecDepth 100000 in
set_option maxHeartbeats 4000000 in
theorem PrimersMay_any (v0 : Value) (which : Int) (L : List Pr) (w : World) (h0 : PrsIn w.heap.size w v0 L) (hT : Tab w) :
    Calls Tryd.prog 6 #[v0, .int .i64 which] w fun e w' => e = .returned (.bool true) ∧ Below w.heap.size w w' := by
  by_cases h8 : gr20 L = false ∧ L.length ≤ 8
  · exact May_loops v0 which L h8.2 w hT h0 h8.1
  · have g0 := great_any v0 L w h0
    have hwk := wakes_any w hT
    obtain ⟨A, c, rfl⟩ := h0.len
    cases hg : gr20 L with
    | true =>
      rw [hg] at g0
      clear h8 h0
      go_enter Tryd.func6, Tryd.ntmps6
      go_wp2_with fail
      go_at_call 8
      refine g0.mono ?_
      rintro e w1 ⟨rfl, rfl⟩
      clear g0
      go_wp2_with fail
      go_at_call 9
      refine hwk.mono ?_
      rintro e w2 ⟨rfl, hB⟩
      clear hwk
      go_wp2_with fail
      go_ret
      exact ⟨rfl, hB⟩
    | false =>
      rw [hg] at g0
      have d8 : decide ((8 : Int) < (L.length : Int)) = true := decide_eq_true (by have : ¬ L.length ≤ 8 := fun h => h8 ⟨hg, h⟩; omega)
      clear h8 h0
      go_enter Tryd.func6, Tryd.ntmps6
      go_wp2_with fail
      go_at_call 8
      refine g0.mono ?_
      rintro e w1 ⟨rfl, rfl⟩
      clear g0
      go_wp2_with fail
      go_at_call 9
      refine hwk.mono ?_
      rintro e w2 ⟨rfl, hB⟩
      clear hwk
      go_wp2_with fail
      go_ret
      exact ⟨rfl, hB⟩
end Go.Proofs.YtcngnjkpnmpcpaaDoor
