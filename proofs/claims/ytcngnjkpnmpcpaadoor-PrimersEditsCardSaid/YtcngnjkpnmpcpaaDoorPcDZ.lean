import Derived.Test.YtcngnjkpnmpcpaaDoorPaHZ
import Derived.Test.YtcngnjkpnmpcpaaDoorPcBZ
import Derived.Test.YtcngnjkpnmpcpaaDoorPcCZ
import Derived.Test.YtcngnjkpnmpcpaaDoorRdEZ
namespace Go.Proofs.YtcngnjkpnmpcpaaDoor
open Go.RowKit Go.Shelf
attribute [local go_sem] Oper.semAt_some run_store_func
set_option maxRecDepth 100000 in
set_option maxHeartbeats 8000000 in
theorem RLeastP_any (v0 : Value) (L : List Pr) (hr : L.length ≤ 1000) (w : World) (h0 : PrsIn w.heap.size w v0 L) :
    Calls Tryd.prog 20 #[v0] w fun e w' => e = .returned (.int .i64 (leaA (allP L) (allP L).length)) ∧ Below w.heap.size w w' := by
  have hAl := RAllP_any v0 L hr w h0
  have hdr : Tryd.prog.follows .mixedOrders = true := by kernel_rfl
  obtain ⟨A, c, rfl⟩ := h0.len
  have hl2 : (allP L).length ≤ 2000 := by rw [allP_len]; omega
  generalize allP L = all at *
  clear h0
  go_enter Tryd.func20, Tryd.ntmps20
  go_wp2_with fail
  go_at_call 15
  refine hAl.mono ?_
  rintro e w1 ⟨u, rfl, hown, hB⟩
  obtain ⟨A2, c2, rfl, hc, hcs⟩ := Sl.of_own hown
  have HC := Lib.hid hcs
  have HL := Lib.hid hl2
  clear hAl hown hcs hc
  go_wp2_with fail
  go_loopw [4, 5] (fun t i wr => ∃ k : Nat, k ≤ all.length ∧ i = .int .i64 k ∧ t = .int .i64 (leaA all k) ∧ Below w1.heap.size w1 wr) (fun _ i _ => all.length - (RowKit.intOf i).toNat)
  case atStart => exact ⟨0, Nat.zero_le _, rfl, rfl, Below.refl _ _⟩
  case round =>
   obtain ⟨i, hi, rfl, rfl, hB2⟩ := hrel
   by_cases hlt : i < all.length
   · obtain ⟨b, off, rfl, hb, hcell⟩ := HC.out (by omega)
     have hil : (i : Int) < (all.length : Int) := by omega
     have hi9 : i ≤ 2000 := by have := HL.out; omega
     have HCL := Lib.hid hcell
     obtain ⟨xi, hxi⟩ : ∃ x, all[i] = x := ⟨_, rfl⟩
     have HXI := Lib.hid (show all[i]? = some xi from by rw [List.getElem?_eq_getElem hlt, hxi])
     have Hi := Lib.hid hlt
     clear hxi
     have HSX := Lib.hid (show leaA all (i + 1) = leaR all i (leaA all i) i from rfl)
     clear hlt hi hcell
     go_wp2_with fail
     go_loopw [4, 6] (fun t j wr => ∃ k : Nat, k ≤ i ∧ j = .int .i64 k ∧ t = .int .i64 (leaR all i (leaA all i) k) ∧ Below w1.heap.size w1 wr) (fun _ j _ => i - (RowKit.intOf j).toNat)
     case atStart => exact ⟨0, Nat.zero_le _, rfl, rfl, hB2⟩
     case round =>
      obtain ⟨k, hk, rfl, rfl, hB3⟩ := hrel
      by_cases hlt2 : k < i
      · have hka : k < all.length := Nat.lt_trans hlt2 Hi.out
        have hki : (k : Int) < (i : Int) := by omega
        have hil : (i : Int) < (all.length : Int) := by have := Hi.out; omega
        have hkl : (k : Int) < (all.length : Int) := by omega
        have HR := Lib.hid (leaR_succ all i k (leaA all i) xi HXI.out hka)
        have Hk := Lib.hid hlt2
        obtain ⟨y, hy⟩ : ∃ y, all[k] = y := ⟨_, rfl⟩
        rw [hy] at HR
        have hcell2 : ∀ W, Below w1.heap.size w1 W → W.cell? ⟨b, off + i, none⟩ = some (sV xi) ∧ W.cell? ⟨b, off + k, none⟩ = some (sV y) := fun W hW => ⟨(hW.cell (p := ⟨b, off + i, none⟩) hb).trans (HCL.out i xi HXI.out), (hW.cell (p := ⟨b, off + k, none⟩) hb).trans (HCL.out k y (by rw [List.getElem?_eq_getElem hka, hy]))⟩
        have hDi : ∀ W u v, Sl eB W.heap.size W u xi → Sl eB W.heap.size W v y → Calls Tryd.prog 25 #[u, v] W fun e w' => e = .returned (.int .i64 (dC xi y : Nat)) ∧ Below W.heap.size W w' := fun W u v h1 h2 => RDistance_any u v xi y W h1 h2
        have hdl := dC_le xi y
        generalize leaR all i (leaA all i) k = acc at *
        generalize dC xi y = d at *
        have HB3 := Lib.hid hB3
        clear hlt2 hka hk hy hB3 hB2
        go_wp2_with fail
        refine wp_region_ghost (DsS 4 9 wr xi y) (fun g => [(21, .slice (some ⟨b, off, none⟩) all.length c2), (22, .int .i64 i), (23, .pointer (some ⟨b, off + i, none⟩)), (24, sV xi), (25, g 4), (26, .slice (some ⟨b, off, none⟩) all.length c2), (27, .int .i64 k), (28, .pointer (some ⟨b, off + k, none⟩)), (29, sV y), (30, g 9), (31, .int .i64 d), (7, .int .i64 d)]) (fun _ => undef)
         (by kernel_rfl) (by kernel_rfl) (by kernel_rfl) (by kernel_rfl) (fun _ => by kernel_rfl) ?startB ?okB ?finB
        case startB =>
         intro D hD
         have e4 := hD 4 (by decide)
         have e9 := hD 9 (by decide)
         refine ⟨⟨rfl, rfl, rfl, Nat.le_refl _, fun _ _ => rfl⟩, ?_, ?_⟩
         all_goals (intro h; simp [e4, e9] at h)
        case okB =>
         intro T hT
         simp only [putAll, Act.put, List.setIfInBounds_toArray, List.set_cons_zero, List.set_cons_succ] at hT
         simp only [ghAll]
         refine ⟨?_, ?_, ?_, ?_, ?_, ?_, ?_, ?_, ?_, ?_, ?_, ?_, trivial⟩
         case refine_5 =>
          refine gh_put rfl rfl (fun g v => by rw [hT, hT]; rfl) fun D g w' hD hdp hS => ?_
          obtain ⟨cc, w'', hcv, hsl, hbl, -⟩ := to_bytes w' xi
          have hS2 := Lib.hid (hS.first (by decide) hbl hsl)
          rw [hT g]
          clear hT hcell2 hDi hS hsl hbl
          go_simp
          exact hS2.out
         case refine_10 =>
          refine gh_put rfl rfl (fun g v => by rw [hT, hT]; rfl) fun D g w' hD hdp hS => ?_
          obtain ⟨cc, w'', hcv, hsl, hbl, -⟩ := to_bytes w' y
          have hS2 := Lib.hid (hS.second (by decide) hbl hsl)
          rw [hT g]
          clear hT hcell2 hDi hS hsl hbl
          go_simp
          exact hS2.out
         case refine_11 =>
          refine gh_same fun D g w' hD hdp hS => ?_
          have hds : D 4 = true ∧ D 9 = true := by simp [Region.binds] at hdp; simp [hdp]
          have hq := hDi w' _ _ (hS.2.1 hds.1) (hS.2.2 hds.2)
          rw [hT g]
          clear hT hcell2 hDi
          go_simp
          refine hq.mono ?_
          rintro e w'' ⟨rfl, hB⟩
          exact ⟨rfl, hS.keep (by decide) (by decide) hB⟩
         case refine_1 =>
          refine gh_same fun D g w' hD hdp hS => ?_
          obtain ⟨cx1, cx2⟩ := hcell2 w' (HB3.out.trans (hS.1.mono HB3.out.size))
          have hS2 := Lib.hid (hS.same (j := 0) (by decide) (by decide))
          rw [hT g]
          clear hT hcell2 hDi hS hdp hD
          go_simp
          exact hS2.out
         case refine_2 =>
          refine gh_same fun D g w' hD hdp hS => ?_
          obtain ⟨cx1, cx2⟩ := hcell2 w' (HB3.out.trans (hS.1.mono HB3.out.size))
          have hS2 := Lib.hid (hS.same (j := 1) (by decide) (by decide))
          rw [hT g]
          clear hT hcell2 hDi hS hdp hD
          go_simp
          exact hS2.out
         case refine_3 =>
          refine gh_same fun D g w' hD hdp hS => ?_
          obtain ⟨cx1, cx2⟩ := hcell2 w' (HB3.out.trans (hS.1.mono HB3.out.size))
          have hS2 := Lib.hid (hS.same (j := 2) (by decide) (by decide))
          rw [hT g]
          clear hT hcell2 hDi hS hdp hD
          go_simp
          exact hS2.out
         case refine_4 =>
          refine gh_same fun D g w' hD hdp hS => ?_
          obtain ⟨cx1, cx2⟩ := hcell2 w' (HB3.out.trans (hS.1.mono HB3.out.size))
          have hS2 := Lib.hid (hS.same (j := 3) (by decide) (by decide))
          rw [hT g]
          clear hT hcell2 hDi hS hdp hD
          go_simp
          exact hS2.out
         case refine_6 =>
          refine gh_same fun D g w' hD hdp hS => ?_
          obtain ⟨cx1, cx2⟩ := hcell2 w' (HB3.out.trans (hS.1.mono HB3.out.size))
          have hS2 := Lib.hid (hS.same (j := 5) (by decide) (by decide))
          rw [hT g]
          clear hT hcell2 hDi hS hdp hD
          go_simp
          exact hS2.out
         case refine_7 =>
          refine gh_same fun D g w' hD hdp hS => ?_
          obtain ⟨cx1, cx2⟩ := hcell2 w' (HB3.out.trans (hS.1.mono HB3.out.size))
          have hS2 := Lib.hid (hS.same (j := 6) (by decide) (by decide))
          rw [hT g]
          clear hT hcell2 hDi hS hdp hD
          go_simp
          exact hS2.out
         case refine_8 =>
          refine gh_same fun D g w' hD hdp hS => ?_
          obtain ⟨cx1, cx2⟩ := hcell2 w' (HB3.out.trans (hS.1.mono HB3.out.size))
          have hS2 := Lib.hid (hS.same (j := 7) (by decide) (by decide))
          rw [hT g]
          clear hT hcell2 hDi hS hdp hD
          go_simp
          exact hS2.out
         case refine_9 =>
          refine gh_same fun D g w' hD hdp hS => ?_
          obtain ⟨cx1, cx2⟩ := hcell2 w' (HB3.out.trans (hS.1.mono HB3.out.size))
          have hS2 := Lib.hid (hS.same (j := 8) (by decide) (by decide))
          rw [hT g]
          clear hT hcell2 hDi hS hdp hD
          go_simp
          exact hS2.out
         case refine_12 =>
          refine gh_same fun D g w' hD hdp hS => ?_
          obtain ⟨cx1, cx2⟩ := hcell2 w' (HB3.out.trans (hS.1.mono HB3.out.size))
          have hS2 := Lib.hid (hS.same (j := 11) (by decide) (by decide))
          rw [hT g]
          clear hT hcell2 hDi hS hdp hD
          go_simp
          exact hS2.out
        case finB =>
         intro T hT D g w6 hD hS
         simp only [putAll, Act.put, List.setIfInBounds_toArray, List.set_cons_zero, List.set_cons_succ] at hT
         rw [hT g]
         have HS6 := Lib.hid (HB3.out.trans (hS.1.mono HB3.out.size))
         clear hS hT hD hcell2 hDi
         by_cases ha : acc < 0
         · have da : decide (acc < 0) = true := decide_eq_true ha
           have HM := Lib.hid (show minD acc d = d from by unfold minD; rw [da]; rfl)
           clear ha
           go_wp2_with fail
           go_roundw
           case rel => exact ⟨k + 1, Hk.out, by go_num, by rw [HR.out, HM.out], HS6.out⟩
           case measure => have := Hk.out; simp [RowKit.intOf]; omega
         · have da : decide (acc < 0) = false := decide_eq_false ha
           by_cases hda : (d : Int) < acc
           · have db : decide ((d : Int) < acc) = true := decide_eq_true hda
             have HM := Lib.hid (show minD acc d = d from by unfold minD; rw [da, db]; rfl)
             clear ha hda
             go_wp2_with fail
             go_roundw
             case rel => exact ⟨k + 1, Hk.out, by go_num, by rw [HR.out, HM.out], HS6.out⟩
             case measure => have := Hk.out; simp [RowKit.intOf]; omega
           · have db : decide ((d : Int) < acc) = false := decide_eq_false hda
             have HM := Lib.hid (show minD acc d = acc from by unfold minD; rw [da, db]; rfl)
             clear ha hda
             go_wp2_with fail
             go_roundw
             case rel => exact ⟨k + 1, Hk.out, by go_num, by rw [HR.out, HM.out], HS6.out⟩
             case measure => have := Hk.out; simp [RowKit.intOf]; omega
      · obtain rfl : k = i := by omega
        have h3 : ¬ (k : Int) < (k : Int) := by omega
        clear hlt2 hk
        go_wp2_with fail
        go_roundw
        case rel => exact ⟨k + 1, Hi.out, by go_num, by rw [HSX.out], hB3⟩
        case measure => have := Hi.out; simp [RowKit.intOf]; omega
   · obtain rfl : i = all.length := by omega
     have h3 : ¬ (all.length : Int) < (all.length : Int) := by omega
     have hBt := below_trans hB hB2
     clear hlt hi HC
     go_wp2_with fail
     go_ret
     exact ⟨rfl, hBt⟩
end Go.Proofs.YtcngnjkpnmpcpaaDoor
