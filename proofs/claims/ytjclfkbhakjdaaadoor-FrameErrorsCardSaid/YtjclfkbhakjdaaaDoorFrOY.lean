import Derived.Test.YtjclfkbhakjdaaaDoorFrLbY
namespace Go.Proofs.YtjclfkbhakjdaaaDoor
open Go.RowKit Go.Shelf
attribute [local go_sem] Oper.semAt_some run_store_func
set_option maxRecDepth 100000 in
set_option maxHeartbeats 8000000 in
theorem back_ok (k : Nat) (hk : k < 5) (D R : Int) (hr : Sh.restOk D R) (sv : Value) (x : List UInt8) (hl : (x.length : Int) = Sh.innerK k) (w : World) (hT : Tabs w) (hS : Sl eB w.heap.size w sv x) (y : List UInt8) (hm : bakG (idxG k) (k + 1) x = .ok y) :
    Calls Tryd.prog 27 #[shV (Sh.pay k) D R, sv] w fun e w' => Below w.heap.size w w' ∧ ((chkF (Sh.pay k) D R (grpG y) (plcG y) (y.length - 3) = 0 ∧ ∃ v, e = .returned (frV (grpG y) (plcG y) v) ∧ Sl eB w'.heap.size w' v (y.drop 3)) ∨ (chkF (Sh.pay k) D R (grpG y) (plcG y) (y.length - 3) ≠ 0 ∧ e = .panicked (errno (chkF (Sh.pay k) D R (grpG y) (plcG y) (y.length - 3))))) := by
  have hyl := bak_len hm
  have HK5 := Lib.hid hk
  have hlen : x.length = idxG k + (k + 1) * 26 := by
   unfold Sh.innerK Sh.bodyK at hl
   rw [idx_is] at hl
   omega
  have hin : idxG k ≤ 10 := by unfold idxG; split <;> omega
  have hcl : (shV (Sh.pay k) D R).cells = shB (Sh.pay k) D R := rfl
  obtain ⟨W0, hW0⟩ : ∃ W0, (w.alloc (.cells (shB (Sh.pay k) D R) 23)).alloc (.cells (frB 0 0 (.slice none 0 0)) 26) = W0 := ⟨_, rfl⟩
  have hA : Below w.heap.size w W0 := by rw [← hW0]; exact (below_alloc w _).alloc (by simp) _
  have hr0 : Rowed W0 w.heap.size 23 (shB (Sh.pay k) D R) := by rw [← hW0]; exact (Rowed.new w 23 _).alloc _
  have HRW := Lib.hid (fun W (h : Below W0.heap.size W0 W) => show Rowed W w.heap.size 23 (shB (Sh.pay k) D R) from (h.block _ hr0.lt).trans hr0)
  have HRX := Lib.hid (fun W (h : Below W0.heap.size W0 W) => show Rowed W (w.heap.size + 1) 26 (frB 0 0 (.slice none 0 0)) from by
   have hx0 : Rowed W0 (w.heap.size + 1) 26 (frB 0 0 (.slice none 0 0)) := by
    rw [← hW0]
    have := Rowed.new (w.alloc (.cells (shB (Sh.pay k) D R) 23)) 26 (frB 0 0 (.slice none 0 0))
    rwa [World.size_alloc] at this
   exact (h.block _ hx0.lt).trans hx0)
  have HT := Lib.hid (fun W (h : Below W0.heap.size W0 W) => (hT.below hA).below h)
  have HS := Lib.hid (fun W (h : Below W0.heap.size W0 W) => (hS.next hA).next h)
  have hM := Sh.may_at (D := D) (R := R) hk hr
  have hq1 := Sh.Check_yes (Sh.pay k) D R hM W0 (hT.below hA).2.2.2.2
  have HQ2 := Lib.hid (fun W (h : Below W0.heap.size W0 W) => Sh.Inner_yes k hk D R hr W ((hT.below hA).below h).2.2.2.2)
  have HQ3 := Lib.hid (fun W (h : Below W0.heap.size W0 W) => Sh.Index_yes k hk D R hr W ((hT.below hA).below h).2.2.2.2)
  rw [idx_is] at HQ3
  have HTK := Lib.hid (fun W bi (hb : Boxed W bi 3 (.int .i64 (idxG k))) (hT : Tabs W) (h : Sl eB W.heap.size W sv x) => taken_back bi (idxG k) (k + 1) sv x hlen hin (by omega) (by omega) W hb hT h)
  rw [hm] at HTK
  have hle : ((x.length : Int) == Sh.innerK k) = true := beq_iff_eq.2 hl
  generalize Sh.innerK k = IN at *
  generalize idxG k = IX at *
  obtain ⟨A, c, rfl⟩ := hS.len
  have k0 := hr0.cell 0
  have k1 := hr0.cell 1
  have k2 := hr0.cell 2
  generalize Sh.pay k = P at *
  clear hS hT hlen hin hM hr hk hr0 hl hm
  go_enter Tryd.func27, Tryd.ntmps27
  go_wp2_with fail
  go_at_call 30
  refine hq1.mono ?_
  rintro e w1 ⟨rfl, hB1⟩
  have hr1 := HRW.out w1 hB1
  have j0 := hr1.cell 0
  have j1 := hr1.cell 1
  have j2 := hr1.cell 2
  have hq := HQ2.out w1 hB1
  clear k0 k1 k2 hr1 hq1 hW0
  go_wp2_with fail
  go_at_call 18
  refine (must_ok _).mono ?_
  rintro e w2 ⟨rfl, rfl⟩
  go_wp2_with fail
  go_at_call 40
  refine hq.mono ?_
  rintro e w2 ⟨rfl, hB2⟩
  have hB2 := below_trans hB1 hB2
  have hr2 := HRW.out w2 hB2
  have i0 := hr2.cell 0
  have i1 := hr2.cell 1
  have i2 := hr2.cell 2
  have hq := HQ3.out w2 hB2
  clear j0 j1 j2 hr2 hB1
  go_wp2_with fail
  go_at_call 42
  refine hq.mono ?_
  rintro e w3 ⟨rfl, hB3⟩
  have hB3 := below_trans hB2 hB3
  clear i0 i1 i2 hq
  go_wp2_with fail
  go_at_call 41
  refine (unbalanced_any _ w3).mono ?_
  rintro e w4 ⟨rfl, rfl⟩
  have hA4 := below_alloc w3 (.cells #[.int .i64 IX] 3)
  have hb4 := Boxed.new w3 3 (.int .i64 IX)
  have hB4 := below_trans hB3 hA4
  have hq := HTK.out _ w3.heap.size hb4 (HT.out _ hB4) (HS.out _ hB4)
  have HB4 := Lib.hid hB4
  have hbd : ∀ w, (Instr.build 53 #[(0, .func (.func 63) #[] #[.pointer (some ⟨w3.heap.size, 0, none⟩)]), (1, .func (.func 43) #[] #[]), (2, .func (.func 44) #[] #[])]).run Tryd.prog w = .ok (.agg #[fnV 63 #[.pointer (some ⟨w3.heap.size, 0, none⟩)], fnV 43 #[], fnV 44 #[]]) w := fun _ => by kernel_rfl
  generalize w3.alloc (.cells #[.int .i64 IX] 3) = w4 at *
  clear hA4 hb4 hB4 hB3 hB2
  go_wp2_with fail
  go_at_call 19
  refine hq.mono ?_
  rintro e w5 ⟨hB5, ⟨v5, y', he, rfl, hv5⟩ | ⟨m', he, -, -⟩⟩
  case inr => cases he
  cases he
  have hB6 := below_trans HB4.out hB5
  have hr5 := HRW.out w5 hB6
  have hT5 := HT.out w5 hB6
  have hBt := below_trans hA hB6
  have hx5 := HRX.out w5 hB6
  obtain ⟨A5, c5, rfl, hc5, hcs⟩ := hv5
  obtain ⟨bb, off, rfl, hbb, hcell⟩ := hcs (by omega)
  have hS5 : Sl eB w5.heap.size w5 (.slice (some ⟨bb, off, none⟩) y.length c5) y := ⟨_, c5, rfl, hc5, fun _ => ⟨bb, off, rfl, hbb, hcell⟩⟩
  have hcn : ¬ c5 = 3 := by omega
  have s3 : Sl eB w5.heap.size w5 (.slice (some ⟨bb, off + 3, none⟩) (y.length - 3) (c5 - 3)) (y.drop 3) := hS5.from_ (by omega) _ (fun _ => by simp [Addr.add])
  obtain ⟨y0, hy0⟩ : ∃ a, y[0]?.getD 0 = a := ⟨_, rfl⟩
  obtain ⟨y1, hy1⟩ : ∃ a, y[1]?.getD 0 = a := ⟨_, rfl⟩
  obtain ⟨y2, hy2⟩ : ∃ a, y[2]?.getD 0 = a := ⟨_, rfl⟩
  have c0 := hcell 0 y0 (by rw [← hy0, List.getElem?_eq_getElem (show 0 < y.length by omega)]; rfl)
  have c1 := hcell 1 y1 (by rw [← hy1, List.getElem?_eq_getElem (show 1 < y.length by omega)]; rfl)
  have c2 := hcell 2 y2 (by rw [← hy2, List.getElem?_eq_getElem (show 2 < y.length by omega)]; rfl)
  have HCC := Lib.hid (fun W (h : Below w5.heap.size w5 W) => show W.cell? ⟨bb, off, none⟩ = some (eB y0) ∧ W.cell? ⟨bb, off + 1, none⟩ = some (eB y1) ∧ W.cell? ⟨bb, off + 2, none⟩ = some (eB y2) from ⟨(h.cell (p := ⟨bb, off, none⟩) hbb).trans c0, (h.cell (p := ⟨bb, off + 1, none⟩) hbb).trans c1, (h.cell (p := ⟨bb, off + 2, none⟩) hbb).trans c2⟩)
  have HCl := Lib.hid (fun W (h : Below w5.heap.size w5 W) => BClone_any _ (y.drop 3) (by rw [List.length_drop]; have := HK5.out; omega) W (s3.next h))
  have eG : grpG y = ((y0.toNat * 256 + y1.toNat : Nat) : Int) := by unfold grpG; rw [hy0, hy1]
  have eP : plcG y = (y2.toNat : Int) := by unfold plcG; rw [hy2]
  have hor := u16_or y0 y1
  have y0l := y0.toNat_lt
  have y1l := y1.toNat_lt
  have y2l := y2.toNat_lt
  rw [← eG] at hor
  have hw0 : IntKind.i64.wrap (y0.toNat : Int) = (y0.toNat : Int) := IntWalk.i64_in _ (by omega)
  have hw1 : IntKind.i64.wrap (y1.toNat : Int) = (y1.toNat : Int) := IntWalk.i64_in _ (by omega)
  have hw2 : IntKind.i64.wrap (y2.toNat : Int) = (y2.toNat : Int) := IntWalk.i64_in _ (by omega)
  have hw3 : IntKind.i64.wrap ((y0.toNat : Int) * 256) = (y0.toNat : Int) * 256 := IntWalk.i64_in _ (by omega)
  have hLd : (y.drop 3).length = y.length - 3 := List.length_drop
  have HFC := Lib.hid (fun W v (hT : Tabs W) (h : Sl eB W.heap.size W v (y.drop 3)) => FCheck_any P D R (grpG y) (plcG y) v (y.drop 3) W hT.2.2.2.2 h)
  rw [hLd] at HFC
  rw [eP] at HFC
  have HEP := Lib.hid eP
  generalize hgg : grpG y = GG at *
  have HGG := Lib.hid hgg
  generalize hpay : y.drop 3 = pay at *
  have HPAY := Lib.hid hpay
  have hl3 : 3 ≤ y.length := by omega
  have hl0 : 0 < y.length := by omega
  have hl1 : (1 : Int) < (y.length : Int) := by omega
  have hl2 : (2 : Int) < (y.length : Int) := by omega
  have hl3' : (3 : Int) ≤ (y.length : Int) := by omega
  have hc3 : (3 : Int) ≤ (c5 : Int) := by omega
  have HYL := Lib.hid hyl
  have hN2 := Lib.hid (show y.length ≤ 25 by have := HK5.out; omega)
  generalize hyy : y.length = yl at *
  have HYY := Lib.hid hyy
  have hdr : Tryd.prog.follows .mixedOrders = true := by kernel_rfl
  clear hq hbd HTK HQ2 HQ3 HRW HRX HT HS hA hB6 hB5 hcell hcs hS5 s3 hy0 hy1 hy2 c0 c1 c2 hLd hyl hgg hpay eG eP hyy
  go_wp2_with fail
  refine wp_region_ghost (BkS w5 GG (y2.toNat : Int) pay) (fun g => [(22, .slice (some ⟨bb, off, none⟩) yl c5), (23, .pointer (some ⟨bb, off, none⟩)), (24, eB y0), (25, .int .i64 (y0.toNat : Int)), (26, .int .i64 ((y0.toNat : Int) * 256)), (27, .slice (some ⟨bb, off, none⟩) yl c5), (28, .pointer (some ⟨bb, off + 1, none⟩)), (29, eB y1), (30, .int .i64 (y1.toNat : Int)), (31, .int .i64 GG), (32, .slice (some ⟨bb, off, none⟩) yl c5), (33, .pointer (some ⟨bb, off + 2, none⟩)), (34, eB y2), (35, .int .i64 (y2.toNat : Int)), (36, .slice (some ⟨bb, off, none⟩) yl c5), (37, .slice (some ⟨bb, off + 3, none⟩) (yl - 3) (c5 - 3)), (38, g 16), (39, g 17), (6, g 18)]) (fun _ => undef)
   (by kernel_rfl) (by kernel_rfl) (by kernel_rfl) (by kernel_rfl) (fun _ => by kernel_rfl) ?startM ?okM ?finM
  case startM =>
   intro D hD
   have n16 := hD 16 (by decide)
   have n18 := hD 18 (by decide)
   have n17 := hD 17 (by decide)
   have n19 := hD 19 (by decide)
   refine ⟨⟨rfl, rfl, rfl, Nat.le_refl _, fun _ _ => rfl⟩, ?_, ?_, ?_, ?_, ?_, ?_⟩
   all_goals (intro h; simp [n16, n17, n18, n19] at h)
  case okM =>
   intro T hT
   simp only [putAll, Act.put, List.setIfInBounds_toArray, List.set_cons_zero, List.set_cons_succ] at hT
   simp only [ghAll]
   refine ⟨?_, ?_, ?_, ?_, ?_, ?_, ?_, ?_, ?_, ?_, ?_, ?_, ?_, ?_, ?_, ?_, ?_, ?_, ?_, ?_, trivial⟩
   case refine_1 =>
    refine gh_same fun D g w' hD hdp hS => ?_
    have hS2 := Lib.hid (hS.same (j := 0) (by decide) (by decide) (by decide) (by decide))
    rw [hT g]
    clear hT hS hdp hD
    go_simp
    first
     | exact hS2.out
     | exact ⟨rfl, hS2.out⟩
   case refine_2 =>
    refine gh_same fun D g w' hD hdp hS => ?_
    have hS2 := Lib.hid (hS.same (j := 1) (by decide) (by decide) (by decide) (by decide))
    rw [hT g]
    clear hT hS hdp hD
    go_simp
    first
     | exact hS2.out
     | exact ⟨rfl, hS2.out⟩
   case refine_3 =>
    refine gh_same fun D g w' hD hdp hS => ?_
    obtain ⟨cx0, cx1, cx2⟩ := HCC.out w' hS.1
    have hS2 := Lib.hid (hS.same (j := 2) (by decide) (by decide) (by decide) (by decide))
    rw [hT g]
    clear hT hS hdp hD
    go_simp
    first
     | exact hS2.out
     | exact ⟨rfl, hS2.out⟩
   case refine_4 =>
    refine gh_same fun D g w' hD hdp hS => ?_
    have hS2 := Lib.hid (hS.same (j := 3) (by decide) (by decide) (by decide) (by decide))
    rw [hT g]
    clear hT hS hdp hD
    go_simp
    first
     | exact hS2.out
     | exact ⟨rfl, hS2.out⟩
   case refine_5 =>
    refine gh_same fun D g w' hD hdp hS => ?_
    have hS2 := Lib.hid (hS.same (j := 4) (by decide) (by decide) (by decide) (by decide))
    rw [hT g]
    clear hT hS hdp hD
    go_simp
    first
     | exact hS2.out
     | exact ⟨rfl, hS2.out⟩
   case refine_6 =>
    refine gh_same fun D g w' hD hdp hS => ?_
    have hS2 := Lib.hid (hS.same (j := 5) (by decide) (by decide) (by decide) (by decide))
    rw [hT g]
    clear hT hS hdp hD
    go_simp
    first
     | exact hS2.out
     | exact ⟨rfl, hS2.out⟩
   case refine_7 =>
    refine gh_same fun D g w' hD hdp hS => ?_
    have hS2 := Lib.hid (hS.same (j := 6) (by decide) (by decide) (by decide) (by decide))
    rw [hT g]
    clear hT hS hdp hD
    go_simp
    first
     | exact hS2.out
     | exact ⟨rfl, hS2.out⟩
   case refine_8 =>
    refine gh_same fun D g w' hD hdp hS => ?_
    obtain ⟨cx0, cx1, cx2⟩ := HCC.out w' hS.1
    have hS2 := Lib.hid (hS.same (j := 7) (by decide) (by decide) (by decide) (by decide))
    rw [hT g]
    clear hT hS hdp hD
    go_simp
    first
     | exact hS2.out
     | exact ⟨rfl, hS2.out⟩
   case refine_9 =>
    refine gh_same fun D g w' hD hdp hS => ?_
    have hS2 := Lib.hid (hS.same (j := 8) (by decide) (by decide) (by decide) (by decide))
    rw [hT g]
    clear hT hS hdp hD
    go_simp
    first
     | exact hS2.out
     | exact ⟨rfl, hS2.out⟩
   case refine_10 =>
    refine gh_same fun D g w' hD hdp hS => ?_
    have hS2 := Lib.hid (hS.same (j := 9) (by decide) (by decide) (by decide) (by decide))
    rw [hT g]
    clear hT hS hdp hD
    go_simp
    first
     | exact hS2.out
     | exact ⟨rfl, hS2.out⟩
   case refine_11 =>
    refine gh_same fun D g w' hD hdp hS => ?_
    have hS2 := Lib.hid (hS.same (j := 10) (by decide) (by decide) (by decide) (by decide))
    rw [hT g]
    clear hT hS hdp hD
    go_simp
    first
     | exact hS2.out
     | exact ⟨rfl, hS2.out⟩
   case refine_12 =>
    refine gh_same fun D g w' hD hdp hS => ?_
    have hS2 := Lib.hid (hS.same (j := 11) (by decide) (by decide) (by decide) (by decide))
    rw [hT g]
    clear hT hS hdp hD
    go_simp
    first
     | exact hS2.out
     | exact ⟨rfl, hS2.out⟩
   case refine_13 =>
    refine gh_same fun D g w' hD hdp hS => ?_
    obtain ⟨cx0, cx1, cx2⟩ := HCC.out w' hS.1
    have hS2 := Lib.hid (hS.same (j := 12) (by decide) (by decide) (by decide) (by decide))
    rw [hT g]
    clear hT hS hdp hD
    go_simp
    first
     | exact hS2.out
     | exact ⟨rfl, hS2.out⟩
   case refine_14 =>
    refine gh_same fun D g w' hD hdp hS => ?_
    have hS2 := Lib.hid (hS.same (j := 13) (by decide) (by decide) (by decide) (by decide))
    rw [hT g]
    clear hT hS hdp hD
    go_simp
    first
     | exact hS2.out
     | exact ⟨rfl, hS2.out⟩
   case refine_15 =>
    refine gh_same fun D g w' hD hdp hS => ?_
    have hS2 := Lib.hid (hS.same (j := 14) (by decide) (by decide) (by decide) (by decide))
    rw [hT g]
    clear hT hS hdp hD
    go_simp
    first
     | exact hS2.out
     | exact ⟨rfl, hS2.out⟩
   case refine_16 =>
    refine gh_same fun D g w' hD hdp hS => ?_
    have hS2 := Lib.hid (hS.same (j := 15) (by decide) (by decide) (by decide) (by decide))
    rw [hT g]
    clear hT hS hdp hD
    go_simp
    first
     | exact hS2.out
     | exact ⟨rfl, hS2.out⟩
   case refine_17 =>
    refine gh_put rfl rfl (fun g v => by rw [hT, hT]; rfl) fun D g w' hD hdp hS => ?_
    have hq := HCl.out w' hS.1
    have HSS := Lib.hid hS
    rw [hT g]
    clear hT hS
    go_simp
    refine hq.mono ?_
    rintro e w'' ⟨v, rfl, hv, hB⟩
    have := HSS.out.clone hB hv.sl hD
    first
     | exact this
     | exact ⟨rfl, this⟩
     | exact ⟨v, rfl, this⟩
   case refine_18 =>
    refine gh_put rfl rfl (fun g v => by rw [hT, hT]; rfl) fun D g w' hD hdp hS => ?_
    have hds : D 16 = true := by simp [Region.binds] at hdp; simp [hdp]
    obtain ⟨Av, cv, eg⟩ := (hS.2.1 hds).len
    have hS2 := Lib.hid (hS.built eg hds hD)
    rw [hT g, eg]
    clear hT hS hdp hD eg
    go_simp
    first
     | exact hS2.out
     | exact ⟨rfl, hS2.out⟩
     | exact ⟨_, rfl, hS2.out⟩
   case refine_19 =>
    refine gh_put rfl rfl (fun g v => by rw [hT, hT]; rfl) fun D g w' hD hdp hS => ?_
    have hS2 := Lib.hid (hS.made hD)
    rw [hT g]
    clear hT hS hdp
    go_simp
    first
     | exact hS2.out
   case refine_20 =>
    refine gh_same fun D g w' hD hdp hS => ?_
    have hds : D 17 = true ∧ D 18 = true := by simp [Region.binds] at hdp; simp [hdp]
    obtain ⟨q, eq, hNq, hrq⟩ := hS.2.2.2.1 hds.2 hD
    obtain ⟨v, ev, hv⟩ := hS.2.2.1 hds.1
    obtain ⟨Av, cv, rfl⟩ := hv.len
    have z0 := hrq.cell 0
    have z1 := hrq.cell 1
    have z2 := hrq.cell 2
    have zf := hrq.frozen
    have hS2 := Lib.hid (hS.stored hds.1 hds.2 hD ev eq)
    rw [hT g, eq, ev]
    clear hT hS hdp hD eq ev hv hNq
    go_simp
    exact hS2.out
  case finM =>
   intro T hT DD g w6 hD hS
   simp only [putAll, Act.put, List.setIfInBounds_toArray, List.set_cons_zero, List.set_cons_succ] at hT
   obtain ⟨s0, -, -, -, s4, -, -⟩ := hS
   obtain ⟨q, v, eq, hNq, hrq, hv⟩ := s4 (hD 19 (by decide))
   rw [hT g, eq]
   have hr6 : Rowed w6 w.heap.size 23 (shB P D R) := (s0.block _ hr5.lt).trans hr5
   have hx6 : Rowed w6 (w.heap.size + 1) 26 (frB 0 0 (.slice none 0 0)) := (s0.block _ hx5.lt).trans hx5
   have a0 := hr6.cell 0
   have a1 := hr6.cell 1
   have a2 := hr6.cell 2
   have f0 := hrq.cell 0
   have f1 := hrq.cell 1
   have f2 := hrq.cell 2
   have q1 := HFC.out w6 v (hT5.below s0) hv
   have hBt6 := below_trans hBt s0
   have HE := Lib.hid (show chkF P D R GG (y2.toNat : Int) (yl - 3) = chkF P D R (grpG y) (plcG y) (y.length - 3) from by rw [HGG.out, HEP.out, HYY.out])
   generalize chkF P D R GG (y2.toNat : Int) (yl - 3) = E at *
   obtain ⟨Av, cv, rfl⟩ := hv.len
   have hne : q ≠ w.heap.size + 1 := by have := hx5.lt; omega
   generalize g 16 = g16 at *
   generalize g 17 = g17 at *
   clear hT hD s0 s4 eq HFC hr5 hx5 HCC HCl hBt hr6 hor hw0 hw1 hw2 hw3
   go_wp2_with fail
   go_at_call 15
   refine q1.mono ?_
   rintro e w7 ⟨rfl, hB7⟩
   have hx7 : Rowed w7 (w.heap.size + 1) 26 (frB 0 0 (.slice none 0 0)) := (hB7.block _ hx6.lt).trans hx6
   have hrq7 : Rowed w7 q 26 (frB GG (y2.toNat : Int) (.slice Av pay.length cv)) := (hB7.block _ hrq.lt).trans hrq
   have hv7 := hv.next hB7
   have hBt7 := below_trans hBt6 hB7
   have f0 := hrq7.cell 0
   have f1 := hrq7.cell 1
   have f2 := hrq7.cell 2
   have x0 := hx7.cell 0
   have x1 := hx7.cell 1
   have x2 := hx7.cell 2
   have xf := hx7.frozen
   clear q1 a0 a1 a2 hB7 hBt6 hv hx6 hrq
   by_cases hE0 : E = 0
   · subst hE0
     have HE2 := Lib.hid HE.out.symm
     have r1 : Rowed (w7.setCell ⟨w.heap.size + 1, 0, none⟩ (.int .i64 GG)) (w.heap.size + 1) 26 (frB GG 0 (.slice none 0 0)) := hx7.set 0 (.int .i64 GG)
     have r2 : Rowed ((w7.setCell ⟨w.heap.size + 1, 0, none⟩ (.int .i64 GG)).setCell ⟨w.heap.size + 1, 1, none⟩ (.int .i64 (y2.toNat : Int))) (w.heap.size + 1) 26 (frB GG (y2.toNat : Int) (.slice none 0 0)) := r1.set 1 (.int .i64 (y2.toNat : Int))
     have r3 : Rowed (((w7.setCell ⟨w.heap.size + 1, 0, none⟩ (.int .i64 GG)).setCell ⟨w.heap.size + 1, 1, none⟩ (.int .i64 (y2.toNat : Int))).setCell ⟨w.heap.size + 1, 2, none⟩ (.slice Av pay.length cv)) (w.heap.size + 1) 26 (frB GG (y2.toNat : Int) (.slice Av pay.length cv)) := r2.set 2 _
     have hs3 := sl_setfr (sl_setfr (sl_setfr hv7 hx7 0 (.int .i64 GG)) r1 1 (.int .i64 (y2.toNat : Int))) r2 2 (.slice Av pay.length cv)
     have hB3 := ((hBt7.setCell (p := ⟨w.heap.size + 1, 0, none⟩) (by show w.heap.size ≤ w.heap.size + 1; omega) (.int .i64 GG)).setCell (p := ⟨w.heap.size + 1, 1, none⟩) (by show w.heap.size ≤ w.heap.size + 1; omega) (.int .i64 (y2.toNat : Int))).setCell (p := ⟨w.heap.size + 1, 2, none⟩) (by show w.heap.size ≤ w.heap.size + 1; omega) (.slice Av pay.length cv)
     have R3 := Lib.hid r3
     have HS3 := Lib.hid hs3
     have HB3x := Lib.hid hB3
     clear r1 r2 r3 hs3 hB3 hx7 hv7 hBt7 HE
     go_wp2_with fail
     go_at_call 18
     refine (must_ok _).mono ?_
     rintro e w8 ⟨rfl, rfl⟩
     go_wp2_with fail
     have t0 := R3.out.cell 0
     have t1 := R3.out.cell 1
     have t2 := R3.out.cell 2
     have hs3 := HS3.out
     have hB3 := HB3x.out
     have hsz : (((w7.setCell ⟨w.heap.size + 1, 0, none⟩ (.int .i64 GG)).setCell ⟨w.heap.size + 1, 1, none⟩ (.int .i64 (y2.toNat : Int))).setCell ⟨w.heap.size + 1, 2, none⟩ (.slice Av pay.length cv)).heap.size = w7.heap.size := by simp
     generalize ((w7.setCell ⟨w.heap.size + 1, 0, none⟩ (.int .i64 GG)).setCell ⟨w.heap.size + 1, 1, none⟩ (.int .i64 (y2.toNat : Int))).setCell ⟨w.heap.size + 1, 2, none⟩ (.slice Av pay.length cv) = w8 at *
     rw [← hsz] at hs3
     refine bodyPost_ret (v := frV GG (y2.toNat : Int) (.slice Av pay.length cv)) ?_ rfl ⟨hB3, .inl ⟨HE2.out, _, by rw [HGG.out, HEP.out], by rw [HPAY.out]; exact hs3⟩⟩
     simp [results, Tryd.f27, go_sem, t0, t1, t2]
   · have HE2 := Lib.hid HE.out
     clear HE
     go_wp2_with fail
     go_at_call 18
     refine (must_no E hE0 _).mono ?_
     rintro e w8 ⟨rfl, rfl⟩
     go_wp2_with fail
     exact ⟨rfl, hBt7, .inr ⟨by rw [← HE2.out]; exact hE0, by rw [← HE2.out]⟩⟩
end Go.Proofs.YtjclfkbhakjdaaaDoor
