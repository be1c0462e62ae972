import Derived.Test.YtgblkcddhnigaaaDoorClOnZ
import Derived.Test.YtgblkcddhnigaaaDoorClSzZ
import Derived.Test.YtgblkcddhnigaaaDoorClVZ
namespace Go.Proofs.YtgblkcddhnigaaaDoor
open Go.RowKit Go.Shelf
attribute [local go_sem] Oper.semAt_some run_store_func
theorem CollT.rows {B : Nat} {W : World} {v : Value} {vs : List RowC} (h : CollT B W v vs) : RowsIn W v vs := ⟨Sl.of_own h.1, fun p hp => Sl.of_own (h.2 p hp)⟩
set_option maxRecDepth 100000 in
set_option maxHeartbeats 1000000 in
theorem Tells_great (v0 : Value) (rows : List RowC) (w : World) (h0 : RowsIn w v0 rows) (hT : Tab w) (e0 : gr6 rows = true) :
    Calls Tryd.prog 3 #[v0] w fun e w' => e = .returned (.bool true) ∧ Below w.heap.size w w' := by
  have g0 := great_any v0 rows w h0
  have hw := wakes_any w hT
  obtain ⟨A, c, rfl, -⟩ := h0.some
  clear h0
  rw [e0] at g0
  clear e0
  go_enter Tryd.func3, Tryd.ntmps3
  go_wp2_with fail
  go_at_call 8
  refine g0.mono ?_
  rintro e w1 ⟨rfl, rfl⟩
  clear g0
  go_wp2_with fail
  go_at_call 9
  refine hw.mono ?_
  rintro e w2 ⟨rfl, hB⟩
  clear hw
  go_wp2_with fail
  go_ret
  exact ⟨rfl, hB⟩
theorem tu_both {L a b : List (List UInt8)} (ha : a.Perm L) (hb : b.Perm L) (h1 : RiseL a) (h2 : RiseL b) : a = b := rise_one (ha.trans hb.symm) h1 h2
theorem bs3_small {cl : List ClC} {M : List (List UInt8)} (h : bs3 cl = groupG M) (hM : M.length ≤ 60) : cl.length ≤ 1000 ∧ ∀ c ∈ cl, c.rows.length ≤ 1000 := by
 have h1 := group_len M
 have h2 := sizeG_group M
 refine ⟨by rw [← h, bs3_len] at h1; omega, fun c hc => ?_⟩
 have h3 := sizeG_ge (bs3 cl) (c := bsL c.rows) (List.mem_map.2 ⟨_, hc, rfl⟩)
 rw [h, h2] at h3
 simp only [bsL, List.length_map] at h3
 omega
theorem len_perm {L M : List (List UInt8)} {n : Nat} (h : M.Perm L) (hn : L.length ≤ n) : M.length ≤ n := by rw [h.length_eq]; exact hn
theorem vs_len {vs : List RowC} {L : List (List UInt8)} (h : (bsL vs).Perm L) {n : Nat} (hn : L.length ≤ n) : vs.length ≤ n := by
 have := h.length_eq
 simp only [bsL, List.length_map] at this
 omega
set_option maxRecDepth 100000 in
set_option maxHeartbeats 4000000 in
theorem Tells_main (v0 : Value) (rows : List RowC) (w : World) (h0 : RowsIn w v0 rows) (hT : Tab w) (e0 : gr6 rows = false) :
    Calls Tryd.prog 3 #[v0] w fun e w' => e = .returned (.bool true) ∧ Below w.heap.size w w' := by
  have g0 := great_any v0 rows w h0
  rw [e0] at g0
  obtain ⟨hl40, hl0⟩ := gr6_no e0
  have hTL : (tuL (bsL rows)).length ≤ 40 := by
   rw [tu_len]
   unfold clR
   exact Nat.le_trans (List.length_filter_le ..) hl40
  have hbl : (bsL rows).length ≤ 60 := by simp only [bsL, List.length_map]; omega
  have H0 := Lib.hid h0
  have HT := Lib.hid hT
  have q1 := RGroup_any v0 rows (by omega) (fun p hp => by have := hl0 p hp; omega) w h0
  have Q2 := Lib.hid (fun W (h : Below w.heap.size w W) => CClean_any v0 rows (by omega) (fun p hp => by have := hl0 p hp; omega) W (H0.out.next h) (HT.out.below h))
  have Q3 := Lib.hid (fun W (h : Below w.heap.size w W) => RClean_any v0 rows (by omega) (fun p hp => by have := hl0 p hp; omega) W (H0.out.next h))
  have Q4 := Lib.hid (fun W (h : Below w.heap.size w W) => CTurned_any v0 rows (by omega) (fun p hp => by have := hl0 p hp; omega) W (H0.out.next h) (HT.out.below h))
  have Q5 := Lib.hid (fun W (h : Below w.heap.size w W) => RTurned_any v0 rows (by omega) (fun p hp => by have := hl0 p hp; omega) W (H0.out.next h))
  have Q6 := Lib.hid (fun W (h : Below w.heap.size w W) => CGroup_any v0 rows (by omega) (fun p hp => by have := hl0 p hp; omega) W (H0.out.next h))
  have Q7 := Lib.hid (fun W (h : Below w.heap.size w W) => CAll_any v0 rows (by omega) (fun p hp => by have := hl0 p hp; omega) W (H0.out.next h) (HT.out.below h))
  have Q8 := Lib.hid (fun W (h : Below w.heap.size w W) => RAll_any v0 rows (by omega) (fun p hp => by have := hl0 p hp; omega) W (H0.out.next h))
  have HW := Lib.hid (fun W (h : Below w.heap.size w W) => wakes_any W (HT.out.below h))
  have HCL := Lib.hid (show (clR rows).length ≤ 1000 from by unfold clR; have := List.length_filter_le (fun p : RowC => cleanB p.bs) rows; omega)
  have HTL := Lib.hid hTL
  have HBL := Lib.hid hbl
  obtain ⟨A, c, rfl, -⟩ := h0.some
  clear e0 hl40 hl0 h0 hT hTL hbl
  go_enter Tryd.func3, Tryd.ntmps3
  go_wp2_with fail
  go_at_call 8
  refine g0.mono ?_
  rintro e w1 ⟨rfl, rfl⟩
  clear g0
  go_wp2_with fail
  go_at_call 10
  refine q1.mono ?_
  rintro e w1 ⟨ug, cg, rfl, hG, hGb, hB1⟩
  have HG := Lib.hid hG.r3
  have HGb := Lib.hid hGb
  have HGS := Lib.hid (bs3_small hGb HBL.out)
  have q2 := Q2.out w1 hB1
  clear q1 hG hGb Q2
  go_wp2_with fail
  go_at_call 12
  refine q2.mono ?_
  rintro e w2 ⟨u2, r2, rfl, hr2, hb2, hB2⟩
  have hBt2 := below_trans hB1 hB2
  have HR2 := Lib.hid hr2.rows
  have Hb2 := Lib.hid hb2
  have q3 := Q3.out w2 hBt2
  clear q2 hr2 hb2 Q3
  go_wp2_with fail
  go_at_call 13
  refine q3.mono ?_
  rintro e w3 ⟨u3, r3, rfl, hr3, hb3, hB3⟩
  have hBt3 := below_trans hBt2 hB3
  have hRR := RRows_true u2 u3 r2 r3 w3 (HR2.out.next hB3) hr3.rows (by have := Hb2.out; unfold bsL at this hb3; rw [this, hb3]) (by
   have h1 := congrArg List.length Hb2.out
   have h2 := HCL.out
   simp only [bsL, List.length_map] at h1
   omega)
  clear q3 hr3 hb3 HR2 Hb2
  go_wp2_with fail
  go_at_call 11
  refine hRR.mono ?_
  rintro e w4 ⟨rfl, n4, hw4⟩
  have hBt4 : Below w.heap.size w w4 := by rw [hw4]; exact below_trans hBt3 (below_drewN' _ _ _)
  have hB4 : Below w3.heap.size w3 w4 := by rw [hw4]; exact below_drewN' _ _ _
  have q4 := Q4.out w4 hBt4
  clear hRR hw4 Q4
  go_wp2_with fail
  go_at_call 14
  refine q4.mono ?_
  rintro e w5 ⟨u5, r5, rfl, hr5, hp5, hri5, hB5⟩
  have hBt5 := below_trans hBt4 hB5
  have HR5 := Lib.hid hr5
  have HP5 := Lib.hid hp5
  have HI5 := Lib.hid (rise_list hri5)
  have q5 := Q5.out w5 hBt5
  clear q4 hr5 hp5 hri5 Q5
  go_wp2_with fail
  go_at_call 15
  refine q5.mono ?_
  rintro e w6 ⟨u6, r6, rfl, hr6, hp6, hri6, hB6⟩
  have hBt6 := below_trans hBt5 hB6
  have hRR := RRows_true u5 u6 r5 r6 w6 (HR5.out.next hB6) hr6.rows (by have := tu_both HP5.out hp6 HI5.out hri6; unfold bsL at this; exact this) (by have := vs_len HP5.out HTL.out; omega)
  clear q5 hr6 hp6 hri6 HR5 HP5 HI5
  go_wp2_with fail
  go_at_call 11
  refine hRR.mono ?_
  rintro e w7 ⟨rfl, n7, hw7⟩
  have hBt7 : Below w.heap.size w w7 := by rw [hw7]; exact below_trans hBt6 (below_drewN' _ _ _)
  have hB17 : Below w1.heap.size w1 w7 := by
   rw [hw7]
   exact below_trans (below_trans (below_trans (below_trans hB2 hB3) hB4) (below_trans hB5 hB6)) (below_drewN' _ _ _)
  have q6 := Q6.out w7 hBt7
  clear hRR hw7 Q6
  go_wp2_with fail
  go_at_call 17
  refine q6.mono ?_
  rintro e w8 ⟨u8, c8, rfl, h8, hb8, hB8⟩
  have hBt8 := below_trans hBt7 hB8
  have hs8 := bs3_small hb8 HBL.out
  have hSA := RSame_true u8 ug c8 cg w8 h8.r3 (HG.out.next (below_trans hB17 hB8)) (hb8.trans HGb.out.symm) hs8.1 hs8.2
  clear q6 h8 hb8 hs8
  go_wp2_with fail
  go_at_call 16
  refine hSA.mono ?_
  rintro e w9 ⟨rfl, n9, hw9⟩
  have hBt9 : Below w.heap.size w w9 := by rw [hw9]; exact below_trans hBt8 (below_drewN' _ _ _)
  have hB19 : Below w1.heap.size w1 w9 := by rw [hw9]; exact below_trans (below_trans hB17 hB8) (below_drewN' _ _ _)
  have q7 := Q7.out w9 hBt9
  clear hSA hw9 Q7 hB17 hB8
  go_wp2_with fail
  go_at_call 18
  refine q7.mono ?_
  rintro e wa ⟨ua, ca, rfl, ha, ⟨Ma, hpa, hria, hba⟩, -, -, hBa⟩
  have hBta := below_trans hBt9 hBa
  have HA := Lib.hid ha.r3
  have HMA := Lib.hid (And.intro hpa (And.intro hria hba))
  have q8 := Q8.out wa hBta
  clear q7 ha hpa hria hba Q8
  go_wp2_with fail
  go_at_call 19
  refine q8.mono ?_
  rintro e wb ⟨ub, cb, rfl, hb, ⟨Mb, hpb, hrib, hbb⟩, hBb⟩
  have hBtb := below_trans hBta hBb
  have hB1b := below_trans hB19 (below_trans hBa hBb)
  have hsa := bs3_small HMA.out.2.2 (by have := len_perm HMA.out.1 HTL.out; omega)
  have hSA := RSame_true ua ub ca cb wb (HA.out.next hBb) hb.r3 (by rw [HMA.out.2.2, hbb, tu_both HMA.out.1 hpb HMA.out.2.1 hrib]) hsa.1 hsa.2
  clear q8 hb hpb hrib hbb hsa HA HMA
  go_wp2_with fail
  go_at_call 16
  refine hSA.mono ?_
  rintro e wc ⟨rfl, nc, hwc⟩
  have hBtc : Below w.heap.size w wc := by rw [hwc]; exact below_trans hBtb (below_drewN' _ _ _)
  have hB1c : Below w1.heap.size w1 wc := by rw [hwc]; exact below_trans hB1b (below_drewN' _ _ _)
  have q9 := CSizes_any ug cg HGS.out.1 HGS.out.2 wc (HG.out.next hB1c).1
  clear hSA hwc hB1b hB19 hBa hBb
  go_wp2_with fail
  go_at_call 21
  refine q9.mono ?_
  rintro e wd ⟨rfl, hRd, hBd⟩
  have hBtd := below_trans hBtc hBd
  have hsd := szL_sl hRd hRd.lt
  have HSD := Lib.hid hsd
  have qa := RSizes_any ug cg HGS.out.1 HGS.out.2 wd (HG.out.next (below_trans hB1c hBd)).1
  clear q9 hRd hsd
  go_wp2_with fail
  go_at_call 22
  refine qa.mono ?_
  rintro e we ⟨ue, rfl, hoe, hBe⟩
  have hBte := below_trans hBtd hBe
  have hin := ints_true _ ue (szL cg) we (HSD.out.next hBe) (Sl.of_own hoe) (by rw [szL_len]; exact HGS.out.1)
  clear qa hoe HSD
  go_wp2_with fail
  go_at_call 20
  refine hin.mono ?_
  rintro e wf ⟨rfl, hBf⟩
  have hBtf := below_trans hBte hBf
  have hwk := HW.out wf hBtf
  clear hin
  go_wp2_with fail
  go_at_call 9
  refine hwk.mono ?_
  rintro e w9 ⟨rfl, hB9⟩
  clear hwk
  go_wp2_with fail
  go_ret
  exact ⟨rfl, below_trans hBtf hB9⟩
theorem ClusterTells_any (v0 : Value) (rows : List RowC) (w : World) (h0 : RowsIn w v0 rows) (hT : Tab w) :
    Calls Tryd.prog 3 #[v0] w fun e w' => e = .returned (.bool true) ∧ Below w.heap.size w w' := by
  cases e0 : gr6 rows with
  | true => exact Tells_great v0 rows w h0 hT e0
  | false => exact Tells_main v0 rows w h0 hT e0
end Go.Proofs.YtgblkcddhnigaaaDoor
