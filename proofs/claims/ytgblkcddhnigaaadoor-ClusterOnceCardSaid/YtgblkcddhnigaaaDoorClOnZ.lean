import Derived.Test.YtgblkcddhnigaaaDoorClMZ
import Derived.Test.YtgblkcddhnigaaaDoorClRtZ
import Derived.Test.YtgblkcddhnigaaaDoorGCZ
import Derived.Test.YtgblkcddhnigaaaDoorGqCZ
namespace Go.Proofs.YtgblkcddhnigaaaDoor
open Go.RowKit Go.Shelf
attribute [local go_sem] Oper.semAt_some run_store_func
def flR (cl : List ClC) (i : Nat) : List RowC := (cl.take i).flatMap (·.rows)
theorem flR_succ (cl : List ClC) (i : Nat) (h : i < cl.length) : flR cl (i + 1) = flR cl i ++ cl[i].rows := by
 unfold flR
 rw [List.take_succ_eq_append_getElem h, List.flatMap_append]
 simp
theorem flR_bs (cl : List ClC) : bsL (flR cl cl.length) = (bs3 cl).flatten := by
 unfold flR bsL bs3
 rw [List.take_length, List.map_flatMap]
 induction cl with
 | nil => rfl
 | cons c cl ih =>
   simp only [List.flatMap_cons, List.map_cons, List.flatten_cons, ih]
   rfl
theorem flat_len (cs : List (List (List UInt8))) : cs.flatten.length = sizeG cs := by
 unfold sizeG
 rw [List.length_flatten]
theorem flR_len (cl : List ClC) (i : Nat) : (flR cl i).length ≤ sizeG (bs3 cl) := by
 have h1 : (flR cl cl.length).length = sizeG (bs3 cl) := by
  have := congrArg List.length (flR_bs cl)
  rw [flat_len] at this
  simpa [bsL] using this
 have h2 : (flR cl i).length ≤ (flR cl cl.length).length := by
  unfold flR
  rw [List.take_length]
  have : cl.flatMap (·.rows) = (cl.take i).flatMap (·.rows) ++ (cl.drop i).flatMap (·.rows) := by
   rw [← List.flatMap_append, List.take_append_drop]
  rw [this, List.length_append]
  omega
 omega
theorem flR_in (cl : List ClC) (i : Nat) {p : RowC} (h : p ∈ flR cl i) : ∃ c ∈ cl, p ∈ c.rows := by
 unfold flR at h
 obtain ⟨c, hc, hp⟩ := List.mem_flatMap.1 h
 exact ⟨c, List.mem_of_mem_take hc, hp⟩
theorem take_rows (rs : List RowC) (F : List RowC) (k : Nat) (h : k < rs.length) : F ++ rs.take (k + 1) = (F ++ rs.take k) ++ [rs[k]] := by
 rw [List.take_succ_eq_append_getElem h, List.append_assoc]
theorem tu_short {rows : List RowC} (h : ∀ p ∈ rows, p.bs.length ≤ 200) {b : List UInt8} (hb : b ∈ tuL (bsL rows)) : b.length ≤ 200 := by
 rw [tuL_is] at hb
 obtain ⟨q, hq, e⟩ := List.mem_map.1 hb
 have := h q (List.mem_filter.1 hq).1
 rw [← e, least_len]
 exact this
theorem tu_len (rows : List RowC) : (tuL (bsL rows)).length = (clR rows).length := by rw [tuL_is, List.length_map]
theorem cells_ints (f : Nat → Int) (n k : Nat) (h : k < n) : (cellsI f n)[k]? = some (.int .i64 (f k)) := cellsI_get _ _ _ h
theorem like_dist {a b : List UInt8} (h : likeB a b = true) : (dist (a.take 1000) (b.take 1000) : Int) ≤ 4 := of_decide_eq_true h
theorem unlike_dist {a b : List UInt8} (h : likeB a b = false) : ¬ (dist (a.take 1000) (b.take 1000) : Int) ≤ 4 := of_decide_eq_false h
set_option maxRecDepth 100000 in
set_option maxHeartbeats 1000000 in
theorem Once_great (v0 : Value) (rows : List RowC) (w : World) (h0 : RowsIn w v0 rows) (hT : Tab w) (e0 : gr6 rows = true) :
    Calls Tryd.prog 5 #[v0] w fun e w' => e = .returned (.bool true) ∧ Below w.heap.size w w' := by
  have g0 := great_any v0 rows w h0
  have hw := wakes_any w hT
  obtain ⟨A, c, rfl, -⟩ := h0.some
  clear h0
  rw [e0] at g0
  clear e0
  go_enter Tryd.func5, Tryd.ntmps5
  go_wp2_with fail
  go_at_call 8
  refine g0.mono ?_
  rintro e w1 ⟨rfl, rfl⟩
  clear g0
  go_wp2_with fail
  go_at_call 9
  refine hw.mono ?_
  rintro e w2 ⟨rfl, hB⟩
  clear hw
  go_wp2_with fail
  go_ret
  exact ⟨rfl, hB⟩
set_option maxRecDepth 100000 in
set_option maxHeartbeats 4000000 in
theorem Once_main (v0 : Value) (rows : List RowC) (w : World) (h0 : RowsIn w v0 rows) (hT : Tab w) (e0 : gr6 rows = false) :
    Calls Tryd.prog 5 #[v0] w fun e w' => e = .returned (.bool true) ∧ Below w.heap.size w w' := by
  have g0 := great_any v0 rows w h0
  rw [e0] at g0
  obtain ⟨hl40, hl0⟩ := gr6_no e0
  have HW := Lib.hid wakes_any
  obtain ⟨i0, hi, hz0, hz1, hz2⟩ := info_parts info_row
  have q1 := CClean_any v0 rows (by omega) (fun p hp => by have := hl0 p hp; omega) w h0 hT
  have Q2 := Lib.hid (fun w' h => CAll_any v0 rows (by omega) (fun p hp => by have := hl0 p hp; omega) w' h)
  have Q3 := Lib.hid (fun w' h => CTurned_any v0 rows (by omega) (fun p hp => by have := hl0 p hp; omega) w' h)
  have HS := Lib.hid (fun (b : List UInt8) (hb : b ∈ tuL (bsL rows)) => tu_short hl0 hb)
  have HTL := Lib.hid (tu_len rows)
  have HL40 := Lib.hid hl40
  have hdr : Tryd.prog.follows .mixedOrders = true := by kernel_rfl
  obtain ⟨A, c, rfl, -⟩ := h0.some
  have H0 := Lib.hid h0
  have HT := Lib.hid hT
  clear e0 hl40 hl0 h0 hT
  go_enter Tryd.func5, Tryd.ntmps5
  go_wp2_with fail
  go_at_call 8
  refine g0.mono ?_
  rintro e w1 ⟨rfl, rfl⟩
  clear g0
  go_wp2_with fail
  go_at_call 12
  refine q1.mono ?_
  rintro e w1 ⟨uc, vc, rfl, hvc, hvb, hB1⟩
  clear q1
  have hvl : vc.length = (clR rows).length := by have := congrArg List.length hvb; simpa [bsL] using this
  obtain ⟨Ac, cc, rfl⟩ : ∃ A c, uc = .slice A vc.length c := (Sl.of_own hvc.1).len
  have q2 := Q2.out w1 (H0.out.next hB1) (HT.out.below hB1)
  have HVL := Lib.hid hvl
  have HVC := Lib.hid (show (clR rows).length ≤ 40 from Nat.le_trans (List.length_filter_le ..) HL40.out)
  clear hvc hvb hvl
  go_wp2_with fail
  go_at_call 18
  refine q2.mono ?_
  rintro e w2 ⟨ul, cl, rfl, hC, ⟨M, hpm, hri, hbs⟩, hlen, hsz, hB2⟩
  clear q2
  have hB12 := below_trans hB1 hB2
  have hr3 := hC.r3
  have hcl60 : cl.length ≤ 60 := by rw [bs3_len] at hlen; exact hlen
  have hcr : ∀ c ∈ cl, c.rows.length ≤ 60 := fun c hc => by
   have h2 := sizeG_ge (bs3 cl) (c := bsL c.rows) (List.mem_map.2 ⟨_, hc, rfl⟩)
   simp only [bsL, List.length_map] at h2
   omega
  have q3 := CSizes_any ul cl (by omega) (fun c hc => by have := hcr c hc; omega) w2 hr3.1
  obtain ⟨Al, ccl, rfl⟩ := (Sl.of_own hC.out).len
  have hgood := good_group M
  rw [← hbs] at hgood
  have HN0 := Lib.hid (show ∀ i (hi : i < cl.length), 0 < cl[i].rows.length from fun i hi => List.length_pos_iff.2 (hC.each _ (List.getElem_mem hi)).1)
  have HLK := Lib.hid (show ∀ i (hi : i < cl.length) (hn0 : 0 < cl[i].rows.length) k (hk : k < cl[i].rows.length), (dist (cl[i].rows[0].bs.take 1000) (cl[i].rows[k].bs.take 1000) : Int) ≤ 4 from fun i hi hn0 k hk => by
   have h1 := hgood.like (bsL cl[i].rows) (List.mem_map.2 ⟨_, List.getElem_mem hi, rfl⟩) cl[i].rows[k].bs (List.mem_map.2 ⟨_, List.getElem_mem hk, rfl⟩)
   rw [bsL_head _ hn0] at h1
   exact like_dist h1)
  have HAP := Lib.hid (show ∀ i (hi : i < cl.length) (hn0 : 0 < cl[i].rows.length) k (hk : k < cl.length) (hki : k < i) (hm0 : 0 < cl[k].rows.length), ¬ (dist (cl[i].rows[0].bs.take 1000) (cl[k].rows[0].bs.take 1000) : Int) ≤ 4 from fun i hi hn0 k hk hki hm0 => by
   have h1 := (List.pairwise_iff_getElem.1 hgood.apart) k i (by rw [bs3_len]; exact hk) (by rw [bs3_len]; exact hi) hki
   rw [bs3_get _ _ hk, bs3_get _ _ hi, bsL_head _ hm0, bsL_head _ hn0, like_comm] at h1
   exact unlike_dist h1)
  have HFL := Lib.hid (show (flR cl cl.length).length = vc.length from by
   have h1 := congrArg List.length (flR_bs cl)
   rw [hbs] at h1
   have h2 := (flat_group M).length_eq
   have h3 := hpm.length_eq
   have h4 := HVL.out
   have h5 := HTL.out
   simp only [bsL, List.length_map] at h1 h3 h5
   omega)
  have HPM := Lib.hid (show (bsL (flR cl cl.length)).Perm (tuL (bsL rows)) from by
   rw [flR_bs, hbs]
   exact (flat_group M).trans hpm)
  have HF60 := Lib.hid (show ∀ i, (flR cl i).length ≤ 60 from fun i => Nat.le_trans (flR_len cl i) hsz)
  have HF := Lib.hid (show ∀ i, ∀ p ∈ flR cl i, p.bs.length ≤ 200 ∧ Sl eB w2.heap.size w2 (eC p) p.bs from fun i p hp => by
   obtain ⟨c, hc, hpc⟩ := flR_in cl i hp
   refine ⟨HS.out _ ?_, (hr3.2 c hc).2 p hpc⟩
   have h1 : p.bs ∈ (bs3 cl).flatten := List.mem_flatten.2 ⟨bsL c.rows, List.mem_map.2 ⟨c, hc, rfl⟩, List.mem_map.2 ⟨p, hpc, rfl⟩⟩
   rw [hbs] at h1
   exact hpm.mem_iff.1 ((flat_group M).mem_iff.1 h1))
  have HO := Lib.hid (show ∀ i (hi : i < cl.length), ∃ b off, Al = some ⟨b, off, none⟩ ∧ b < w2.heap.size ∧ w2.cell? ⟨b, off + i, none⟩ = some (.slice cl[i].A cl[i].rows.length cl[i].c) from fun i hi => by
   obtain ⟨A', c', e, hAl⟩ := hr3.some
   injection e with e1 e2 e3
   subst e1
   obtain ⟨b, off, e, hb, hc⟩ := hAl (by omega)
   exact ⟨b, off, e, hb, hc i hi⟩)
  have HI := Lib.hid (show ∀ i (hi : i < cl.length), ∃ b off, cl[i].A = some ⟨b, off, none⟩ ∧ b < w2.heap.size ∧ ∀ k (hk : k < cl[i].rows.length), w2.cell? ⟨b, off + k, none⟩ = some (.slice cl[i].rows[k].A cl[i].rows[k].bs.length cl[i].rows[k].c) ∧ Sl eB w2.heap.size w2 (.slice cl[i].rows[k].A cl[i].rows[k].bs.length cl[i].rows[k].c) cl[i].rows[k].bs from fun i hi => by
   have h2 := hr3.2 _ (List.getElem_mem hi)
   obtain ⟨⟨A', c', e, -, hcs⟩, hR⟩ := h2
   unfold eCC at e
   injection e with e1 e2 e3
   subst e1
   obtain ⟨b, off, e, hb, hc⟩ := hcs (List.length_pos_iff.2 (hC.each _ (List.getElem_mem hi)).1)
   refine ⟨b, off, e, hb, fun k hk => ⟨hc k _ (List.getElem?_eq_getElem hk), hR _ (List.getElem_mem hk)⟩⟩)
  have HCR := Lib.hid (show ∀ i (hi : i < cl.length), cl[i].rows.length ≤ 60 from fun i hi => hcr _ (List.getElem_mem hi))
  have HCN := Lib.hid (show ∀ i (hi : i < cl.length), cntF cl cl.length i = (cl[i].rows.length : Int) from fun i hi => by
   unfold cntF
   rw [if_pos hi, List.getElem?_eq_getElem hi]
   rfl)
  clear hgood hC hr3 hcr hlen hsz hbs hpm hri M
  go_wp2_with fail
  go_at_call 21
  refine q3.mono ?_
  rintro e w3 ⟨rfl, hRow, hB3⟩
  clear q3
  have hB := below_trans hB12 hB3
  have HB3 := Lib.hid hB3
  have HRow := Lib.hid hRow
  have HL60 := Lib.hid hcl60
  have hlw : w2.heap.size < w3.heap.size := hRow.lt
  have HLW := Lib.hid hlw
  clear hRow hB3 hlw hB1 hB2 hB12
  go_wp2_with fail
  go_loopw [6, 7, 8] (fun al fv i wr => ∃ (k : Nat) (u : Value), k ≤ cl.length ∧ i = .int .i64 k ∧ al = .int .i64 ((flR cl k).length : Int) ∧ u = fv ∧ wr.ownsRow w3.heap.size 34 1 u (flR cl k).length ((flR cl k).map eC) ∧ Below w3.heap.size w3 wr) (fun _ _ i _ => cl.length - (RowKit.intOf i).toNat)
  case atStart => exact ⟨0, _, Nat.zero_le _, rfl, rfl, rfl, World.ownsRow_nil _ _ _ _, Below.refl _ _⟩
  case round =>
   obtain ⟨i, fv, hi9, rfl, rfl, rfl, hown, hB4⟩ := hrel
   by_cases hlt : i < cl.length
   · obtain ⟨bO, oO, rfl, hbO, hcO⟩ := HO.out i hlt
     obtain ⟨bI, oI, eI', hbI, hcI⟩ := HI.out i hlt
     have hn0 := HN0.out i hlt
     have HCI := Lib.hid hcI
     have hbO3 := Nat.lt_trans hbO HLW.out
     have hbI3 := Nat.lt_trans hbI HLW.out
     have h24 := HB3.out.trans (hB4.mono HB3.out.size)
     have hco := (h24.cell (p := ⟨bO, oO + i, none⟩) hbO).trans hcO
     have hci0 := (h24.cell (p := ⟨bI, oI + 0, none⟩) hbI).trans (hcI 0 hn0).1
     have hcs := ((hB4.cell (p := ⟨w2.heap.size, i, none⟩) HLW.out).trans (HRow.out.cell i)).trans (cells_ints _ _ _ hlt)
     rw [HCN.out i hlt] at hcs
     have hne : ((cl[i].rows.length : Int) == 0) = false := by rw [beq_eq_false_iff_ne]; omega
     have hll : ((cl.length : Int) != (cl.length : Int)) = false := by simp
     have hll2 : ((cl[i].rows.length : Int) != (cl[i].rows.length : Int)) = false := by simp
     have hil : (i : Int) < (cl.length : Int) := by omega
     have hi60 : i ≤ 60 := by have := HL60.out; omega
     have h60 := HCR.out i hlt
     have Hi := Lib.hid hlt
     have HSU := Lib.hid (flR_succ cl i hlt)
     have HLKi := Lib.hid (HLK.out i hlt hn0)
     have HAPi := Lib.hid (HAP.out i hlt hn0)
     have HFi := Lib.hid (show (flR cl i).length + cl[i].rows.length ≤ 60 from by have := HF60.out (i + 1); rw [flR_succ cl i hlt, List.length_append] at this; exact this)
     have H4 := Lib.hid hB4
     have HOW := Lib.hid hown
     generalize hcj : cl[i] = cj at *
     obtain ⟨Aj, cjc, rj⟩ := cj
     simp only at *
     subst eI'
     have HX := Lib.hid (show ∀ W, Below w3.heap.size w3 W → W.cell? ⟨bO, oO + i, none⟩ = some (.slice (some ⟨bI, oI, none⟩) rj.length cjc) ∧ W.cell? ⟨bI, oI, none⟩ = some (.slice rj[0].A rj[0].bs.length rj[0].c) ∧ (∀ k (hk : k < rj.length), W.cell? ⟨bI, oI + k, none⟩ = some (.slice rj[k].A rj[k].bs.length rj[k].c)) ∧ ∀ k (hk : k < rj.length), Sl eB W.heap.size W (.slice rj[k].A rj[k].bs.length rj[k].c) rj[k].bs from fun W hW => by
      have h2W := HB3.out.trans (hW.mono HB3.out.size)
      refine ⟨(h2W.cell (p := ⟨bO, oO + i, none⟩) hbO).trans hcO, (h2W.cell (p := ⟨bI, oI, none⟩) hbI).trans (HCI.out 0 hn0).1, fun k hk => (h2W.cell (p := ⟨bI, oI + k, none⟩) hbI).trans (HCI.out k hk).1, fun k hk => (HCI.out k hk).2.next h2W⟩)
     have hdr2 : ∀ W, Below w3.heap.size w3 W → Below w3.heap.size w3 W.drew := fun W h => h.trans ((show Below W.heap.size W W.drew from ⟨rfl, rfl, rfl, Nat.le_refl _, fun _ _ => rfl⟩).mono h.size)
     clear hcO hcI hlt hi9 hB4 hown hcj
     clear hci0
     go_wp2_with fail
     go_quiet (fail)
     rename Nat => nq
     have hBq : Below w3.heap.size w3 (wr.drewN nq) := H4.out.trans ((below_drewN' _ _ _).mono H4.out.size)
     have hownq : (wr.drewN nq).ownsRow w3.heap.size 34 1 fv ((flR cl i).length + 0) ((flR cl i ++ rj.take 0).map eC) := by
      have h1 := ownsRow_below HOW.out (below_drewN' wr.heap.size wr nq)
      simpa using h1
     generalize wr.drewN nq = W1 at *
     clear hco hcs hne hll hll2 hil
     go_wp2_with fail
     go_loopw [7, 9] (fun fw kk wx => ∃ (k : Nat) (u : Value), k ≤ rj.length ∧ kk = .int .i64 k ∧ u = fw ∧ wx.ownsRow w3.heap.size 34 1 u ((flR cl i).length + k) ((flR cl i ++ rj.take k).map eC) ∧ Below w3.heap.size w3 wx) (fun _ kk _ => rj.length - (RowKit.intOf kk).toNat)
     case atStart => exact ⟨0, _, Nat.zero_le _, rfl, rfl, hownq, hBq⟩
     case round =>
      obtain ⟨k, u, hk, rfl, rfl, hown, hBx⟩ := hrel
      obtain ⟨hx1, hx2, hx3, hx4⟩ := HX.out wr hBx
      by_cases hlt : k < rj.length
      · have hkl : (k : Int) < (rj.length : Int) := by omega
        have Hk := Lib.hid hlt
        have HTK := Lib.hid (take_rows rj (flR cl i) k hlt)
        have hk60 : k ≤ 60 := by omega
        have hD4 := HLKi.out k hlt
        have hck : ∀ W, Below w3.heap.size w3 W → W.cell? ⟨bO, oO + i, none⟩ = some (.slice (some ⟨bI, oI, none⟩) rj.length cjc) ∧ W.cell? ⟨bI, oI, none⟩ = some (.slice rj[0].A rj[0].bs.length rj[0].c) ∧ W.cell? ⟨bI, oI + k, none⟩ = some (.slice rj[k].A rj[k].bs.length rj[k].c) := fun W hW => ⟨(HX.out W hW).1, (HX.out W hW).2.1, (HX.out W hW).2.2.1 k hlt⟩
        have hDi : ∀ W, Below w3.heap.size w3 W → Calls Tryd.prog 24 #[.slice rj[0].A rj[0].bs.length rj[0].c, .slice rj[k].A rj[k].bs.length rj[k].c] W fun e w' => e = .returned (.int .i64 (dist (rj[0].bs.take 1000) (rj[k].bs.take 1000) : Nat)) ∧ Below W.heap.size W w' := fun W hW => RDistance_any _ _ _ _ W ((HX.out W hW).2.2.2 0 hn0) ((HX.out W hW).2.2.2 k hlt)
        have hS : Below wr.heap.size wr wr.drew := ⟨rfl, rfl, rfl, Nat.le_refl _, fun _ _ => rfl⟩
        have hxk := hx3 k hlt
        have HOWx := Lib.hid hown
        clear hx3 hx4 hown
        generalize rj[0] = P0 at *
        generalize rj[k] = P1 at *
        obtain ⟨A1, c1, b1⟩ := P1
        simp only at *
        generalize dist (P0.bs.take 1000) (b1.take 1000) = D at *
        clear hlt hk
        have h0l : (0 : Int) < (rj.length : Int) := by omega
        have hDg : decide ((4 : Int) < (D : Int)) = false := decide_eq_false (by omega)
        go_wp2_with fail
        refine wp_region_det (Below wr.heap.size wr) [(60, .slice (some ⟨bO, oO, none⟩) cl.length ccl), (61, .int .i64 i), (62, .pointer (some ⟨bO, oO + i, none⟩)), (63, .slice (some ⟨bI, oI, none⟩) rj.length cjc), (64, .pointer (some ⟨bI, oI, none⟩)), (65, .slice P0.A P0.bs.length P0.c), (66, .slice (some ⟨bO, oO, none⟩) cl.length ccl), (67, .int .i64 i), (68, .pointer (some ⟨bO, oO + i, none⟩)), (69, .slice (some ⟨bI, oI, none⟩) rj.length cjc), (70, .int .i64 k), (71, .pointer (some ⟨bI, oI + k, none⟩)), (72, .slice A1 b1.length c1), (73, .int .i64 D), (74, .bool false)]
          (by kernel_rfl) (by kernel_rfl) (by kernel_rfl) (by kernel_rfl) (by kernel_rfl) hS ?ok1 ?fin1
        case ok1 =>
         intro A' hA'
         simp only [putAll, Act.put, List.setIfInBounds_toArray, List.set_cons_zero, List.set_cons_succ] at hA'
         subst hA'
         simp only [detAll]
         refine ⟨?_, ?_, ?_, ?_, ?_, ?_, ?_, ?_, ?_, ?_, ?_, ?_, ?_, ?_, ?_, trivial⟩
         all_goals
          intro w' hS'
          obtain ⟨cc1, cc2, cc3⟩ := hck w' (hBx.trans (hS'.mono hBx.size))
          have hd := hDi w' (hBx.trans (hS'.mono hBx.size))
          clear hck hDi
          go_simp
          first
           | exact hS'
           | exact ⟨rfl, hS'⟩
           | (refine hd.mono ?_; rintro e w'' ⟨rfl, hB⟩; exact ⟨rfl, below_trans hS' hB⟩)
           | done
        case fin1 =>
         intro A' hA' w6 hS6
         simp only [putAll, Act.put, List.setIfInBounds_toArray, List.set_cons_zero, List.set_cons_succ] at hA'
         subst hA'
         obtain ⟨cc1, cc2, cc3⟩ := hck w6 (hBx.trans (hS6.mono hBx.size))
         have hown6 := ownsRow_below HOWx.out hS6
         have hB6 := hBx.trans (hS6.mono hBx.size)
         have hb6 := hB6.size
         have hFi := HFi.out
         clear hck hDi hx1 hx2 hxk hS hS6
         go_wp2_with (at_builtin
                      refine wpList_append_sl _ rfl (.tmp 75) (.tmp 83) _ rfl w3.heap.size 34 i0 (.slice none 0 0) 24 Tryd.underlying22 hi hz0 hz1 hz2 rfl _ _ _ (hown6.alloc _) rfl _ _ [⟨A1, c1, b1⟩] (Sl.new eC w6 [⟨A1, c1, b1⟩] #[.slice A1 b1.length c1] 34 (0, 0) 1 1 rfl (Nat.le_refl _) rfl) rfl eC_one (by unfold maxLen; simp; omega) (by simp; omega) (by simp; omega) ?_
                      intro v' w7 hown' hgrow hat)
         have hB7 : Below w3.heap.size w3 w7 := ((hB6.alloc hb6 (.cells #[.slice A1 b1.length c1] 34)).grown hgrow (by simp; omega) (fun q hq => ((hown6.alloc (.cells #[.slice A1 b1.length c1] 34)).lt q hq).1))
         go_roundw
         case rel => exact ⟨k + 1, _, Hk.out, by go_num, rfl, by rw [HTK.out, ← Nat.add_assoc]; simpa using hown', hB7⟩
         case measure => have := Hk.out; simp [RowKit.intOf]; omega
      · obtain rfl : k = rj.length := by omega
        rw [List.take_length, ← List.length_append] at hown
        clear hlt hk
        go_wp2_with fail
        obtain ⟨w8, hw8⟩ : ∃ W, W = wr := ⟨_, rfl⟩
        subst hw8
        have HB8 := Lib.hid hBx
        have HO8 := Lib.hid hown
        have HX1 := Lib.hid hx1
        clear hown hBx hx1 hx2 hx3 hx4
        go_loopw [10] (fun kk wx => ∃ k : Nat, k ≤ i ∧ kk = .int .i64 k ∧ Below w8.heap.size w8 wx) (fun kk _ => i - (RowKit.intOf kk).toNat)
        case atStart => exact ⟨0, Nat.zero_le _, rfl, Below.refl _ _⟩
        case round =>
         obtain ⟨k, hk, rfl, hBy⟩ := hrel
         have hB3y := HB8.out.trans (hBy.mono HB8.out.size)
         by_cases hlt : k < i
         · have hkc : k < cl.length := Nat.lt_trans hlt Hi.out
           have hm0 := HN0.out k hkc
           obtain ⟨bP, oP, eP, hbP, hcP⟩ := HO.out k hkc
           injection eP with eP
           injection eP with eP1 eP2
           subst eP1 eP2
           obtain ⟨bJ, oJ, eJ, hbJ, hcJ⟩ := HI.out k hkc
           have hnD := HAPi.out k hkc hlt hm0
           have hck : ∀ W, Below w3.heap.size w3 W → W.cell? ⟨bO, oO + i, none⟩ = some (.slice (some ⟨bI, oI, none⟩) rj.length cjc) ∧ W.cell? ⟨bI, oI, none⟩ = some (.slice rj[0].A rj[0].bs.length rj[0].c) ∧ W.cell? ⟨bO, oO + k, none⟩ = some (.slice (some ⟨bJ, oJ, none⟩) cl[k].rows.length cl[k].c) ∧ W.cell? ⟨bJ, oJ, none⟩ = some (.slice cl[k].rows[0].A cl[k].rows[0].bs.length cl[k].rows[0].c) := fun W hW => by
            have h2W := HB3.out.trans (hW.mono HB3.out.size)
            refine ⟨(HX.out W hW).1, (HX.out W hW).2.1, ?_, (h2W.cell (p := ⟨bJ, oJ, none⟩) hbJ).trans (hcJ 0 hm0).1⟩
            rw [← eJ]
            exact (h2W.cell (p := ⟨bO, oO + k, none⟩) hbO).trans hcP
           have hDi : ∀ W, Below w3.heap.size w3 W → Calls Tryd.prog 24 #[.slice rj[0].A rj[0].bs.length rj[0].c, .slice cl[k].rows[0].A cl[k].rows[0].bs.length cl[k].rows[0].c] W fun e w' => e = .returned (.int .i64 (dist (rj[0].bs.take 1000) (cl[k].rows[0].bs.take 1000) : Nat)) ∧ Below W.heap.size W w' := fun W hW => RDistance_any _ _ _ _ W ((HX.out W hW).2.2.2 0 hn0) ((hcJ 0 hm0).2.next (HB3.out.trans (hW.mono HB3.out.size)))
           have hS : Below wr.heap.size wr wr.drew := ⟨rfl, rfl, rfl, Nat.le_refl _, fun _ _ => rfl⟩
           have hki : (k : Int) < (i : Int) := by omega
           have hkl : (k : Int) < (cl.length : Int) := by omega
           have hn0r : 0 < rj.length := hn0
           have h0l : (0 : Int) < (rj.length : Int) := by omega
           have h0k : (0 : Int) < (cl[k].rows.length : Int) := by omega
           have hil : (i : Int) < (cl.length : Int) := by have := Hi.out; omega
           have Hk := Lib.hid hlt
           have HBY := Lib.hid hBy
           clear hlt hk hcP hcJ eJ hBy
           generalize rj[0] = P0 at *
           generalize cl[k].rows[0] = P1 at *
           generalize cl[k].rows.length = nk at *
           generalize cl[k].c = ck at *
           generalize dist (P0.bs.take 1000) (P1.bs.take 1000) = D at *
           have hDg : decide ((D : Int) ≤ (4 : Int)) = false := decide_eq_false (by omega)
           clear hnD
           go_wp2_with fail
           refine wp_region_det (Below wr.heap.size wr) [(90, .slice (some ⟨bO, oO, none⟩) cl.length ccl), (91, .int .i64 i), (92, .pointer (some ⟨bO, oO + i, none⟩)), (93, .slice (some ⟨bI, oI, none⟩) rj.length cjc), (94, .pointer (some ⟨bI, oI, none⟩)), (95, .slice P0.A P0.bs.length P0.c), (96, .slice (some ⟨bO, oO, none⟩) cl.length ccl), (97, .int .i64 k), (98, .pointer (some ⟨bO, oO + k, none⟩)), (99, .slice (some ⟨bJ, oJ, none⟩) nk ck), (100, .pointer (some ⟨bJ, oJ, none⟩)), (101, .slice P1.A P1.bs.length P1.c), (102, .int .i64 D), (103, .bool false)]
             (by kernel_rfl) (by kernel_rfl) (by kernel_rfl) (by kernel_rfl) (by kernel_rfl) hS ?ok2 ?fin2
           case ok2 =>
            intro A' hA'
            simp only [putAll, Act.put, List.setIfInBounds_toArray, List.set_cons_zero, List.set_cons_succ] at hA'
            subst hA'
            simp only [detAll]
            refine ⟨?_, ?_, ?_, ?_, ?_, ?_, ?_, ?_, ?_, ?_, ?_, ?_, ?_, ?_, trivial⟩
            all_goals
             intro w' hS'
             obtain ⟨cc1, cc2, cc3, cc4⟩ := hck w' (hB3y.trans (hS'.mono hB3y.size))
             have hd := hDi w' (hB3y.trans (hS'.mono hB3y.size))
             clear hck hDi
             go_simp
             first
              | exact hS'
              | exact ⟨rfl, hS'⟩
              | (refine hd.mono ?_; rintro e w'' ⟨rfl, hB⟩; exact ⟨rfl, below_trans hS' hB⟩)
              | done
           case fin2 =>
            intro A' hA' w6 hS6
            simp only [putAll, Act.put, List.setIfInBounds_toArray, List.set_cons_zero, List.set_cons_succ] at hA'
            subst hA'
            clear hck hDi hS
            go_wp2_with fail
            go_roundw
            case rel => exact ⟨k + 1, Hk.out, by go_num, HBY.out.trans (hS6.mono HBY.out.size)⟩
            case measure => have := Hk.out; simp [RowKit.intOf]; omega
         · obtain rfl : k = i := by omega
           have hx1 := (HX.out wr hB3y).1
           have hil : (k : Int) < (cl.length : Int) := by have := Hi.out; omega
           have h3 : ¬ (k : Int) < (k : Int) := by omega
           have h4 : ¬ k < k := by omega
           have hown := ownsRow_below HO8.out hBy
           have HSUx := HSU.out
           rw [← HSUx] at hown
           have hrl : ((flR cl k).length : Int) + (rj.length : Int) = ((flR cl (k + 1)).length : Int) := by rw [HSUx, List.length_append]; simp
           have hl60 := HF60.out (k + 1)
           have HRL := Lib.hid hrl
           have HOWN := Lib.hid hown
           have hFi := HFi.out
           clear hlt hk HSUx hown hrl
           go_wp2_with fail
           go_roundw
           case rel => exact ⟨k + 1, _, Hi.out, by go_num, by rw [← HRL.out], rfl, HOWN.out, hB3y⟩
           case measure => have := Hi.out; simp [RowKit.intOf]; omega
   · obtain rfl : i = cl.length := by omega
     have h3 : ¬ (cl.length : Int) < (cl.length : Int) := by omega
     have h4 : ¬ cl.length < cl.length := by omega
     have hEQ : (((flR cl cl.length).length : Int) == (vc.length : Int)) = true := by rw [HFL.out]; simp
     have hB9 := below_trans hB hB4
     have hRin : RowsIn wr fv (flR cl cl.length) := ⟨Sl.of_own hown, fun p hp => (HF.out cl.length p hp).2.next (HB3.out.trans (hB4.mono HB3.out.size))⟩
     have qs := RSort_any fv (flR cl cl.length) (by have := HF60.out cl.length; omega) (fun p hp => by have := (HF.out cl.length p hp).1; omega) wr hRin
     obtain ⟨Af, cf, rfl⟩ := (Sl.of_own hown).len
     have HQ3 := Lib.hid (fun W (h : Below w.heap.size w W) => Q3.out W (H0.out.next h) (HT.out.below h))
     have HWK := Lib.hid (fun W (h : Below w.heap.size w W) => HW.out W (HT.out.below h))
     have hpm2 := HPM.out
     have HPM2 := Lib.hid hpm2
     clear hown hRin hpm2 hB4 hi9 hlt
     generalize flR cl cl.length = FL at *
     go_wp2_with fail
     go_at_call 25
     refine qs.mono ?_
     rintro e wa ⟨ua, va, rfl, hca, hpa, hria, hBa⟩
     have hBta := below_trans hB9 hBa
     have HA := Lib.hid (show RowsIn wa ua va from ⟨Sl.of_own hca.1, fun p hp => Sl.of_own (hca.2 p hp)⟩)
     have HPA := Lib.hid (hpa.trans HPM2.out)
     have HIA := Lib.hid hria
     have qt := HQ3.out wa hBta
     clear qs hca hpa hria
     go_wp2_with fail
     go_at_call 14
     refine qt.mono ?_
     rintro e wb ⟨ub, rb, rfl, hrb, hpb, hrib, hBb⟩
     have hBtb := below_trans hBta hBb
     have hse : va.map (·.bs) = rb.map (·.bs) := by
      have := rise_one (HPA.out.trans hpb.symm) HIA.out (rise_list hrib)
      unfold bsL at this
      exact this
     have hRR := RRows_true ua ub va rb wb (HA.out.next hBb) hrb hse (by
      have h1 := HPA.out.length_eq
      have h2 := HPM2.out.length_eq
      have h3 := HF60
      simp only [bsL, List.length_map] at h1 h2
      have h5 := HFL.out
      have h6 := HVL.out
      have h7 := HVC.out
      omega)
     clear qt hrb hpb hrib hse
     go_wp2_with fail
     go_at_call 11
     refine hRR.mono ?_
     rintro e wc ⟨rfl, nc, hwc⟩
     have hBtc : Below w.heap.size w wc := by rw [hwc]; exact below_trans hBtb (below_drewN' _ _ _)
     have hwk := HWK.out wc hBtc
     clear hRR hwc
     go_wp2_with fail
     go_at_call 9
     refine hwk.mono ?_
     rintro e wd ⟨rfl, hBd⟩
     clear hwk
     go_wp2_with fail
     go_ret
     exact ⟨rfl, below_trans hBtc hBd⟩
theorem ClusterOnce_any (v0 : Value) (rows : List RowC) (w : World) (h0 : RowsIn w v0 rows) (hT : Tab w) :
    Calls Tryd.prog 5 #[v0] w fun e w' => e = .returned (.bool true) ∧ Below w.heap.size w w' := by
  cases e0 : gr6 rows with
  | true => exact Once_great v0 rows w h0 hT e0
  | false => exact Once_main v0 rows w h0 hT e0
end Go.Proofs.YtgblkcddhnigaaaDoor
