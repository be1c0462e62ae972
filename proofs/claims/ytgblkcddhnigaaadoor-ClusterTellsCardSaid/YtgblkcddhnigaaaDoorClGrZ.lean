import Derived.Test.YtgblkcddhnigaaaDoorClMZ
import Derived.Test.YtgblkcddhnigaaaDoorClRtZ
namespace Go.Proofs.YtgblkcddhnigaaaDoor
open Go.RowKit Go.Shelf
attribute [local go_sem] Oper.semAt_some run_store_func
set_option maxRecDepth 100000 in
set_option maxHeartbeats 4000000 in
theorem RGroup_any (v0 : Value) (rows : List RowC) (hr : rows.length ≤ 1000) (hl8 : ∀ p ∈ rows, p.bs.length ≤ 100000) (w : World) (h0 : RowsIn w v0 rows) :
    Calls Tryd.prog 10 #[v0] w fun e w' => ∃ u cl, e = .returned u ∧ CcB w.heap.size w' u cl ∧ bs3 cl = groupG (bsL rows) ∧ Below w.heap.size w w' := by
  obtain ⟨i0, hi, hz0, hz1, hz2⟩ := info_parts info_row
  obtain ⟨i1, hi', hz0', hz1', hz2'⟩ := info_parts info_rows
  obtain ⟨i2, hi'', hz0'', hz1'', hz2''⟩ := info_parts info_u8
  obtain ⟨A, c, rfl, hA⟩ := h0.some
  have hat := fun b off (e : A = some ⟨b, off, none⟩) k hk => RowsIn.at (e ▸ h0) k hk
  have hbl : (bsL rows).length = rows.length := by simp [bsL]
  have HG := Lib.hid (show ∀ k (hk : k < rows.length), groupG ((bsL rows).take (k + 1)) = addG (groupG ((bsL rows).take k)) rows[k].bs from fun k hk => by
   rw [List.take_succ_eq_append_getElem (by omega), groupG_snoc, bsL_get])
  have HE := Lib.hid (show groupG ((bsL rows).take rows.length) = groupG (bsL rows) from by rw [← hbl, List.take_length])
  have HL := Lib.hid (show ∀ k, k ≤ rows.length → (groupG ((bsL rows).take k)).length ≤ 1000 ∧ sizeG (groupG ((bsL rows).take k)) ≤ 1000 from fun k hk => by
   have h1 := group_len ((bsL rows).take k)
   have h2 := sizeG_group ((bsL rows).take k)
   rw [List.length_take] at h1 h2
   omega)
  have H8 := Lib.hid (show ∀ k (hk : k < rows.length), rows[k].bs.length ≤ 100000 from fun k hk => hl8 _ (List.getElem_mem hk))
  have HN := Lib.hid hr
  clear hbl hr hl8 h0
  go_enter Tryd.func10, Tryd.ntmps10
  go_wp2_with fail
  go_loopw [3, 4] (fun t i wr => ∃ (k : Nat) (cl : List ClC), k ≤ rows.length ∧ i = .int .i64 k ∧ CcB w.heap.size wr t cl ∧ bs3 cl = groupG ((bsL rows).take k) ∧ Below w.heap.size w wr) (fun _ i _ => rows.length - (RowKit.intOf i).toNat)
  case atStart => exact ⟨0, [], Nat.zero_le _, rfl, CcB.nil _ _, rfl, Below.refl _ _⟩
  case round =>
   obtain ⟨k, cl, hk, rfl, hCC, hbs, hB⟩ := hrel
   by_cases hlt : k < rows.length
   · obtain ⟨b, off, rfl, hb⟩ := hA (by omega)
     obtain ⟨hrow, hsl⟩ := hat b off rfl k hlt
     have hcx := (hB.cell (p := ⟨b, off + k, none⟩) hb).trans hrow
     have hsl := hsl.next hB
     have hkl : (k : Int) < rows.length := by omega
     have h8 := H8.out k hlt
     have Hst := Lib.hid (HG.out k hlt)
     have hL1 := HL.out k (by omega)
     rw [← hbs, bs3_len] at hL1
     have Hk := Lib.hid hlt
     have hk9 : k ≤ 1000 := by have := HN.out; omega
     rw [← hbs] at Hst
     have HLn := Lib.hid hL1
     have Hbs := Lib.hid hbs
     generalize rows[k] = R at *
     have hrw := row_made wr
     have hA1 := below_al wr (.cells #[] 5)
     have hcx := (hA1.cell (p := ⟨b, off + k, none⟩) (Nat.lt_of_lt_of_le hb hB.size)).trans hcx
     clear hrow hlt hat hA hL1 hbs
     obtain ⟨At, ct, rfl⟩ := (Sl.of_own hCC.out).len
     go_wp2_with (first
      | (at_builtin
         refine wpList_append_sl _ rfl (.tmp 14) (.tmp 18) _ rfl wr.heap.size 5 i2 (.int .u8 0) 1 Tryd.underlying34 hi'' hz0'' hz1'' hz2'' rfl _ 0 [] hrw rfl wr.heap.size _ R.bs (hsl.below hA1) rfl (fun _ => rfl) (by unfold maxLen; omega) (by omega) (by simp) ?_
         intro va w1 hown1 hg1 hat1
         have hB1 : Below wr.heap.size wr w1 := hA1.trans (below_grown hrw hg1 (by simp) (Nat.le_refl _))
         rw [Nat.zero_add, List.nil_append] at hown1
         obtain ⟨A3, c3, rfl⟩ : ∃ A c, va = .slice A R.bs.length c := (Sl.of_own hown1).len))
     have hBw := below_trans hB hB1
     have hRo : w1.ownsRow w.heap.size 5 1 (eC ⟨A3, c3, R.bs⟩) R.bs.length (R.bs.map eB) := ownsRow_base hown1 hB.size
     have hC1 := hCC.bel hB1
     clear hcx hsl hown1 hCC hB1 hA1 hrw hg1 hat1
     go_loopw [6, 7] (fun t i wx => ∃ j : Nat, j ≤ cl.length ∧ i = .int .i64 j ∧ ((t = .int .i64 (-1) ∧ ∀ q (hq : q < cl.length), q < j → likeC R.bs (bsL cl[q].rows) = false) ∨ (∃ (m : Nat) (hm : m < cl.length), t = .int .i64 m ∧ likeC R.bs (bsL cl[m].rows) = true ∧ ∀ q (hq : q < cl.length), q < m → likeC R.bs (bsL cl[q].rows) = false)) ∧ Below w1.heap.size w1 wx) (fun _ i _ => cl.length - (RowKit.intOf i).toNat)
     case atStart => exact ⟨0, Nat.zero_le _, rfl, .inl ⟨rfl, fun q _ h => absurd h (by omega)⟩, Below.refl _ _⟩
     case round =>
      obtain ⟨j, hj, rfl, hst, hBx⟩ := hrel
      have hC := hC1.bel hBx
      have hRx := ownsRow_below hRo hBx
      have hBwx := below_trans hBw hBx
      rcases hst with ⟨rfl, hno⟩ | ⟨m, hm, rfl, hy, hno⟩
      · by_cases hlt2 : j < cl.length
        · obtain ⟨g, cap, et, hgB, hglt, hcap, -, hcell, -, -⟩ := own_setV (xs := cl.map eCC) (by rw [List.length_map]; exact hC.out) j (by rw [List.length_map]; exact hlt2)
          obtain ⟨rfl, rfl⟩ : At = some ⟨g, 0, none⟩ ∧ ct = cap := by injection et with e1 e2 e3; exact ⟨e1, e3⟩
          rw [List.getElem_map] at hcell
          have hmem := List.getElem_mem hlt2
          obtain ⟨hne, hco⟩ := hC.each _ hmem
          have hn0 : 0 < cl[j].rows.length := List.length_pos_iff.2 hne
          obtain ⟨gc, capc, ec, -, -, -, -, hcell0, -, -⟩ := own_setV (xs := cl[j].rows.map eC) (by rw [List.length_map]; exact hco) 0 (by rw [List.length_map]; exact hn0)
          rw [List.getElem_map] at hcell0
          have hs0 := Sl.of_own (hC.rows _ hmem cl[j].rows[0] (List.getElem_mem hn0))
          have hW := RDistance_any _ _ cl[j].rows[0].bs R.bs wr hs0 (Sl.of_own hRx)
          have hlk : likeC R.bs (bsL cl[j].rows) = decide ((dist (cl[j].rows[0].bs.take 1000) (R.bs.take 1000) : Int) ≤ 4) := by
           unfold likeC likeB
           rw [bsL_head _ hn0]
           rfl
          have hcl9 : cl[j].rows.length ≤ 1000 := by
           have h1 := sizeG_ge (bs3 cl) (c := bsL cl[j].rows) (List.mem_map.2 ⟨_, hmem, rfl⟩)
           rw [Hbs.out] at h1
           have h2 := (HL.out k (by have := Hk.out; omega)).2
           simp only [bsL, List.length_map] at h1
           simp only [bsL] at h2
           omega
          have HY := Lib.hid (show likeC R.bs (bsL cl[j].rows) = true → ∃ (m : Nat) (hm : m < cl.length), Value.int .i64 (j : Int) = .int .i64 m ∧ likeC R.bs (bsL cl[m].rows) = true ∧ ∀ q (hq : q < cl.length), q < m → likeC R.bs (bsL cl[q].rows) = false from fun hy => ⟨j, hlt2, rfl, hy, hno⟩)
          have HNO := Lib.hid (show likeC R.bs (bsL cl[j].rows) = false → ∀ q (hq : q < cl.length), q < j + 1 → likeC R.bs (bsL cl[q].rows) = false from fun hy q hq hqj => by
           by_cases e : q = j
           · subst e; exact hy
           · exact hno q hq (by omega))
          have hjl : (j : Int) < (cl.length : Int) := by omega
          have hj9 : j ≤ 1000 := by have := HLn.out.1; omega
          have h0l : (0 : Int) < (cl[j].rows.length : Int) := by omega
          have Hj := Lib.hid hlt2
          generalize cl[j].rows[0] = P0 at hcell0 hs0 hW hlk
          generalize dist (P0.bs.take 1000) (R.bs.take 1000) = D at *
          clear hs0 hmem hne hn0 hno et hco
          generalize hcj : cl[j] = cj at *
          clear hlt2
          have hec := hcell
          unfold eCC at hec ec
          injection ec with ec1 ec2 ec3
          rw [ec1, ec3] at hec
          unfold eC at hcell0 hW
          clear hcell hcj ec1 ec2 ec3
          go_wp2_with fail
          go_at_call 24
          refine hW.mono ?_
          rintro e w2 ⟨rfl, hB2⟩
          have hBy := hBx.trans (hB2.mono hBx.size)
          clear hW hcell0 hec hB2 hC hRx
          by_cases hD : (D : Int) ≤ 4
          · have HY2 := Lib.hid (HY.out (hlk.trans (decide_eq_true hD)))
            have hD2 := decide_eq_true hD
            clear HY HNO hlk
            go_wp2_with fail
            go_roundw
            case rel => exact ⟨j + 1, Hj.out, by go_num, .inr HY2.out, hBy⟩
            case measure => have := Hj.out; simp [RowKit.intOf]; omega
          · have HN2 := Lib.hid (HNO.out (hlk.trans (decide_eq_false hD)))
            have hD2 := decide_eq_false hD
            clear HY HNO hlk
            go_wp2_with fail
            go_roundw
            case rel => exact ⟨j + 1, Hj.out, by go_num, .inl ⟨rfl, HN2.out⟩, hBy⟩
            case measure => have := Hj.out; simp [RowKit.intOf]; omega
        · obtain rfl : j = cl.length := by omega
          have HNW := Lib.hid (show bs3 (cl ++ [⟨some ⟨wr.heap.size, 0, none⟩, 1, [⟨A3, c3, R.bs⟩]⟩]) = addG (bs3 cl) R.bs from by
           rw [addG_new (fun q hq => by rw [bs3_get]; exact hno q (by rw [bs3_len] at hq; exact hq) (by rw [bs3_len] at hq; exact hq))]
           simp [bs3, bsL])
          have hcn : ∀ q u, [Value.slice (some ⟨wr.heap.size, 0, none⟩) 1 1][q]? = some u → ((wr.alloc (.cells #[.slice A3 R.bs.length c3] 34)).alloc (.cells #[.slice (some ⟨wr.heap.size, 0, none⟩) 1 1] 22)).cell? ((⟨wr.heap.size + 1, 0, none⟩ : Addr).add q) = some u := by
           have := cell_one_new (wr.alloc (.cells #[.slice A3 R.bs.length c3] 34)) 22 (Value.slice (some ⟨wr.heap.size, 0, none⟩) 1 1)
           rwa [World.size_alloc] at this
          have hout2 := (hC.out.alloc (.cells #[.slice A3 R.bs.length c3] 34)).alloc (.cells #[.slice (some ⟨wr.heap.size, 0, none⟩) 1 1] 22)
          have hbz : w.heap.size ≤ wr.heap.size := hBwx.size
          have hcl1 := HLn.out.1
          have HC := Lib.hid hC
          have HRo := Lib.hid hRx
          clear hlt2 hj hno hC hRx
          go_wp2_with (at_builtin; refine wpList_append_own _ rfl _ _ 25 rfl w.heap.size 22 i1 _ 1 24 Tryd.underlying25 hi' hz0' hz1' hz2' (by decide) (by decide) _ _ _ rfl hout2 ⟨wr.heap.size + 1, 0, none⟩ 1 1 [.slice (some ⟨wr.heap.size, 0, none⟩) 1 1] rfl rfl hcn (by simp [Value.oneCell']) (by unfold maxLen; omega) (by omega) (by simp; omega) ?_; intro v' w3 hown' hgrow _)
          have hpush := CcB.push HC.out ⟨A3, c3, R.bs⟩ HRo.out hbz _ hown' hgrow
          have hBn : Below w.heap.size w w3 := hBwx.trans ((((Below.refl w.heap.size wr).alloc hbz _).alloc (by simp; omega) _).grown hgrow (by simp; omega) (fun q hq => (hout2.lt q hq).1))
          go_roundw
          case rel => exact ⟨k + 1, _, Hk.out, by go_num, hpush, by rw [HNW.out, Hst.out], hBn⟩
          case measure => have := Hk.out; simp [RowKit.intOf]; omega
      · obtain ⟨g, cap, et, hgB, hglt, hcap, -, hcell, -, -⟩ := own_setV (xs := cl.map eCC) (by rw [List.length_map]; exact hC.out) m (by rw [List.length_map]; exact hm)
        obtain ⟨rfl, rfl⟩ : At = some ⟨g, 0, none⟩ ∧ ct = cap := by injection et with e1 e2 e3; exact ⟨e1, e3⟩
        rw [List.getElem_map] at hcell
        have hmem := List.getElem_mem hm
        obtain ⟨hne, hco⟩ := hC.each _ hmem
        obtain ⟨Ac, cc, ec⟩ : ∃ A c, eCC cl[m] = .slice A cl[m].rows.length c := (Sl.of_own hco).len
        have hcl9 : cl[m].rows.length ≤ 1000 := by
         have h1 := sizeG_ge (bs3 cl) (c := bsL cl[m].rows) (List.mem_map.2 ⟨_, hmem, rfl⟩)
         rw [Hbs.out] at h1
         have h2 := (HL.out k (by have := Hk.out; omega)).2
         simp only [bsL, List.length_map] at h1
         simp only [bsL] at h2
         omega
        have HADD := Lib.hid (fun (W1 W3 : World) (h : CcB w.heap.size W1 (.slice (some ⟨g, 0, none⟩) cl.length ct) cl) hR A' c' hown hg hat => CcB.add (W3 := W3) h m hm ⟨A3, c3, R.bs⟩ hR A' c' hown hg hat)
        have HADDB := Lib.hid (show ∀ A' c', bs3 (cl.set m ⟨A', c', cl[m].rows ++ [⟨A3, c3, R.bs⟩]⟩) = addG (bs3 cl) R.bs from fun A' c' => by
         rw [addG_at (i := m) (by rw [bs3_len]; exact hm) (fun q hq hqj => by rw [bs3_get]; exact hno q (by rw [bs3_len] at hq; exact hq) hqj) (by rw [bs3_get]; exact hy), bs3_get, bs3_set])
        have hml : (m : Int) < (cl.length : Int) := by omega
        have hm9 : m ≤ 1000 := by have := HLn.out.1; omega
        have hmn : ¬ (m : Int) < 0 := by omega
        have hcl1 := HLn.out.1
        have hA1 : Below wr.heap.size wr (wr.alloc (.cells #[.slice A3 R.bs.length c3] 34)) := (Below.refl _ _).alloc (Nat.le_refl _) _
        have hbz : w.heap.size ≤ wr.heap.size := hBwx.size
        rw [ec] at hcell hco
        have hcoa := ownsRow_below hco hA1
        have hCa := hC.bel hA1
        have hRa := ownsRow_below hRx hA1
        have hcell2 := (hA1.cell (p := ⟨g, m, none⟩) hglt).trans hcell
        have HEE := Lib.hid ec
        have HC := Lib.hid hC
        have HRo := Lib.hid hRx
        generalize hcj : cl[m] = cj at *
        clear hcj hmem hm hy hno et hC hRx hco hne ec
        have hdk : ((j : Int) < (cl.length : Int) ∧ j < cl.length) ∨ (¬ (j : Int) < (cl.length : Int) ∧ ¬ j < cl.length) := by omega
        clear hj
        rcases hdk with ⟨hdk, hdk2⟩ | ⟨hdk, hdk2⟩
        all_goals
         go_wp2_with (first
          | (at_builtin
             refine wpList_append_sl _ rfl (.tmp 52) (.tmp 54) _ rfl w.heap.size 34 i0 (.slice none 0 0) 24 Tryd.underlying22 hi hz0 hz1 hz2 rfl _ _ _ hcoa rfl _ _ [⟨A3, c3, R.bs⟩] (Sl.new eC wr [⟨A3, c3, R.bs⟩] #[.slice A3 R.bs.length c3] 34 (0, 0) 1 1 rfl (Nat.le_refl _) rfl) rfl eC_one (by unfold maxLen; simp; omega) (by simp; omega) (by simp; omega) ?_
             intro v' w3 hown' hgrow hat
             replace hown' : w3.ownsRow w.heap.size 34 1 v' (cj.rows.length + 1) (cj.rows.map eC ++ [eC ⟨A3, c3, R.bs⟩]) := hown'
             obtain ⟨g', cap', rfl⟩ := ownsRow_succ hown'
             obtain ⟨gt, ct', et, hgB', hglt', hcapt, ⟨ut, hcu⟩, hfu, hnew⟩ := HADD.out _ w3 hCa hRa (some ⟨g', 0, none⟩) cap' hown' (by rw [HEE.out]; exact hgrow) (by rw [HEE.out]; exact hat)
             obtain ⟨rfl, rfl⟩ : g = gt ∧ ct = ct' := by injection et with e1 e2 e3; injection e1 with e1; injection e1 with e1; exact ⟨e1, e3⟩
             have hBn : Below w.heap.size w w3 := (hBwx.trans (hA1.mono hbz)).trans ((Below.refl _ _).grown hgrow (by simp; omega) (fun q hq => (hcoa.lt q hq).1))
             have HNW := Lib.hid hnew
             have HB3 := Lib.hid (HADDB.out (some ⟨g', 0, none⟩) cap')
             clear et hnew))
         go_roundw
         case rel => exact ⟨k + 1, _, Hk.out, by go_num, HNW.out, by rw [HB3.out, Hst.out], hBn.setCell (p := ⟨g, m, none⟩) hgB' _⟩
         case measure => have := Hk.out; simp [RowKit.intOf]; omega
   · obtain rfl : k = rows.length := by omega
     rw [HE.out] at hbs
     go_wp2_with fail
     go_ret
     exact ⟨_, cl, rfl, hCC, hbs, hB⟩
end Go.Proofs.YtgblkcddhnigaaaDoor
