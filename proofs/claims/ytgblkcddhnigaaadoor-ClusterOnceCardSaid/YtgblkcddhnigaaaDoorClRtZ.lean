import Derived.Test.YtgblkcddhnigaaaDoorClSoZ
namespace Go.Proofs.YtgblkcddhnigaaaDoor
open Go.RowKit Go.Shelf
attribute [local go_sem] Oper.semAt_some run_store_func
set_option maxRecDepth 100000 in
set_option maxHeartbeats 4000000 in
theorem RTurned_any (v0 : Value) (rows : List RowC) (hr : rows.length ≤ 1000) (hl8 : ∀ p ∈ rows, p.bs.length ≤ 1000) (w : World) (h0 : RowsIn w v0 rows) :
    Calls Tryd.prog 15 #[v0] w fun e w' => ∃ u vs, e = .returned u ∧ CollT w.heap.size w' u vs ∧ (bsL vs).Perm (tuL (bsL rows)) ∧ RiseL (bsL vs) ∧ Below w.heap.size w w' := by
  obtain ⟨i0, hi, hz0, hz1, hz2⟩ := info_parts info_row
  obtain ⟨i1, hi', hz0', hz1', hz2'⟩ := info_parts info_u8
  obtain ⟨A, c, rfl, hA⟩ := h0.some
  have HAT := Lib.hid (show ∀ b off, A = some ⟨b, off, none⟩ → ∀ k (hk : k < rows.length), w.cell? ⟨b, off + k, none⟩ = some (.slice rows[k].A rows[k].bs.length rows[k].c) from fun b off e k hk => (RowsIn.at (e ▸ h0) k hk).1)
  have HSR := Lib.hid (show ∀ k (hk : k < rows.length), Sl eB w.heap.size w (.slice rows[k].A rows[k].bs.length rows[k].c) rows[k].bs from fun k hk => h0.2 _ (List.getElem_mem hk))
  have HTK := Lib.hid (show ∀ k (hk : k < rows.length), tuL (bsL (rows.take (k + 1))) = tuL (bsL (rows.take k)) ++ if cleanB rows[k].bs = true then [(leastOf rows[k].bs).1] else [] from fun k hk => by
   rw [tuL_is, tuL_is, clR_succ rows k hk, List.map_append]
   split <;> rfl)
  have HE := Lib.hid (show tuL (bsL (rows.take rows.length)) = tuL (bsL rows) from by rw [List.take_length])
  have HL := Lib.hid hr
  have H8 := Lib.hid (show ∀ k (hk : k < rows.length), rows[k].bs.length ≤ 1000 from fun k hk => hl8 _ (List.getElem_mem hk))
  clear hr hl8 h0
  go_enter Tryd.func15, Tryd.ntmps15
  go_wp2_with fail
  go_loopw [3, 4] (fun t i wr => ∃ (k : Nat) (vs : List RowC), k ≤ rows.length ∧ vs.length ≤ k ∧ i = .int .i64 k ∧ CollT w.heap.size wr t vs ∧ bsL vs = tuL (bsL (rows.take k)) ∧ (∀ p ∈ vs, p.bs.length ≤ 1000) ∧ Below w.heap.size w wr) (fun _ i _ => rows.length - (RowKit.intOf i).toNat)
  case atStart => exact ⟨0, [], Nat.zero_le _, Nat.le_refl _, rfl, CollT.nil _ _, rfl, fun p hp => by (cases hp), Below.refl _ _⟩
  case round =>
   obtain ⟨k, vs, hk, hvl, rfl, hC, hbs, hv8, hB⟩ := hrel
   by_cases hlt : k < rows.length
   · obtain ⟨b, off, rfl, hb⟩ := hA (by omega)
     have hcx := (hB.cell (p := ⟨b, off + k, none⟩) hb).trans (HAT.out b off rfl k hlt)
     have hs8 := H8.out k hlt
     have hsR := (HSR.out k hlt).below hB
     have hCo := rclean_any _ rows[k].bs (by omega) wr (hsR.more hB.size)
     have Htk := Lib.hid (HTK.out k hlt)
     have Hk := Lib.hid hlt
     have hk9 : k ≤ 1000 := by have := HL.out; omega
     have hkl : (k : Int) < (rows.length : Int) := by omega
     have HVL := Lib.hid hvl
     have HBS := Lib.hid hbs
     have HV8 := Lib.hid hv8
     clear hv8
     have hBsz := hB.size
     generalize rows[k] = R at *
     clear hlt hvl hbs
     cases hcl : cleanB R.bs with
     | false =>
       rw [hcl] at hCo
       have Htk2 := Lib.hid (show tuL (bsL (rows.take (k + 1))) = bsL vs from by rw [Htk.out, hcl, HBS.out]; simp)
       clear Htk hcl
       go_wp2_with fail
       go_at_call 30
       refine hCo.mono ?_
       rintro e w2 ⟨rfl, rfl⟩
       clear hCo
       go_wp2_with fail
       go_roundw
       case rel => exact ⟨k + 1, vs, Hk.out, Nat.le_succ_of_le HVL.out, by go_num, hC, Htk2.out.symm, HV8.out, hB⟩
       case measure => have := Hk.out; simp [RowKit.intOf]; omega
     | true =>
       rw [hcl] at hCo
       have Htk2 := Lib.hid (show tuL (bsL (rows.take (k + 1))) = bsL vs ++ [(leastOf R.bs).1] from by rw [Htk.out, hcl, HBS.out]; simp)
       clear Htk hcl
       have hs2 := hsR.more hBsz
       have hle := rLeast_any _ R.bs (by omega) wr hs2
       have hll := least_len R.bs
       generalize leastOf R.bs = LL at *
       obtain ⟨y, fl⟩ := LL
       have hyl : y.length ≤ 1000 := by have : y.length = R.bs.length := hll; omega
       clear hll
       go_wp2_with fail
       go_at_call 30
       refine hCo.mono ?_
       rintro e w2 ⟨rfl, rfl⟩
       clear hCo
       go_wp2_with fail
       go_at_call 33
       refine hle.mono ?_
       rintro e w2 ⟨vl, hBl, rfl, hol⟩
       clear hle
       obtain ⟨Al, cl, rfl⟩ : ∃ A c, vl = .slice A y.length c := (Sl.of_own hol).len
       have hsl := Sl.of_own hol
       have hC2 := hC.bel hBl
       have hB2 := hB.trans (hBl.mono hBsz)
       have hbz2 := hB2.size
       have hrw := row_made w2
       have hA1 := below_al w2 (.cells #[] 5)
       clear hol hC hB hsR hs2 hcx
       go_wp2_with (first
        | (at_builtin
           refine wpList_append_sl _ rfl (.tmp 27) (.tmp 28) _ rfl w2.heap.size 5 i1 (.int .u8 0) 1 Tryd.underlying34 hi' hz0' hz1' hz2' rfl _ 0 [] hrw rfl w2.heap.size _ y (hsl.below hA1) rfl (fun _ => rfl) (by unfold maxLen; omega) (by omega) (by simp) ?_
           intro va w3 hown1 hg1 hat1
           have hA2 : Below w2.heap.size w2 w3 := hA1.trans (below_grown hrw hg1 (by simp) (Nat.le_refl _))
           rw [Nat.zero_add, List.nil_append] at hown1
           obtain ⟨A3, c3, rfl⟩ : ∃ A c, va = .slice A y.length c := (Sl.of_own hown1).len
           have hC3 := hC2.bel hA2
           have hbz3 : w.heap.size ≤ w3.heap.size := Nat.le_trans hbz2 hA2.size
           have hRo : w3.ownsRow w.heap.size 5 1 (eC ⟨A3, c3, y⟩) y.length (y.map eB) := ownsRow_base hown1 hbz2)
        | (at_builtin
           refine wpList_append_sl _ rfl (.tmp 26) (.tmp 30) _ rfl w.heap.size 34 i0 (.slice none 0 0) 24 Tryd.underlying22 hi hz0 hz1 hz2 rfl _ _ _ (hC3.1.alloc _) rfl _ _ [⟨A3, c3, y⟩] (Sl.new eC w3 [⟨A3, c3, y⟩] #[.slice A3 y.length c3] 34 (0, 0) 1 1 rfl (Nat.le_refl _) rfl) rfl eC_one (by have := HVL.out; unfold maxLen; simp; omega) (by have := HVL.out; simp; omega) (by simp; omega) ?_
           intro v' w4 hown' hgrow hat))
       have hB4 : Below w.heap.size w3 w4 := ((Below.refl _ w3).alloc hbz3 _).grown hgrow (by simp; omega) (fun q hq => ((hC3.1.alloc (.cells #[.slice A3 y.length c3] 34)).lt q hq).1)
       have hP := CollT.push (p := ⟨A3, c3, y⟩) hC3 hRo hown' hgrow
       have HY := Lib.hid hyl
       go_roundw
       case rel =>
        refine ⟨k + 1, _, Hk.out, by rw [List.length_append]; exact Nat.succ_le_succ HVL.out, by go_num, hP, by rw [Htk2.out]; simp [bsL], fun p hp => ?_, (hB2.trans (hA2.mono hbz2)).trans hB4⟩
        rcases List.mem_append.1 hp with hp | hp
        · exact HV8.out p hp
        · rw [List.mem_singleton.1 hp]; exact HY.out
       case measure => have := Hk.out; simp [RowKit.intOf]; omega
   · obtain rfl : k = rows.length := by omega
     rw [HE.out] at hbs
     have HBS := Lib.hid hbs
     have hvl2 : vs.length ≤ 1000 := by have := HL.out; omega
     have hso := RSort_any _ vs hvl2 hv8 wr ⟨Sl.of_own hC.1, fun p hp => Sl.of_own (hC.2 p hp)⟩
     have hBs := hB.size
     clear hbs
     go_wp2_with fail
     go_at_call 25
     refine hso.mono ?_
     rintro e w3 ⟨u, vs2, rfl, hC3, hpm, hri, hB3⟩
     clear hso
     have HPM := Lib.hid hpm
     have HRI := Lib.hid hri
     clear hpm hri
     go_wp2_with fail
     go_ret
     refine ⟨u, vs2, rfl, hC3.base hBs, ?_, HRI.out, hB.trans (hB3.mono hBs)⟩
     rw [← HBS.out]
     exact HPM.out
end Go.Proofs.YtgblkcddhnigaaaDoor
