import Derived.Test.YtgblkcddhnigaaaDoorClUZ
namespace Go.Proofs.YtgblkcddhnigaaaDoor
open Go.RowKit Go.Shelf
attribute [local go_sem] Oper.semAt_some run_store_func
theorem bsL_app (a b : List RowC) : bsL (a ++ b) = bsL a ++ bsL b := by simp [bsL]
set_option maxRecDepth 100000 in
set_option maxHeartbeats 4000000 in
theorem RClean_any (v0 : Value) (rows : List RowC) (hr : rows.length ≤ 1000) (hl8 : ∀ p ∈ rows, p.bs.length ≤ 1000) (w : World) (h0 : RowsIn w v0 rows) :
    Calls Tryd.prog 13 #[v0] w fun e w' => ∃ u vs, e = .returned u ∧ CollT w.heap.size w' u vs ∧ bsL vs = bsL (clR rows) ∧ Below w.heap.size w w' := by
  obtain ⟨i0, hi, hz0, hz1, hz2⟩ := info_parts info_row
  obtain ⟨i1, hi', hz0', hz1', hz2'⟩ := info_parts info_u8
  obtain ⟨A, c, rfl, hA⟩ := h0.some
  have HAT := Lib.hid (show ∀ b off, A = some ⟨b, off, none⟩ → ∀ k (hk : k < rows.length), w.cell? ⟨b, off + k, none⟩ = some (.slice rows[k].A rows[k].bs.length rows[k].c) from fun b off e k hk => (RowsIn.at (e ▸ h0) k hk).1)
  have HSR := Lib.hid (show ∀ k (hk : k < rows.length), Sl eB w.heap.size w (.slice rows[k].A rows[k].bs.length rows[k].c) rows[k].bs from fun k hk => h0.2 _ (List.getElem_mem hk))
  have HTK := Lib.hid (show ∀ k (hk : k < rows.length), bsL (clR (rows.take (k + 1))) = bsL (clR (rows.take k)) ++ if cleanB rows[k].bs = true then [rows[k].bs] else [] from fun k hk => by
   rw [clR_succ rows k hk, bsL_app]
   split <;> rfl)
  have HE := Lib.hid (show clR (rows.take rows.length) = clR rows from by rw [List.take_length])
  have HL := Lib.hid hr
  have H8 := Lib.hid (show ∀ k (hk : k < rows.length), rows[k].bs.length ≤ 1000 from fun k hk => hl8 _ (List.getElem_mem hk))
  clear hr hl8 h0
  go_enter Tryd.func13, Tryd.ntmps13
  go_wp2_with fail
  go_loopw [3, 4] (fun t i wr => ∃ (k : Nat) (vs : List RowC), k ≤ rows.length ∧ vs.length ≤ k ∧ i = .int .i64 k ∧ CollT w.heap.size wr t vs ∧ bsL vs = bsL (clR (rows.take k)) ∧ Below w.heap.size w wr) (fun _ i _ => rows.length - (RowKit.intOf i).toNat)
  case atStart => exact ⟨0, [], Nat.zero_le _, Nat.le_refl _, rfl, CollT.nil _ _, rfl, Below.refl _ _⟩
  case round =>
   obtain ⟨k, vs, hk, hvl, rfl, hC, hbs, hB⟩ := hrel
   by_cases hlt : k < rows.length
   · obtain ⟨b, off, rfl, hb⟩ := hA (by omega)
     have hcx := (hB.cell (p := ⟨b, off + k, none⟩) hb).trans (HAT.out b off rfl k hlt)
     have hs8 := H8.out k hlt
     have hsR := (HSR.out k hlt).below hB
     have hCo := rclean_any _ rows[k].bs (by omega) wr (hsR.more hB.size)
     have Htk := Lib.hid (HTK.out k hlt)
     have Hk := Lib.hid hlt
     have hk9 : k ≤ 1000 := by have := HL.out; omega
     have hkl : (k : Int) < (rows.length : Int) := by omega
     have HVL := Lib.hid hvl
     have HBS := Lib.hid hbs
     have hBsz := hB.size
     generalize rows[k] = R at *
     clear hlt hvl hbs
     cases hcl : cleanB R.bs with
     | false =>
       rw [hcl] at hCo
       have Htk2 := Lib.hid (show bsL (clR (rows.take (k + 1))) = bsL vs from by rw [Htk.out, hcl, HBS.out]; simp)
       clear Htk hcl
       go_wp2_with fail
       go_at_call 30
       refine hCo.mono ?_
       rintro e w2 ⟨rfl, rfl⟩
       clear hCo
       go_wp2_with fail
       go_roundw
       case rel => exact ⟨k + 1, vs, Hk.out, Nat.le_succ_of_le HVL.out, by go_num, hC, Htk2.out.symm, hB⟩
       case measure => have := Hk.out; simp [RowKit.intOf]; omega
     | true =>
       rw [hcl] at hCo
       have Htk2 := Lib.hid (show bsL (clR (rows.take (k + 1))) = bsL vs ++ [R.bs] from by rw [Htk.out, hcl, HBS.out]; simp)
       clear Htk hcl
       have hcx2 := (below_al wr (.cells #[] 5)).cell (p := ⟨b, off + k, none⟩) (by have := hBsz; show b < _; omega)
       rw [hcx] at hcx2
       have hrw := row_made wr
       have hA1 := below_al wr (.cells #[] 5)
       have hs2 := hsR.more hBsz
       go_wp2_with fail
       go_at_call 30
       refine hCo.mono ?_
       rintro e w2 ⟨rfl, rfl⟩
       clear hCo
       go_wp2_with (first
        | (at_builtin
           refine wpList_append_sl _ rfl (.tmp 17) (.tmp 21) _ rfl wr.heap.size 5 i1 (.int .u8 0) 1 Tryd.underlying34 hi' hz0' hz1' hz2' rfl _ 0 [] hrw rfl wr.heap.size _ R.bs (hs2.below hA1) rfl (fun _ => rfl) (by unfold maxLen; omega) (by omega) (by simp) ?_
           intro va w3 hown1 hg1 hat1
           have hA2 : Below wr.heap.size wr w3 := hA1.trans (below_grown hrw hg1 (by simp) (Nat.le_refl _))
           rw [Nat.zero_add, List.nil_append] at hown1
           obtain ⟨A3, c3, rfl⟩ : ∃ A c, va = .slice A R.bs.length c := (Sl.of_own hown1).len
           have hC3 := hC.bel hA2
           have hbz3 : w.heap.size ≤ w3.heap.size := Nat.le_trans hBsz hA2.size
           have hRo : w3.ownsRow w.heap.size 5 1 (eC ⟨A3, c3, R.bs⟩) R.bs.length (R.bs.map eB) := ownsRow_base hown1 hBsz)
        | (at_builtin
           refine wpList_append_sl _ rfl (.tmp 16) (.tmp 23) _ rfl w.heap.size 34 i0 (.slice none 0 0) 24 Tryd.underlying22 hi hz0 hz1 hz2 rfl _ _ _ (hC3.1.alloc _) rfl _ _ [⟨A3, c3, R.bs⟩] (Sl.new eC w3 [⟨A3, c3, R.bs⟩] #[.slice A3 R.bs.length c3] 34 (0, 0) 1 1 rfl (Nat.le_refl _) rfl) rfl eC_one (by have := HVL.out; unfold maxLen; simp; omega) (by have := HVL.out; simp; omega) (by simp; omega) ?_
           intro v' w4 hown' hgrow hat))
       have hB4 : Below w.heap.size w3 w4 := ((Below.refl _ w3).alloc hbz3 _).grown hgrow (by simp; omega) (fun q hq => ((hC3.1.alloc (.cells #[.slice A3 R.bs.length c3] 34)).lt q hq).1)
       have hP := CollT.push (p := ⟨A3, c3, R.bs⟩) hC3 hRo hown' hgrow
       go_roundw
       case rel => exact ⟨k + 1, _, Hk.out, by rw [List.length_append]; exact Nat.succ_le_succ HVL.out, by go_num, hP, by rw [Htk2.out]; simp [bsL], (hB.trans (hA2.mono hBsz)).trans hB4⟩
       case measure => have := Hk.out; simp [RowKit.intOf]; omega
   · obtain rfl : k = rows.length := by omega
     rw [HE.out] at hbs
     have HBS := Lib.hid hbs
     clear hbs
     go_wp2_with fail
     go_ret
     exact ⟨_, vs, rfl, hC, HBS.out, hB⟩
end Go.Proofs.YtgblkcddhnigaaaDoor
