import Derived.Test.YtgblkcddhnigaaaDoorGqAZ
namespace Go.Proofs.YtgblkcddhnigaaaDoor
open Go.RowKit Go.Shelf
attribute [local go_sem] Oper.semAt_some run_store_func
theorem ownsRow_below {X Y : World} {base : Nat} {e : TypeId} {k : Nat} {v : Value} {xs : List Value} (h : X.ownsRow base e 1 v k xs) (hb : Below X.heap.size X Y) : Y.ownsRow base e 1 v k xs :=
 own_keepT h fun g _ _ ho _ => (hb.block g (Array.getElem?_eq_some_iff.1 ho).1).trans ho
theorem ownsRow_base {X : World} {base base' : Nat} {e : TypeId} {size k : Nat} {v : Value} {xs : List Value} (h : X.ownsRow base e size v k xs) (hb : base' ≤ base) : X.ownsRow base' e size v k xs := by
 refine ⟨h.1, ?_⟩
 rcases h.2 with ⟨h1, h2⟩ | ⟨g', cap', cur, h1, h2, h3, h4⟩
 · exact .inl ⟨h1, h2⟩
 · exact .inr ⟨_, _, cur, h1, Nat.le_trans hb h2, h3, h4⟩
set_option maxRecDepth 100000 in
set_option maxHeartbeats 400000 in
theorem Clone_row (sv : Value) (a : List UInt8) (hreach : a.length ≤ 140737488355328) (w : World) (ha : Sl eB w.heap.size w sv a) :
    Calls Tryd.prog 29 #[sv] w fun e w' => ∃ v, e = .returned v ∧ w'.ownsRow w.heap.size 5 1 v a.length (a.map eB) ∧ Below w.heap.size w w' := by
  obtain ⟨i0, hi, hz0, hz1, hz2⟩ := info_parts info_u8
  have hrow := row_made w
  have hB1 : Below w.heap.size w (w.alloc (.cells #[] 5)) := (Below.refl _ _).alloc (Nat.le_refl _) _
  obtain ⟨A, c, rfl⟩ := ha.len
  cases A with
  | none =>
    have hx : a = [] := by
     obtain ⟨A, c', e, _, hcells⟩ := ha
     cases e
     cases a with
     | nil => rfl
     | cons x xs => obtain ⟨_, _, h, _⟩ := hcells (by simp); cases h
    subst hx
    have hq : ∀ w, (binOp .eql 34 (.slice none 0 c) (.slice none 0 0)).run Tryd.prog w = .ok (.bool true) w := fun w => Lib.run_eql_slice_nil w 34 5 none 0 c 0 0 Tryd.underlying34
    go_enter Tryd.func29, Tryd.ntmps29
    go_wp2
    go_ret
    exact ⟨_, rfl, World.ownsRow_nil _ _ _ _, Below.refl _ _⟩
  | some ad =>
    have hq : ∀ w, (binOp .eql 34 (.slice (some ad) a.length c) (.slice none 0 0)).run Tryd.prog w = .ok (.bool false) w := fun w => Lib.run_eql_slice_nil w 34 5 (some ad) a.length c 0 0 Tryd.underlying34
    go_enter Tryd.func29, Tryd.ntmps29
    go_wp2_with
      (at_builtin
       refine wpList_append_sl _ rfl (.tmp 5) (.tmp 6) _ rfl w.heap.size 5 i0 (.int .u8 0) 1 Tryd.underlying34 hi hz0 hz1 hz2 rfl _ 0 [] hrow rfl w.heap.size (.slice (some ad) a.length c) a (ha.below hB1) rfl (fun _ => rfl) (by unfold maxLen; omega) (by omega) (by simp) ?_
       intro v1 w1 hown1 hg1 hat1
       have hB2 : Below w.heap.size w w1 := hB1.trans (below_grown hrow hg1 (by simp) (Nat.le_refl _)))
    go_ret
    exact ⟨v1, rfl, by simpa using hown1, hB2⟩
def likeB (a x : List UInt8) : Bool := wiB a x 4
def likeC (x : List UInt8) (c : List (List UInt8)) : Bool := likeB (c.headD []) x
def addG (cs : List (List (List UInt8))) (x : List UInt8) : List (List (List UInt8)) :=
 if h : cs.findIdx (likeC x) < cs.length then cs.set (cs.findIdx (likeC x)) (cs[cs.findIdx (likeC x)] ++ [x]) else cs ++ [[x]]
def groupG (L : List (List UInt8)) : List (List (List UInt8)) := L.foldl addG []
theorem groupG_snoc (L : List (List UInt8)) (x : List UInt8) : groupG (L ++ [x]) = addG (groupG L) x := by
 unfold groupG
 rw [List.foldl_append]
 rfl
theorem addG_at {cs : List (List (List UInt8))} {x : List UInt8} {i : Nat} (hi : i < cs.length) (h0 : ∀ j (hj : j < cs.length), j < i → likeC x cs[j] = false) (h1 : likeC x cs[i] = true) : addG cs x = cs.set i (cs[i] ++ [x]) := by
 have e : cs.findIdx (likeC x) = i := by
  rw [List.findIdx_eq hi]
  exact ⟨h1, fun j hj => h0 j (by omega) hj⟩
 unfold addG
 rw [dif_pos (by rw [e]; exact hi)]
 simp only [e]
theorem addG_new {cs : List (List (List UInt8))} {x : List UInt8} (h0 : ∀ j (hj : j < cs.length), likeC x cs[j] = false) : addG cs x = cs ++ [[x]] := by
 have e : cs.findIdx (likeC x) = cs.length := by
  rw [List.findIdx_eq_length]
  intro c hc
  obtain ⟨j, hj, rfl⟩ := List.getElem_of_mem hc
  exact h0 j hj
 unfold addG
 rw [dif_neg (by rw [e]; omega)]
theorem bs3_get (cl : List ClC) (j : Nat) (h : j < cl.length) : (bs3 cl)[j]'(by simpa [bs3] using h) = bsL cl[j].rows := by simp [bs3]
theorem bsL_head (rows : List RowC) (h : 0 < rows.length) : (bsL rows).headD [] = rows[0].bs := by
 cases rows with
 | nil => exact absurd h (Nat.lt_irrefl _)
 | cons p ps => rfl
theorem bs3_set (cl : List ClC) (j : Nat) (A : Option Addr) (c : Nat) (rows : List RowC) (p : RowC) : bs3 (cl.set j ⟨A, c, rows ++ [p]⟩) = (bs3 cl).set j (bsL rows ++ [p.bs]) := by
 unfold bs3
 rw [List.map_set]
 simp [bsL]
theorem bs3_len (cl : List ClC) : (bs3 cl).length = cl.length := by simp [bs3]
theorem addG_len (cs : List (List (List UInt8))) (x : List UInt8) : (addG cs x).length ≤ cs.length + 1 := by
 unfold addG
 split
 · rw [List.length_set]; omega
 · rw [List.length_append]; simp
def sizeG (cs : List (List (List UInt8))) : Nat := (cs.map List.length).sum
theorem sizeG_add (cs : List (List (List UInt8))) (x : List UInt8) : sizeG (addG cs x) = sizeG cs + 1 := by
 unfold addG sizeG
 split
 · rename_i h
   generalize cs.findIdx (likeC x) = i at h
   revert i
   induction cs with
   | nil => intro i h; exact absurd h (Nat.not_lt_zero _)
   | cons c cs ih =>
     intro i h
     cases i with
     | zero => simp; omega
     | succ i =>
       have := ih i (by simpa using h)
       simp only [List.set_cons_succ, List.map_cons, List.sum_cons, List.getElem_cons_succ]
       omega
 · rw [List.map_append, List.sum_append]
   rfl
theorem sizeG_group (L : List (List UInt8)) : sizeG (groupG L) = L.length := by
 have h : ∀ (L : List (List UInt8)) (cs : List (List (List UInt8))), sizeG (L.foldl addG cs) = sizeG cs + L.length := by
  intro L
  induction L with
  | nil => intro cs; rfl
  | cons x L ih => intro cs; rw [List.foldl_cons, ih, sizeG_add, List.length_cons]; omega
 unfold groupG
 rw [h]
 exact Nat.zero_add _
theorem sizeG_ge (cs : List (List (List UInt8))) {c : List (List UInt8)} (h : c ∈ cs) : c.length ≤ sizeG cs := by
 unfold sizeG
 induction cs with
 | nil => cases h
 | cons d cs ih =>
   rw [List.map_cons, List.sum_cons]
   rcases List.mem_cons.1 h with rfl | h
   · omega
   · have := ih h; omega
theorem group_len (L : List (List UInt8)) : (groupG L).length ≤ L.length := by
 have h : ∀ (L : List (List UInt8)) (cs : List (List (List UInt8))), (L.foldl addG cs).length ≤ cs.length + L.length := by
  intro L
  induction L with
  | nil => intro cs; exact Nat.le_refl _
  | cons x L ih => intro cs; rw [List.foldl_cons, List.length_cons]; have := ih (addG cs x); have := addG_len cs x; omega
 have := h L []
 simpa [groupG] using this
theorem info_rows : (Tryd.prog.info? 22).map (fun i => (i.zero, i.size, i.bytes)) = some (some (.slice none 0 0), 1, 24) := by kernel_rfl
theorem bsL_get (rows : List RowC) (k : Nat) (h : k < (bsL rows).length) : (bsL rows)[k] = (rows[k]'(by simpa [bsL] using h)).bs := by simp [bsL]
set_option maxRecDepth 100000 in
set_option maxHeartbeats 4000000 in
theorem CGroup_any (v0 : Value) (rows : List RowC) (hr : rows.length ≤ 1000) (hl8 : ∀ p ∈ rows, p.bs.length ≤ 100000) (w : World) (h0 : RowsIn w v0 rows) :
    Calls Tryd.prog 17 #[v0] w fun e w' => ∃ u cl, e = .returned u ∧ CcB w.heap.size w' u cl ∧ bs3 cl = groupG (bsL rows) ∧ Below w.heap.size w w' := by
  obtain ⟨i0, hi, hz0, hz1, hz2⟩ := info_parts info_row
  obtain ⟨i1, hi', hz0', hz1', hz2'⟩ := info_parts info_rows
  obtain ⟨A, c, rfl, hA⟩ := h0.some
  have hat := fun b off (e : A = some ⟨b, off, none⟩) k hk => RowsIn.at (e ▸ h0) k hk
  have hbl : (bsL rows).length = rows.length := by simp [bsL]
  have HG := Lib.hid (show ∀ k (hk : k < rows.length), groupG ((bsL rows).take (k + 1)) = addG (groupG ((bsL rows).take k)) rows[k].bs from fun k hk => by
   rw [List.take_succ_eq_append_getElem (by omega), groupG_snoc, bsL_get])
  have HE := Lib.hid (show groupG ((bsL rows).take rows.length) = groupG (bsL rows) from by rw [← hbl, List.take_length])
  have HL := Lib.hid (show ∀ k, k ≤ rows.length → (groupG ((bsL rows).take k)).length ≤ 1000 ∧ sizeG (groupG ((bsL rows).take k)) ≤ 1000 from fun k hk => by
   have h1 := group_len ((bsL rows).take k)
   have h2 := sizeG_group ((bsL rows).take k)
   rw [List.length_take] at h1 h2
   omega)
  have H8 := Lib.hid (show ∀ k (hk : k < rows.length), rows[k].bs.length ≤ 100000 from fun k hk => hl8 _ (List.getElem_mem hk))
  have HN := Lib.hid hr
  clear hbl hr hl8 h0
  go_enter Tryd.func17, Tryd.ntmps17
  go_wp2_with fail
  go_step3
  go_wp2_with fail
  go_step3
  go_wp2_with fail
  go_loopw [3, 13] (fun t i wr => ∃ (k : Nat) (cl : List ClC), k ≤ rows.length ∧ i = .int .i64 k ∧ CcB w.heap.size wr t cl ∧ bs3 cl = groupG ((bsL rows).take k) ∧ Below w.heap.size w wr) (fun _ i _ => rows.length - (RowKit.intOf i).toNat)
  case atStart => exact ⟨0, [], Nat.zero_le _, rfl, CcB.nil _ _, rfl, Below.refl _ _⟩
  case round =>
   obtain ⟨k, cl, hk, rfl, hCC, hbs, hB⟩ := hrel
   by_cases hlt : k < rows.length
   · obtain ⟨b, off, rfl, hb⟩ := hA (by omega)
     obtain ⟨hrow, hsl⟩ := hat b off rfl k hlt
     have hcx := (hB.cell (p := ⟨b, off + k, none⟩) hb).trans hrow
     have hsl := hsl.next hB
     have hkl : (k : Int) < rows.length := by omega
     have h8 := H8.out k hlt
     have hCl := Clone_row _ rows[k].bs (by omega) wr hsl
     have Hst := Lib.hid (HG.out k hlt)
     have hL1 := HL.out k (by omega)
     have hL2 := HL.out (k + 1) (by omega)
     rw [← hbs, bs3_len] at hL1
     have Hk := Lib.hid hlt
     have hk9 : k ≤ 1000 := by have := HN.out; omega
     rw [← hbs] at Hst
     have HLn := Lib.hid hL1
     have Hbs := Lib.hid hbs
     generalize rows[k] = R at *
     clear hrow hlt hat hA hL2 hL1 hbs
     go_wp2_with fail
     go_at_call 29
     refine hCl.mono ?_
     rintro e w1 ⟨vr, rfl, hvr, hB1⟩
     have hBw := below_trans hB hB1
     obtain ⟨A3, c3, rfl⟩ := (Sl.of_own hvr).len
     have hRo : w1.ownsRow w.heap.size 5 1 (eC ⟨A3, c3, R.bs⟩) R.bs.length (R.bs.map eB) := ownsRow_base hvr hB.size
     have hC1 := hCC.bel hB1
     obtain ⟨At, ct, rfl⟩ := (Sl.of_own hCC.out).len
     clear hCl hcx hsl hvr hCC hB1
     go_wp2_with fail
     go_loopw [21] (fun i wx => ∃ j : Nat, j ≤ cl.length ∧ i = .int .i64 j ∧ (∀ q (hq : q < cl.length), q < j → likeC R.bs (bsL cl[q].rows) = false) ∧ Below w1.heap.size w1 wx) (fun i _ => cl.length - (RowKit.intOf i).toNat)
     case atStart => exact ⟨0, Nat.zero_le _, rfl, fun q _ h => absurd h (by omega), Below.refl _ _⟩
     case round =>
      obtain ⟨j, hj, rfl, hno, hBx⟩ := hrel
      have hC := hC1.bel hBx
      have hRx := ownsRow_below hRo hBx
      have hBwx := below_trans hBw hBx
      by_cases hlt2 : j < cl.length
      · obtain ⟨g, cap, et, hgB, hglt, hcap, -, hcell, -, -⟩ := own_setV (xs := cl.map eCC) (by rw [List.length_map]; exact hC.out) j (by rw [List.length_map]; exact hlt2)
        obtain ⟨rfl, rfl⟩ : At = some ⟨g, 0, none⟩ ∧ ct = cap := by injection et with e1 e2 e3; exact ⟨e1, e3⟩
        rw [List.getElem_map] at hcell
        have hmem := List.getElem_mem hlt2
        obtain ⟨hne, hco⟩ := hC.each _ hmem
        have hn0 : 0 < cl[j].rows.length := List.length_pos_iff.2 hne
        obtain ⟨gc, capc, ec, -, -, -, -, hcell0, -, -⟩ := own_setV (xs := cl[j].rows.map eC) (by rw [List.length_map]; exact hco) 0 (by rw [List.length_map]; exact hn0)
        rw [List.getElem_map] at hcell0
        have hs0 := Sl.of_own (hC.rows _ hmem cl[j].rows[0] (List.getElem_mem hn0))
        have hW := Within_any _ _ cl[j].rows[0].bs R.bs 4 wr hs0 (Sl.of_own hRx)
        have hlk : likeC R.bs (bsL cl[j].rows) = wiB cl[j].rows[0].bs R.bs 4 := by
         unfold likeC likeB
         rw [bsL_head _ hn0]
        have hcl9 : cl[j].rows.length ≤ 1000 := by
         have h1 := sizeG_ge (bs3 cl) (c := bsL cl[j].rows) (List.mem_map.2 ⟨_, hmem, rfl⟩)
         rw [Hbs.out] at h1
         have h2 := (HL.out k (by have := Hk.out; omega)).2
         simp only [bsL, List.length_map] at h1
         simp only [bsL] at h2
         omega
        have HADD := Lib.hid (fun (W1 W3 : World) (h : CcB w.heap.size W1 (.slice (some ⟨g, 0, none⟩) cl.length ct) cl) hR A' c' hown hg hat => CcB.add (W3 := W3) h j hlt2 ⟨A3, c3, R.bs⟩ hR A' c' hown hg hat)
        have HADDB := Lib.hid (show likeC R.bs (bsL cl[j].rows) = true → ∀ A' c', bs3 (cl.set j ⟨A', c', cl[j].rows ++ [⟨A3, c3, R.bs⟩]⟩) = addG (bs3 cl) R.bs from fun hy A' c' => by
         rw [addG_at (i := j) (by rw [bs3_len]; exact hlt2) (fun q hq hqj => by rw [bs3_get]; exact hno q (by rw [bs3_len] at hq; exact hq) hqj) (by rw [bs3_get]; exact hy), bs3_get, bs3_set])
        have HNO := Lib.hid (show likeC R.bs (bsL cl[j].rows) = false → ∀ q (hq : q < cl.length), q < j + 1 → likeC R.bs (bsL cl[q].rows) = false from fun hy q hq hqj => by
         by_cases e : q = j
         · subst e; exact hy
         · exact hno q hq (by omega))
        have hjl : (j : Int) < (cl.length : Int) := by omega
        have hj9 : j ≤ 1000 := by have := HLn.out.1; omega
        have h0l : (0 : Int) < (cl[j].rows.length : Int) := by omega
        have Hj := Lib.hid hlt2
        generalize cl[j].rows[0] = P0 at hcell0 hs0 hW hlk
        clear hs0 hmem hne hn0 hno et
        generalize hcj : cl[j] = cj at *
        clear hlt2
        have HRo := Lib.hid hRx
        have HC := Lib.hid hC
        have hec := hcell
        unfold eCC at hec ec
        injection ec with ec1 ec2 ec3
        rw [ec1, ec3] at hec
        unfold eC at hcell0
        clear hcell hcj ec2
        go_wp2_with fail
        go_at_call 34
        refine hW.mono ?_
        rintro e w2 ⟨rfl, hB2⟩
        have hC2 := HC.out.bel hB2
        have hR2 := ownsRow_below HRo.out hB2
        have hco2 := ownsRow_below hco hB2
        have hEE : eCC cj = .slice (some ⟨gc, 0, none⟩) cj.rows.length capc := by unfold eCC; rw [ec1, ec3]
        rw [hEE] at hco2
        have HEE := Lib.hid hEE
        have hBt := below_trans hBwx hB2
        have hs12 := hBx.trans (hB2.mono hBx.size)
        clear hW hco hcell0 hec ec1 ec3 hEE
        cases hy : wiB P0.bs R.bs 4 with
        | true =>
          have HB3 := Lib.hid (HADDB.out (hlk.trans hy))
          have hA1 : Below w2.heap.size w2 (w2.alloc (.cells #[.slice A3 R.bs.length c3] 34)) := (Below.refl _ _).alloc (Nat.le_refl _) _
          have hCa := hC2.bel hA1
          have hRa := ownsRow_below hR2 hA1
          have hcoa := ownsRow_below hco2 hA1
          have hbz : w.heap.size ≤ w2.heap.size := hBt.size
          clear HADDB HNO hlk hy
          go_wp2_with (first
           | (at_builtin
              refine wpList_append_sl _ rfl (.tmp 37) (.tmp 39) _ rfl w.heap.size 34 i0 (.slice none 0 0) 24 Tryd.underlying22 hi hz0 hz1 hz2 rfl _ _ _ hcoa rfl _ _ [⟨A3, c3, R.bs⟩] (Sl.new eC w2 [⟨A3, c3, R.bs⟩] #[.slice A3 R.bs.length c3] 34 (0, 0) 1 1 rfl (Nat.le_refl _) rfl) rfl eC_one (by unfold maxLen; simp; omega) (by simp; omega) (by simp; omega) ?_
              intro v' w3 hown' hgrow hat
              replace hown' : w3.ownsRow w.heap.size 34 1 v' (cj.rows.length + 1) (cj.rows.map eC ++ [eC ⟨A3, c3, R.bs⟩]) := hown'
              obtain ⟨g', cap', rfl⟩ := ownsRow_succ hown'
              obtain ⟨gt, ct', et, hgB', hglt', hcapt, ⟨ut, hcu⟩, hfu, hnew⟩ := HADD.out _ w3 hCa hRa (some ⟨g', 0, none⟩) cap' hown' (by rw [HEE.out]; exact hgrow) (by rw [HEE.out]; exact hat)
              obtain ⟨rfl, rfl⟩ : g = gt ∧ ct = ct' := by injection et with e1 e2 e3; injection e1 with e1; injection e1 with e1; exact ⟨e1, e3⟩
              have hBn : Below w.heap.size w w3 := (hBt.trans (hA1.mono hbz)).trans ((Below.refl _ _).grown hgrow (by simp; omega) (fun q hq => (hcoa.lt q hq).1))
              have HNW := Lib.hid hnew
              clear et hnew))
          exact ⟨⟨k + 1, _, Hk.out, by go_num, HNW.out, by rw [HB3.out, Hst.out], hBn.setCell (p := ⟨g, j, none⟩) hgB' _⟩, by have := Hk.out; simp [RowKit.intOf]; omega⟩
        | false =>
          have HN2 := Lib.hid (HNO.out (hlk.trans hy))
          clear HADDB HADD HNO hlk hy
          go_wp2_with fail
          go_roundw
          case rel => exact ⟨j + 1, Hj.out, by go_num, HN2.out, hs12⟩
          case measure => have := Hj.out; simp [RowKit.intOf]; omega
      · obtain rfl : j = cl.length := by omega
        have HNW := Lib.hid (show bs3 (cl ++ [⟨some ⟨wr.heap.size, 0, none⟩, 1, [⟨A3, c3, R.bs⟩]⟩]) = addG (bs3 cl) R.bs from by
         rw [addG_new (fun q hq => by rw [bs3_get]; exact hno q (by rw [bs3_len] at hq; exact hq) (by rw [bs3_len] at hq; exact hq))]
         simp [bs3, bsL])
        have hcn : ∀ q u, [Value.slice (some ⟨wr.heap.size, 0, none⟩) 1 1][q]? = some u → ((wr.alloc (.cells #[.slice A3 R.bs.length c3] 34)).alloc (.cells #[.slice (some ⟨wr.heap.size, 0, none⟩) 1 1] 22)).cell? ((⟨wr.heap.size + 1, 0, none⟩ : Addr).add q) = some u := by
         have := cell_one_new (wr.alloc (.cells #[.slice A3 R.bs.length c3] 34)) 22 (Value.slice (some ⟨wr.heap.size, 0, none⟩) 1 1)
         rwa [World.size_alloc] at this
        have hout2 := (hC.out.alloc (.cells #[.slice A3 R.bs.length c3] 34)).alloc (.cells #[.slice (some ⟨wr.heap.size, 0, none⟩) 1 1] 22)
        have hbz : w.heap.size ≤ wr.heap.size := hBwx.size
        have hcl1 := HLn.out.1
        have HC := Lib.hid hC
        have HRo := Lib.hid hRx
        clear hlt2 hj hno hC hRx
        go_wp2_with (at_builtin; refine wpList_append_own _ rfl _ _ 25 rfl w.heap.size 22 i1 _ 1 24 Tryd.underlying25 hi' hz0' hz1' hz2' (by decide) (by decide) _ _ _ rfl hout2 ⟨wr.heap.size + 1, 0, none⟩ 1 1 [.slice (some ⟨wr.heap.size, 0, none⟩) 1 1] rfl rfl hcn (by simp [Value.oneCell']) (by unfold maxLen; omega) (by omega) (by simp; omega) ?_; intro v' w3 hown' hgrow _)
        have hpush := CcB.push HC.out ⟨A3, c3, R.bs⟩ HRo.out hbz _ hown' hgrow
        have hBn : Below w.heap.size w w3 := hBwx.trans ((((Below.refl w.heap.size wr).alloc hbz _).alloc (by simp; omega) _).grown hgrow (by simp; omega) (fun q hq => (hout2.lt q hq).1))
        go_roundw
        case rel => exact ⟨k + 1, _, Hk.out, by go_num, hpush, by rw [HNW.out, Hst.out], hBn⟩
        case measure => have := Hk.out; simp [RowKit.intOf]; omega
   · obtain rfl : k = rows.length := by omega
     rw [HE.out] at hbs
     go_wp2_with fail
     try rw [Exit.noGoto_ret]
     go_ret
     exact ⟨_, cl, rfl, hCC, hbs, hB⟩
end Go.Proofs.YtgblkcddhnigaaaDoor
