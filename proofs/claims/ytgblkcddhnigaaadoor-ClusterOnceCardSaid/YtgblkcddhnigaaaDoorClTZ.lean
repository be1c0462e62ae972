import Derived.Test.YtgblkcddhnigaaaDoorClDZ
import Derived.Test.YtgblkcddhnigaaaDoorNsKZ
namespace Go.Proofs.YtgblkcddhnigaaaDoor
open Go.RowKit Go.Shelf
attribute [local go_sem] Oper.semAt_some run_store_func
theorem cell_putObj {W : World} {D : Nat} {o o' : Obj} (h : W.heap[D]? = some o) (h1 : o.isCells = false) (h2 : o'.isCells = false) (p : Addr) : (W.putObj D o').cell? p = W.cell? p := by
 have hlt := (Array.getElem?_eq_some_iff.1 h).1
 by_cases e : p.block = D
 · have a1 : (W.putObj D o').cell? p = none := by
     cases hc : (W.putObj D o').cell? p with
     | none => rfl
     | some v =>
       obtain ⟨o2, h3, h4⟩ := cell_cells hc
       rw [e, World.putObj_heap_same hlt] at h3
       cases h3
       rw [h2] at h4
       cases h4
   have a2 : W.cell? p = none := by
    cases hc : W.cell? p with
    | none => rfl
    | some v =>
      obtain ⟨o2, h3, h4⟩ := cell_cells hc
      rw [e, h] at h3
      cases h3
      rw [h1] at h4
      cases h4
   rw [a1, a2]
 · exact World.cell?_of_block (World.putObj_heap_other e)
theorem rows_put {W : World} {D : Nat} {o o' : Obj} {v : Value} {rows : List RowC} (h : RowsIn W v rows) (hk : W.heap[D]? = some o) (h1 : o.isCells = false) (h2 : o'.isCells = false) : RowsIn (W.putObj D o') v rows := by
 have hs : (W.putObj D o').heap.size = W.heap.size := by simp [World.putObj]
 unfold RowsIn
 rw [hs]
 exact ⟨h.1.of_cells fun p _ => cell_putObj hk h1 h2 p, fun p hp => (h.2 p hp).of_cells fun q _ => cell_putObj hk h1 h2 q⟩
def tuL (L : List (List UInt8)) : List (List UInt8) := (L.filter fun b => cleanB b).map fun b => (leastOf b).1
theorem tuL_is (rows : List RowC) : tuL (bsL rows) = (clR rows).map fun p => (leastOf p.bs).1 := by
 unfold tuL bsL clR
 rw [List.filter_map, List.map_map]
 rfl
theorem least_len (b : List UInt8) : (leastOf b).1.length = b.length := by
 unfold leastOf
 split
 · rfl
 · split
   · simp [rcOf, codesOf]
   · rfl
set_option maxRecDepth 100000 in
set_option maxHeartbeats 4000000 in
theorem CTurned_any (v0 : Value) (rows : List RowC) (hr : rows.length ≤ 60) (hl8 : ∀ p ∈ rows, p.bs.length ≤ 400) (w : World) (h0 : RowsIn w v0 rows) (hT : Tab w) :
    Calls Tryd.prog 14 #[v0] w fun e w' => ∃ u rows', e = .returned u ∧ RowsIn w' u rows' ∧ (bsL rows').Perm (tuL (bsL rows)) ∧ RiseR rows' ∧ Below w.heap.size w w' := by
  refine (callsIn_wide (n := 5)).1 ?_
  obtain ⟨i0, hi, hz0, hz1, hz2⟩ := info_parts info_row
  obtain ⟨A, c, rfl, -⟩ := h0.some
  refine callsIn_of_wp_marks Tryd.func14 rfl trivial ?_ rfl
  simp only [Tryd.ntmps14, List.size_toArray, List.length_cons, List.length_nil, Nat.reduceAdd, Nat.reduceSub, Array.replicate_succ, Array.replicate_zero, List.push_toArray, List.append_toArray, List.nil_append, List.cons_append]
  have hA := (Below.refl w.heap.size w).alloc (Nat.le_refl _) (.cells #[.slice none 0 0] 22)
  have hb0 := Boxed.new w 22 (.slice none 0 0)
  have hsz := World.size_alloc w (.cells #[.slice none 0 0] 22)
  have hfC : Fence.wide.fn 28 := trivial
  gi_wp2_with fail
  generalize w.alloc (.cells #[.slice none 0 0] 22) = w1 at *
  gi_at_call 28
  refine (callsIn_wide.2 (Clean0_any A rows.length c w1)).mono ?_
  rintro e w0 ⟨rfl, hbx, hB1⟩
  have hs1 := hB1.size
  have hxl := hbx.lt
  have hb0 : Boxed w0 w.heap.size 22 (.slice none 0 0) := (hB1.block w.heap.size (by omega)).trans hb0
  have hBw : Below w.heap.size w w0 := hA.trans (hB1.mono (by omega))
  rw [hsz] at hbx hxl
  have hseq := clean_seq (w.heap.size + 2) w.heap.size (w.heap.size + 1) rows (by omega) (fun p hp => by have := hl8 p hp; omega) (.slice A rows.length c) w0
    (fun W hk => rows_keep h0 hBw hk (by omega)) (fun W hk => tab_keep hT hBw hk (by omega)) (fun W hk => (Keep.cell hk (p := ⟨w.heap.size + 1, 0, none⟩) (by simp) (by simp)).trans hbx.cell) (by omega)
  rw [hsz]
  have HLl := Lib.hid (show ∀ p ∈ clR rows, p.bs.length ≤ 400 from fun p hp => hl8 p (List.mem_filter.1 hp).1)
  have HR := Lib.hid (show ∀ W, Keep (w.heap.size + 2) w.heap.size w0 W → ∀ p ∈ clR rows, Sl eB W.heap.size W (eC p) p.bs from fun W hk p hp => (rows_keep h0 hBw hk (by omega)).2 p (List.mem_filter.1 hp).1)
  have HLn := Lib.hid (show (clR rows).length ≤ 60 from Nat.le_trans (List.length_filter_le ..) hr)
  have HTt := Lib.hid (show ∀ W, Keep (w.heap.size + 2) w.heap.size w0 W → Tab W from fun W hk => tab_keep hT hBw hk (by omega))
  clear hr hl8 h0 hT hA hB1
  gi_wp2_with fail
  refine wpIn_range_I (gf := 38) (lb := #[.pointer (some ⟨w.heap.size + 1, 0, none⟩)]) rfl rfl trivial rfl (enters_of Tryd.func38 (by kernel_rfl) rfl) hseq (fun _ _ _ => keep_t) (fun W l o o' h1 h2 h3 => keep_put (by omega) W l o o' h1 h2 h3) (Below.refl _ _) (fun _ => rfl)
   (fun (pre : List RowC) W => ∃ v vs, Boxed W w.heap.size 22 v ∧ CollB (w.heap.size + 2) W v vs ∧ bsL vs = pre.map (fun p => (leastOf p.bs).1) ∧ Keep (w.heap.size + 2) w.heap.size w0 W)
   (fun _ _ => False)
   ?own ⟨_, [], hb0, CollB.nil _ _, rfl, keep_r _ _ _⟩ (fun _ _ _ _ _ h => h.elim) ?act1 ?assign1 ?body1 ?done1 ?stop1 ?pan1
  case own =>
   rintro s X Y row ⟨v, vs, h1, h2, h3, h4⟩ hgr hrow
   have hne : ∀ k, k < w0.heap.size → some k ≠ row := fun k hk e => by have := (hrow k e.symm).1; omega
   exact ⟨v, vs, h1.kept hgr (hne _ (by omega)), h2.grow hgr hrow, h3, keep_t h4 ⟨⟨hgr.os, hgr.tape, hgr.output, hgr.size⟩, fun k hk _ => hgr.block k (by have := keep_size h4; omega) (hne k (by omega))⟩⟩
  case assign1 =>
   intro l x W' K hK
   gi_wp2
   exact hK
  case stop1 => rintro c D W' _ h _; exact h.elim
  case pan1 => rintro ch D W' hf; cases hf
  case body1 =>
   rintro l pre x W ⟨v, vs, h1, h2, h3, h4⟩ hpre
   have hx : x ∈ clR rows := hpre.subset (by simp)
   have hs := HR.out W h4 x hx
   have hl := HLl.out x hx
   have hvl : vs.length + 1 ≤ 60 := by
    have h5 := hpre.length_le
    have h6 := congrArg List.length h3
    have := HLn.out
    simp only [bsL, List.length_map, List.length_append, List.length_singleton] at h5 h6
    omega
   have hsz3 := keep_size h4
   have H4 := Lib.hid h4
   have H3 := Lib.hid h3
   have hTW := HTt.out W h4
   have hLe := Least_own (eC x) x.bs (by omega) W hs hTW
   have hlen := least_len x.bs
   have Hlen := Lib.hid hlen
   have hvb : ∀ g, v.ownBlock = some g → g < W.heap.size := fun g hg => (h2.1.lt g hg).2
   generalize hy : leastOf x.bs = y at *
   have Hy := Lib.hid hy
   clear hseq hpre h3 h4 hx hs hTW hlen hy
   gi_wp2_with (first
    | (refine ⟨trivial, ?_⟩; gi_at_call 31
       refine (CallsIn.inRound l (callsIn_wide.2 hLe)).mono ?_
       rintro e w2 ⟨u, hBu, rfl, hu⟩
       obtain ⟨A3, c3, rfl⟩ := hu.1.len
       have hC2 := h2.bel hBu
       have hv2 : Boxed w2 w.heap.size 22 v := (hBu.block w.heap.size h1.lt).trans h1
       have hc2 := hv2.cell
       have hv3 := hv2.alloc (.cells #[.slice A3 y.1.length c3] 34)
       have hc3 := hv3.cell
       have hsz2 := hBu.size
       have hyl : y.1.length ≤ 400 := by have := Hlen.out; omega
       have hbase : w.heap.size + 2 ≤ w2.heap.size := by omega)
    | (gi_at_builtin
       refine wpListIn_append_sl _ rfl (.tmp 15) (.tmp 17) _ rfl (w.heap.size + 2) 34 i0 (.slice none 0 0) 24 Tryd.underlying22 hi hz0 hz1 hz2 rfl _ _ _ (hC2.1.alloc _) rfl _ _ [⟨A3, c3, y.1⟩] (Sl.new eC w2 [⟨A3, c3, y.1⟩] #[.slice A3 y.1.length c3] 34 (0, 0) 1 1 rfl (Nat.le_refl _) rfl) rfl eC_one (by unfold maxLen; simp; omega) (by simp; omega) (by simp; omega) ?_
       intro v' w3 hown' hgrow hat
       replace hown' : w3.ownsRow (w.heap.size + 2) 34 1 v' (vs.length + 1) (vs.map eC ++ [.slice A3 y.1.length c3]) := hown'
       obtain ⟨g', cap', rfl⟩ := ownsRow_succ hown'
       obtain ⟨hv1', hv2', hr2, hk2, hbl2⟩ := appended_low hv2 (by decide) hC2.1 hbase hown' hgrow
       have hc1 := hv1'.cell
       have hf1 := hv1'.frozen))
   have hK1 : Keep (w.heap.size + 2) w.heap.size W w2 := keep_of (hBu.mono (by omega))
   have hK2 := keep_t hK1 hbl2
   have hP := (CollB.push (p := ⟨A3, c3, y.1⟩) (o := .cells #[.slice A3 y.1.length c3] 34) hC2 hu.1 (own_newB hu hvb (by omega)) hown' hgrow hat).set (b := w.heap.size) (u := .slice (some ⟨g', 0, none⟩) (vs.length + 1) cap') (by omega)
   refine ⟨?_, hK2, _, vs ++ [⟨A3, c3, y.1⟩], hv2', hP, ?_, keep_t H4.out hK2⟩
   · exact KeepsFrom.trans ⟨by omega, fun k o _ ho _ => (hBu.block k (Array.getElem?_eq_some_iff.1 ho).1).trans ho⟩ (hk2.from _)
   · simp only [bsL, List.map_append, List.map_singleton]
     have := H3.out
     simp only [bsL] at this
     rw [this, Hy.out]
  case done1 =>
   rintro - D W hD ⟨v, vs, h1, h2, h3, h4⟩ hk
   have hc := h1.cell
   have hvl := congrArg List.length h3
   simp only [bsL, List.length_map] at hvl
   have hSo := Sort_any v vs W h2.rows (by rw [hvl]; exact HLn.out) (fun p hp => by
    have h5 : p.bs ∈ bsL vs := List.mem_map.2 ⟨p, hp, rfl⟩
    rw [h3] at h5
    obtain ⟨q, hq, e⟩ := List.mem_map.1 h5
    have := HLl.out q hq
    rw [← e, least_len]
    omega)
   have hper := tuL_is rows
   rw [← h3] at hper
   have Hper := Lib.hid hper
   have hkp0 : Below w.heap.size w W := hBw.trans ⟨h4.1.1, h4.1.2.1, h4.1.2.2.1, h4.1.2.2.2, fun k hk => h4.2 k (by omega) (by omega)⟩
   clear hper hvl h3
   gi_wp2_with fail
   refine ⟨trivial, ?_⟩
   gi_at_call 32
   refine (callsIn_wide.2 hSo).mono ?_
   rintro e w3 ⟨u, rows', rfl, hR', hp, hri, hB3⟩
   have hk3 : w3.heap[D]? = some (.deferred (some [])) := (hB3.block D (Array.getElem?_eq_some_iff.1 hk).1).trans hk
   have hbw := below_trans hkp0 hB3
   gi_wp2
   refine ⟨by simp, .inl ⟨_, _, rfl, run_takeDeferred hk3, ?_⟩⟩
   refine ⟨_, results_tmp rfl _ _ _, u, rows', rfl, rows_put hR' hk3 rfl rfl, by rw [Hper.out]; exact hp, hri, ?_⟩
   exact hbw.trans ⟨rfl, rfl, rfl, by simp [World.putObj], fun k hk => World.putObj_heap_other (by omega)⟩
end Go.Proofs.YtgblkcddhnigaaaDoor
