import Derived.Test.YtgblkcddhnigaaaDoorClIZ
import Derived.Test.YtgblkcddhnigaaaDoorClRZ
namespace Go.Proofs.YtgblkcddhnigaaaDoor
open Go.RowKit Go.Shelf
attribute [local go_sem] Oper.semAt_some run_store_func
theorem info_row : (Tryd.prog.info? 34).map (fun i => (i.zero, i.size, i.bytes)) = some (some (.slice none 0 0), 1, 24) := by kernel_rfl
theorem cell_cells {w : World} {p : Addr} {v : Value} (h : w.cell? p = some v) : ∃ o, w.heap[p.block]? = some o ∧ o.isCells = true := by
 unfold World.cell? at h
 cases e : w.heap[p.block]? with
 | none => rw [e] at h; cases h
 | some o =>
   rw [e] at h
   cases o <;> first | exact ⟨_, rfl, rfl⟩ | cases h
def CollB (B : Nat) (W : World) (v : Value) (vs : List RowC) : Prop :=
 W.ownsRow B 34 1 v vs.length (vs.map eC) ∧ ∀ p ∈ vs, Sl eB W.heap.size W (eC p) p.bs ∧ ∀ g, (eC p).ownBlock = some g → B ≤ g ∧ g < W.heap.size ∧ v.ownBlock ≠ some g
theorem CollB.kept {B : Nat} {W W' : World} {v : Value} {vs : List RowC} (h : CollB B W v vs) (hs : W.heap.size ≤ W'.heap.size) (hk : ∀ k o, B ≤ k → W.heap[k]? = some o → o.isCells = true → W'.heap[k]? = some o) : CollB B W' v vs := by
 refine ⟨⟨h.1.1, ?_⟩, fun p hp => ?_⟩
 · rcases h.1.2 with h1 | ⟨g, cap, cur, e, hB, hg, hr⟩
   · exact .inl h1
   · exact .inr ⟨g, cap, cur, e, hB, hk g _ hB hg rfl, hr⟩
 · obtain ⟨h1, h2⟩ := h.2 p hp
   refine ⟨?_, fun g hg => ?_⟩
   · obtain ⟨A, c, e, hc, hcs⟩ := h1
     refine ⟨A, c, e, hc, fun h0 => ?_⟩
     obtain ⟨b, off, rfl, hb, hcell⟩ := hcs h0
     have hBb := (h2 b (by rw [e]; rfl)).1
     refine ⟨b, off, rfl, by omega, fun j x hx => ?_⟩
     have h3 := hcell j x hx
     obtain ⟨o, ho, hoc⟩ := cell_cells h3
     have h4 := hk b o hBb ho hoc
     unfold World.cell? at h3 ⊢
     rw [show W'.heap[b]? = W.heap[b]? from h4.trans ho.symm]
     exact h3
   · obtain ⟨h3, h4, h5⟩ := h2 g hg
     exact ⟨h3, by omega, h5⟩
theorem CollB.bel {B : Nat} {W W' : World} {v : Value} {vs : List RowC} (h : CollB B W v vs) (hb : Below W.heap.size W W') : CollB B W' v vs :=
 h.kept hb.size fun k _ _ ho _ => (hb.block k (Array.getElem?_eq_some_iff.1 ho).1).trans ho
theorem CollB.set {B b : Nat} {W : World} {v u : Value} {vs : List RowC} (h : CollB B W v vs) (hb : b < B) : CollB B (W.setCell ⟨b, 0, none⟩ u) v vs :=
 h.kept (by simp) fun k _ hk ho _ => (Below.heap_setCell W ⟨b, 0, none⟩ u k (show k ≠ b by omega)).trans ho
theorem CollB.grow {B D : Nat} {W W' : World} {v : Value} {vs : List RowC} {row : Option Nat} (h : CollB B W v vs) (hg : W.grownBy W' row) (hr : ∀ r, row = some r → D ≤ r ∧ ∃ o : Obj, W.heap[r]? = some o ∧ o.isCells = false) : CollB B W' v vs :=
 h.kept hg.size fun k o _ ho hc => (hg.block k (Array.getElem?_eq_some_iff.1 ho).1 fun e => by
  obtain ⟨-, o', h1, h2⟩ := hr k e.symm
  rw [ho] at h1
  cases h1
  rw [hc] at h2
  cases h2).trans ho
theorem CollB.rows {B : Nat} {W : World} {v : Value} {vs : List RowC} (h : CollB B W v vs) : RowsIn W v vs := ⟨Sl.of_own h.1, fun p hp => (h.2 p hp).1⟩
theorem CollB.nil (B : Nat) (W : World) : CollB B W (.slice none 0 0) [] := ⟨World.ownsRow_nil _ _ _ _, fun p hp => by cases hp⟩
theorem sl_keptB {W W' : World} {p : RowC} {r : Option Nat} (h : Sl eB W.heap.size W (eC p) p.bs) (hg : W.grownBy W' r) (hne : ∀ g, (eC p).ownBlock = some g → r ≠ some g) : Sl eB W'.heap.size W' (eC p) p.bs := by
 refine Sl.more ?_ hg.size
 obtain ⟨A, c, e, hc, hcs⟩ := h
 refine ⟨A, c, e, hc, fun h0 => ?_⟩
 obtain ⟨b, off, rfl, hb, hcell⟩ := hcs h0
 refine ⟨b, off, rfl, hb, fun j x hx => ?_⟩
 have h1 := hcell j x hx
 have hk : W'.heap[b]? = W.heap[b]? := hg.block b hb (by
  intro h
  exact hne b (by rw [e]; rfl) h.symm)
 unfold World.cell? at h1 ⊢
 rw [hk]
 exact h1
theorem CollB.push {B : Nat} {W1 W3 : World} {v v' : Value} {vs : List RowC} {p : RowC} {o : Obj} (h : CollB B W1 v vs) (hp : Sl eB W1.heap.size W1 (eC p) p.bs) (hn : ∀ g, (eC p).ownBlock = some g → B ≤ g ∧ g < W1.heap.size ∧ v.ownBlock ≠ some g)
    (hown : W3.ownsRow B 34 1 v' (vs.length + 1) (vs.map eC ++ [eC p])) (hg : (W1.alloc o).grownBy W3 v.ownBlock) (hat : v'.ownBlock = v.ownBlock ∨ v'.ownBlock = some (W1.alloc o).heap.size) : CollB B W3 v' (vs ++ [p]) := by
 have hA : Below W1.heap.size W1 (W1.alloc o) := (Below.refl _ _).alloc (Nat.le_refl _) o
 refine ⟨by simpa using hown, fun q hq => ?_⟩
 have hq2 : Sl eB W1.heap.size W1 (eC q) q.bs ∧ ∀ g, (eC q).ownBlock = some g → B ≤ g ∧ g < W1.heap.size ∧ v.ownBlock ≠ some g := by
  rcases List.mem_append.1 hq with h1 | h1
  · exact h.2 q h1
  · rw [List.mem_singleton.1 h1]; exact ⟨hp, hn⟩
 refine ⟨sl_keptB (hq2.1.next hA) hg fun g h1 => (hq2.2 g h1).2.2, fun g h1 => ?_⟩
 obtain ⟨h2, h3, h4⟩ := hq2.2 g h1
 have hs := hg.size
 simp only [World.size_alloc] at hs hat
 refine ⟨h2, by omega, ?_⟩
 rcases hat with h5 | h5
 · rw [h5]; exact h4
 · rw [h5]
   intro h6
   have := Option.some.inj h6
   omega
theorem CollB.base {B B' : Nat} {W : World} {v : Value} {vs : List RowC} (h : CollB B W v vs) (hB : B' ≤ B) : CollB B' W v vs := by
 refine ⟨⟨h.1.1, ?_⟩, fun p hp => ⟨(h.2 p hp).1, fun g hg => ⟨Nat.le_trans hB ((h.2 p hp).2 g hg).1, ((h.2 p hp).2 g hg).2⟩⟩⟩
 rcases h.1.2 with h1 | ⟨g, cap, cur, e, hb, hr⟩
 · exact .inl h1
 · exact .inr ⟨g, cap, cur, e, Nat.le_trans hB hb, hr⟩
theorem own_newB {B : Nat} {u : Value} {w w2 : World} {bs : List UInt8} {v : Value} (h : OwnB w.heap.size w2 u bs) (hv : ∀ g, v.ownBlock = some g → g < w.heap.size) (hB : B ≤ w.heap.size) : ∀ g, u.ownBlock = some g → B ≤ g ∧ g < w2.heap.size ∧ v.ownBlock ≠ some g := fun g hg => by
 obtain ⟨h1, h2⟩ := h.2 g hg
 exact ⟨by omega, h2, fun h3 => by have := hv g h3; omega⟩
theorem rows_keep {w w0 W : World} {v : Value} {rows : List RowC} {B : Nat} (h : RowsIn w v rows) (hb : Below w.heap.size w w0) (hk : Keep B w.heap.size w0 W) (hB : w.heap.size ≤ B) : RowsIn W v rows := by
 have hs := hb.size
 have hs2 := keep_size hk
 have hc : ∀ p : Addr, p.block < w.heap.size → W.cell? p = w.cell? p := fun p hp => (Keep.cell hk (by omega) (by omega)).trans (hb.cell hp)
 exact ⟨(h.1.of_cells hc).more (by omega), fun p hp => ((h.2 p hp).of_cells hc).more (by omega)⟩
theorem tab_keep {w w0 W : World} {B : Nat} (h : Tab w) (hb : Below w.heap.size w w0) (hk : Keep B w.heap.size w0 W) (hB : w.heap.size ≤ B) : Tab W := by
 have hl := h.lt
 have hc : ∀ p : Addr, p.block < w.heap.size → W.cell? p = w.cell? p := fun p hp => (Keep.cell hk (by omega) (by omega)).trans (hb.cell hp)
 obtain ⟨h1, h2, h3, h4⟩ := h
 exact ⟨(hc _ hl).trans h1, (hc _ hl).trans h2, (hc _ hl).trans h3, (hc _ hl).trans h4⟩
end Go.Proofs.YtgblkcddhnigaaaDoor
namespace Go.Proofs.YtgblkcddhnigaaaDoor
open Go.RowKit Go.Shelf
attribute [local go_sem] Oper.semAt_some run_store_func
set_option maxRecDepth 100000 in
set_option maxHeartbeats 4000000 in
theorem CClean_any (v0 : Value) (rows : List RowC) (hr : rows.length ≤ 100000) (hl8 : ∀ p ∈ rows, p.bs.length ≤ 100000) (w : World) (h0 : RowsIn w v0 rows) (hT : Tab w) :
    Calls Tryd.prog 12 #[v0] w fun e w' => ∃ u vs, e = .returned u ∧ CollB w.heap.size w' u vs ∧ bsL vs = bsL (clR rows) ∧ Below w.heap.size w w' := by
  refine (callsIn_wide (n := 5)).1 ?_
  obtain ⟨i0, hi, hz0, hz1, hz2⟩ := info_parts info_row
  obtain ⟨A, c, rfl, -⟩ := h0.some
  refine callsIn_of_wp_marks Tryd.func12 rfl trivial ?_ rfl
  simp only [Tryd.ntmps12, List.size_toArray, List.length_cons, List.length_nil, Nat.reduceAdd, Nat.reduceSub, Array.replicate_succ, Array.replicate_zero, List.push_toArray, List.append_toArray, List.nil_append, List.cons_append]
  have hA := (Below.refl w.heap.size w).alloc (Nat.le_refl _) (.cells #[.slice none 0 0] 22)
  have hb0 := Boxed.new w 22 (.slice none 0 0)
  have hsz := World.size_alloc w (.cells #[.slice none 0 0] 22)
  have hfC : Fence.wide.fn 28 := trivial
  gi_wp2_with fail
  generalize w.alloc (.cells #[.slice none 0 0] 22) = w1 at *
  gi_at_call 28
  refine (callsIn_wide.2 (Clean0_any A rows.length c w1)).mono ?_
  rintro e w0 ⟨rfl, hbx, hB1⟩
  have hs1 := hB1.size
  have hxl := hbx.lt
  have hb0 : Boxed w0 w.heap.size 22 (.slice none 0 0) := (hB1.block w.heap.size (by omega)).trans hb0
  have hBw : Below w.heap.size w w0 := hA.trans (hB1.mono (by omega))
  rw [hsz] at hbx hxl
  have hseq := clean_seq (w.heap.size + 2) w.heap.size (w.heap.size + 1) rows hr hl8 (.slice A rows.length c) w0
    (fun W hk => rows_keep h0 hBw hk (by omega)) (fun W hk => tab_keep hT hBw hk (by omega)) (fun W hk => (Keep.cell hk (p := ⟨w.heap.size + 1, 0, none⟩) (by simp) (by simp)).trans hbx.cell) (by omega)
  rw [hsz]
  have HLl := Lib.hid (show ∀ p ∈ clR rows, p.bs.length ≤ 100000 from fun p hp => hl8 p (List.mem_filter.1 hp).1)
  have HR := Lib.hid (show ∀ W, Keep (w.heap.size + 2) w.heap.size w0 W → ∀ p ∈ clR rows, Sl eB W.heap.size W (eC p) p.bs from fun W hk p hp => (rows_keep h0 hBw hk (by omega)).2 p (List.mem_filter.1 hp).1)
  have HLn := Lib.hid (show (clR rows).length ≤ 100000 from Nat.le_trans (List.length_filter_le ..) hr)
  clear hr hl8 h0 hT hA hB1
  gi_wp2_with fail
  refine wpIn_range_I (gf := 38) (lb := #[.pointer (some ⟨w.heap.size + 1, 0, none⟩)]) rfl rfl trivial rfl (enters_of Tryd.func38 (by kernel_rfl) rfl) hseq (fun _ _ _ => keep_t) (fun W l o o' h1 h2 h3 => keep_put (by omega) W l o o' h1 h2 h3) (Below.refl _ _) (fun _ => rfl)
   (fun (pre : List RowC) W => ∃ v vs, Boxed W w.heap.size 22 v ∧ CollB (w.heap.size + 2) W v vs ∧ bsL vs = bsL pre ∧ Keep (w.heap.size + 2) w.heap.size w0 W)
   (fun _ _ => False)
   ?own ⟨_, [], hb0, CollB.nil _ _, rfl, keep_r _ _ _⟩ (fun _ _ _ _ _ h => h.elim) ?act1 ?assign1 ?body1 ?done1 ?stop1 ?pan1
  case own =>
   rintro s X Y row ⟨v, vs, h1, h2, h3, h4⟩ hgr hrow
   have hne : ∀ k, k < w0.heap.size → some k ≠ row := fun k hk e => by have := (hrow k e.symm).1; omega
   exact ⟨v, vs, h1.kept hgr (hne _ (by omega)), h2.grow hgr hrow, h3, keep_t h4 ⟨⟨hgr.os, hgr.tape, hgr.output, hgr.size⟩, fun k hk _ => hgr.block k (by have := keep_size h4; omega) (hne k (by omega))⟩⟩
  case assign1 =>
   intro l x W' K hK
   gi_wp2
   exact hK
  case stop1 => rintro c D W' _ h _; exact h.elim
  case pan1 => rintro ch D W' hf; cases hf
  case body1 =>
   rintro l pre x W ⟨v, vs, h1, h2, h3, h4⟩ hpre
   have hx : x ∈ clR rows := hpre.subset (by simp)
   have hs := HR.out W h4 x hx
   have hl := HLl.out x hx
   have hvl : vs.length + 1 ≤ 100000 := by
    have h5 := hpre.length_le
    have h6 := congrArg List.length h3
    have := HLn.out
    simp only [bsL, List.length_map, List.length_append, List.length_singleton] at h5 h6
    omega
   have hsz3 := keep_size h4
   have H4 := Lib.hid h4
   have H3 := Lib.hid h3
   clear hseq hpre h3 h4 hx
   gi_wp2_with fail
   refine wpIn_region_paths (by kernel_rfl) [[0, 1, 2, 3, 4, 5], [1, 0, 2, 3, 4, 5], [1, 2, 0, 3, 4, 5], [1, 2, 3, 0, 4, 5]] (by kernel_rfl) ?_
   obtain ⟨Wd, hWd⟩ : ∃ Wd, W.drew = Wd := ⟨_, rfl⟩
   have hbd : Below W.heap.size W Wd := by rw [← hWd]; exact (Below.refl _ _).drew
   have hvd : Boxed Wd w.heap.size 22 v := by rw [← hWd]; exact h1
   have hCd : CollB (w.heap.size + 2) Wd v vs := h2.bel hbd
   have hsd := hs.next hbd
   have hszd : W.heap.size ≤ Wd.heap.size := hbd.size
   have hcd := hvd.cell
   have hvb : ∀ g, v.ownBlock = some g → g < Wd.heap.size := fun g hg => (hCd.1.lt g hg).2
   have hCl := Clone_own (eC x) x.bs (by omega) Wd hsd
   rw [hWd]
   clear hWd h1 h2 hs hsd
   simp only [EachPath, and_true, pick_cons, pick_nil, Option.toList_some, List.cons_append, List.nil_append, List.getElem?_cons_zero, List.getElem?_cons_succ]
   refine ⟨?_, ?_, ?_, ?_⟩
   all_goals
    gi_wp2_with (first
     | (refine ⟨trivial, ?_⟩; gi_at_call 29
        refine (CallsIn.inRound l (callsIn_wide.2 hCl)).mono ?_
        rintro e w2 ⟨u, rfl, hu, hBu⟩
        obtain ⟨A3, c3, rfl⟩ := hu.1.len
        have hC2 := hCd.bel hBu
        have hv2 : Boxed w2 w.heap.size 22 v := (hBu.block w.heap.size hvd.lt).trans hvd
        have hc2 := hv2.cell
        have hv3 := hv2.alloc (.cells #[.slice A3 x.bs.length c3] 34)
        have hc3 := hv3.cell
        have hsz2 := hBu.size
        have hbase : w.heap.size + 2 ≤ w2.heap.size := by omega)
     | (gi_at_builtin
        refine wpListIn_append_sl _ rfl (.tmp 8) (.tmp 11) _ rfl (w.heap.size + 2) 34 i0 (.slice none 0 0) 24 Tryd.underlying22 hi hz0 hz1 hz2 rfl _ _ _ (hC2.1.alloc _) rfl _ _ [⟨A3, c3, x.bs⟩] (Sl.new eC w2 [⟨A3, c3, x.bs⟩] #[.slice A3 x.bs.length c3] 34 (0, 0) 1 1 rfl (Nat.le_refl _) rfl) rfl eC_one (by unfold maxLen; simp; omega) (by simp; omega) (by simp; omega) ?_
        intro v' w3 hown' hgrow hat
        replace hown' : w3.ownsRow (w.heap.size + 2) 34 1 v' (vs.length + 1) (vs.map eC ++ [.slice A3 x.bs.length c3]) := hown'
        obtain ⟨g', cap', rfl⟩ := ownsRow_succ hown'
        obtain ⟨hv1', hv2', hr2, hk2, hbl2⟩ := appended_low hv2 (by decide) hC2.1 hbase hown' hgrow
        have hc1 := hv1'.cell
        have hf1 := hv1'.frozen))
    have hK1 : Keep (w.heap.size + 2) w.heap.size W w2 := keep_of ((hbd.trans (hBu.mono hszd)).mono (by omega))
    have hK2 := keep_t hK1 hbl2
    have hP := (CollB.push (p := ⟨A3, c3, x.bs⟩) (o := .cells #[.slice A3 x.bs.length c3] 34) hC2 hu.1 (own_newB hu hvb (by omega)) hown' hgrow hat).set (b := w.heap.size) (u := .slice (some ⟨g', 0, none⟩) (vs.length + 1) cap') (by omega)
    refine ⟨?_, hK2, _, vs ++ [⟨A3, c3, x.bs⟩], hv2', hP, ?_, keep_t H4.out hK2⟩
    · exact KeepsFrom.trans ⟨by omega, fun k o _ ho _ => (hBu.block k (by have := (Array.getElem?_eq_some_iff.1 ho).1; omega)).trans ((hbd.block k (Array.getElem?_eq_some_iff.1 ho).1).trans ho)⟩ (hk2.from _)
    · simp only [bsL, List.map_append, List.map_singleton]
      have := H3.out
      simp only [bsL] at this
      rw [this]
  case done1 =>
   rintro - D W hD ⟨v, vs, h1, h2, h3, h4⟩ hk
   have hc := h1.cell
   gi_wp2
   refine ⟨by simp, .inl ⟨_, _, rfl, run_takeDeferred hk, ?_⟩⟩
   have hkp := keep_t h4 (keep_put (B := w.heap.size + 2) (g := w.heap.size) (w := w0) (by omega) W D _ (.deferred none) hD hk rfl)
   refine ⟨_, results_tmp rfl _ _ _, v, vs, rfl, ?_, h3, ?_⟩
   · exact (h2.grow (D := 0) (grownBy_putObj' W D _) (fun r e => by cases e; exact ⟨Nat.zero_le _, _, hk, rfl⟩)).base (by omega)
   · exact hBw.trans ⟨hkp.1.1, hkp.1.2.1, hkp.1.2.2.1, hkp.1.2.2.2, fun k hk => hkp.2 k (by omega) (by omega)⟩
end Go.Proofs.YtgblkcddhnigaaaDoor
