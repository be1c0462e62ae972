import Derived.Test.YtjclfkbhakjdaaaDoorTrFY
namespace Go.Proofs.YtjclfkbhakjdaaaDoor.Tr
open Go.RowKit Go.Shelf
attribute [local go_sem] Oper.semAt_some run_store_func inProg_round inProg_depth
theorem info_u8T : (Tryd.prog.info? 5).map (fun i => (i.zero, i.size, i.bytes)) = some (some (.int .u8 0), 1, 1) := by kernel_rfl
def okL (a : Except Int (List UInt8)) : List UInt8 := match a with | .ok r => r | .error _ => []
theorem okL_ok {a : Except Int (List UInt8)} {r : List UInt8} (h : a = .ok r) : okL a = r := by rw [h]; rfl
theorem partL_length {bs : List UInt8} {many k x : Nat} (hl : bs.length = k * many) (hx : x < k) : (partL bs many x).length = many := by
 have h : (x + 1) * many ≤ k * many := Nat.mul_le_mul_right many hx
 rw [Nat.succ_mul] at h
 simp only [partL, List.length_take, List.length_drop]
 omega
theorem partL_get {bs : List UInt8} {many x j : Nat} {c : UInt8} (h : (partL bs many x)[j]? = some c) : bs[x * many + j]? = some c := by
 unfold partL at h
 rw [List.getElem?_take] at h
 split at h
 · rw [List.getElem?_drop] at h; exact h
 · cases h
set_option maxRecDepth 100000 in
set_option maxHeartbeats 4000000 in
theorem each_in (many k : Nat) (bf : Nat) (lb : Array Value) (g : List UInt8 → Except Int (List UInt8)) (hbf : BlockOk many bf lb g) (hgl : ∀ L x, g L = .ok x → x.length ≤ 26) (hfn : ∃ fn, Tryd.prog.funcs[bf]? = some fn) (hen : ∀ args w, (callFunc bf args).run Tryd.prog w = .ok (.enter bf args) w)
    (sv : Value) (bs : List UInt8) (hl : bs.length = k * many) (hm : 1 ≤ many) (hm2 : many ≤ 26) (hreach : bs.length ≤ 1000000) (w : World) (hS : Sl eB w.heap.size w sv bs) (n : Nat) :
    CallsIn (Fence.inProg Tryd.prog) n Tryd.prog 48 #[sv, .int .i64 many, .func (.func bf) #[] lb] w fun e w' => Below w.heap.size w w' ∧
      ((∃ v r, eachG g bs many k = .ok r ∧ e = .returned (.tuple #[v, .int .i64 0]) ∧ w'.ownsRow w.heap.size 5 1 v r.length (r.map eB)) ∨ ∃ m, eachG g bs many k = .error m ∧ e = .returned (.tuple #[.slice none 0 0, .int .i64 m])) := by
 obtain ⟨A, c, rfl, hcap, hcells⟩ := hS
 have hmf : ∀ (fn : Fn) (first cap : Array Value) (w : World), (Instr.makeFunc fn first cap).run Tryd.prog w = .ok (.func fn first cap) w := fun _ _ _ _ => rfl
 have hA := ((Below.refl w.heap.size w).alloc (Nat.le_refl _) (.cells #[.func (.func bf) #[] lb] 51)).alloc (by simp) (.cells #[.slice none 0 0] 24) |>.alloc (by simp; omega) (.cells #[.int .i64 0] 28)
 have hb := boxE_new w (.func (.func bf) #[] lb) (.slice none 0 0) (.int .i64 0)
 have hs0 : (((w.alloc (.cells #[.func (.func bf) #[] lb] 51)).alloc (.cells #[.slice none 0 0] 24)).alloc (.cells #[.int .i64 0] 28)).heap.size = w.heap.size + 3 := by simp
 obtain ⟨b, off, hbo⟩ : ∃ b off, 0 < bs.length → A = some ⟨b, off, none⟩ ∧ b < w.heap.size ∧ ∀ j x, bs[j]? = some x → w.cell? ⟨b, off + j, none⟩ = some (eB x) := by
  by_cases h0 : 0 < bs.length
  · obtain ⟨b, off, h⟩ := hcells h0
    exact ⟨b, off, fun _ => h⟩
  · exact ⟨0, 0, fun h => absurd h h0⟩
 clear hcells
 have hd0 : (bs.length : Int) % (many : Int) = 0 := by rw [hl]; push_cast; exact Int.mul_emod_left _ _
 have hd : ((bs.length : Int) % (many : Int) != 0) = false := by rw [hd0]; rfl
 clear hd0
 have hkm : 0 < k → 0 < bs.length := fun h => by rw [hl]; exact Nat.mul_pos h (by omega)
 have hbk : k ≤ 1000000 := by
  have : k * 1 ≤ k * many := Nat.mul_le_mul_left k hm
  omega
 have Hl := Lib.hid hl
 clear hl
 generalize hLd : bs.length = L at *
 have HL := Lib.hid hLd
 clear hLd
 refine callsIn_of_wp_marks Tryd.func48 rfl ⟨_, Tryd.func48⟩ ?_ rfl
 simp only [Tryd.ntmps48, List.size_toArray, List.length_cons, List.length_nil, Nat.reduceAdd, Nat.reduceSub, Array.replicate_succ, Array.replicate_zero, List.push_toArray, List.append_toArray, List.nil_append, List.cons_append]
 gi_wp2_with fail
 generalize ((w.alloc (.cells #[.func (.func bf) #[] lb] 51)).alloc (.cells #[.slice none 0 0] 24)).alloc (.cells #[.int .i64 0] 28) = w1 at *
 refine ⟨⟨_, Tryd.func70⟩, ?_⟩
 gi_at_call 70
 refine (Chunk_in A L c many hm _ w1).mono ?_
 rintro e w2 ⟨rfl, hB2, hs2, hc1, hc2⟩
 gi_wp2_with fail
 rw [hs0] at hc1 hc2 hs2
 have hA2 := below_trans hA hB2
 have hb2 : BoxE w.heap.size (.func (.func bf) #[] lb) (.slice none 0 0) (.int .i64 0) w2 := ⟨(hB2.block _ hb.1.lt).trans hb.1, (hB2.block _ hb.2.1.lt).trans hb.2.1, (hB2.block _ hb.2.2.lt).trans hb.2.2⟩
 have hcl2 : ∀ j x, bs[j]? = some x → 0 < L → w2.cell? ⟨b, off + j, none⟩ = some (eB x) := fun j x h h0 => (hA2.cell (p := ⟨b, off + j, none⟩) (hbo h0).2.1).trans ((hbo h0).2.2 j x h)
 have hLk : L = k * many := Hl.out
 have hseq := Chunk_seq (w.heap.size + 3) (w.heap.size + 3 + 1) (w.heap.size + 5) (w.heap.size + 1) b off c k many hm (by omega) (by omega) A (fun h => (hbo (hkm h)).1) w2 (by omega) (by omega) (by omega) (by omega) (by omega) (by rw [← hLk]; exact hc1.cell) hc2.cell
 clear hLk hc1 hc2 hb hB2 hA hs0
 refine wpIn_range_P (gf := 91) (lb := #[.pointer (some ⟨w.heap.size + 3, 0, none⟩), .pointer (some ⟨w.heap.size + 3 + 1, 0, none⟩)]) (fun _ h => h) rfl rfl ⟨_, Tryd.func91⟩ rfl (enters_of Tryd.func91 (by kernel_rfl) rfl)
  hseq (fun _ _ _ => keep_t) (fun W l o o' h1 h2 h3 => keep_put (by omega) W l o o' h1 h2 h3) (Below.refl _ _) (fun _ => rfl)
  (fun (pre : List Nat) W => (∃ v, Boxed W (w.heap.size + 1) 24 v ∧ W.ownsRow w2.heap.size 5 1 v (okL (eachG g bs many pre.length)).length ((okL (eachG g bs many pre.length)).map eB) ∧ ∃ r, eachG g bs many pre.length = .ok r) ∧ Keep (w.heap.size + 5) (w.heap.size + 1) w2 W)
  (fun _ _ => False)
  (fun ch W => ∃ m, eachG g bs many k = .error m ∧ ch = errno m ∧ (∃ v, Boxed W (w.heap.size + 1) 24 v) ∧ Keep (w.heap.size + 5) (w.heap.size + 1) w2 W)
  (OwnFrom.and (Own.from (holdsRow_own w2.heap.size (w.heap.size + 1) 24 5 1 (fun (pre : List Nat) => (okL (eachG g bs many pre.length)).length) (fun (pre : List Nat) => (okL (eachG g bs many pre.length)).map eB) (fun (pre : List Nat) _ => ∃ r, eachG g bs many pre.length = .ok r)) _) (ownFrom_keep (by omega) (by omega)))
  ⟨⟨_, hb2.2.1, ⟨rfl, .inl ⟨rfl, rfl⟩⟩, [], rfl⟩, keep_r _ _ _⟩
  (fun _ _ _ _ _ h => h.elim)
  (fun x => { tmps := #[.slice A L c, .int .i64 many, .func (.func bf) #[] lb, undef, undef, .pointer (some ⟨w.heap.size, 0, none⟩), .pointer (some ⟨w.heap.size + 1, 0, none⟩), .pointer (some ⟨w.heap.size + 1 + 1, 0, none⟩), .slice (some ⟨b, off + x * many, none⟩) many many, .func (.func 69) #[] #[.pointer (some ⟨w.heap.size + 1, 0, none⟩), .pointer (some ⟨w.heap.size + 1 + 1, 0, none⟩)], .slice A L c, .int .i64 L, .int .i64 many, .int .i64 ((L : Int) % (many : Int)), .bool false, undef, .slice A L c, .int .i64 many, .func (.func 91) #[] #[.pointer (some ⟨w.heap.size + 3, 0, none⟩), .pointer (some ⟨w.heap.size + 3 + 1, 0, none⟩)], .slice (some ⟨b, off + x * many, none⟩) many many, undef, undef, undef, undef, undef, undef], defers := [] }) ?assign ?body ?done ?stop ?pan
 case assign =>
  intro l x W K hK
  gi_wp2
  exact hK
 case stop => rintro c D W _ h _; exact h.elim
 case body =>
  rintro l pre x W ⟨⟨v, hv, hrow, hok⟩, hK⟩ hpre
  obtain ⟨hxk, rfl⟩ := range_is hpre
  clear hpre
  obtain ⟨r, hr⟩ := hok
  rw [List.length_range] at hr hrow
  rw [okL_ok hr] at hrow
  have hpl := partL_length (HL.out.trans Hl.out) hxk
  have hpc : ∀ j y, (partL bs many x)[j]? = some y → W.drew.cell? ⟨b, off + x * many + j, none⟩ = some (eB y) := fun j y h => by
   have h0 := hkm (by omega)
   rw [Nat.add_assoc]
   exact (hK.cell (p := ⟨b, off + (x * many + j), none⟩) (by show b < _; have := (hbo h0).2.1; omega) (by show b ≠ _; have := (hbo h0).2.1; omega)).trans (hcl2 _ y (partL_get h) h0)
  have hcall := fun n => hbf n W.drew b (off + x * many) (partL bs many x) hpl hpc
  have hbF := hK.boxed hb2.1 (by omega) (by omega)
  have f1 : W.drew.cell? ⟨w.heap.size, 0, none⟩ = some (.func (.func bf) #[] lb) := hbF.cell
  have f2 : W.drew.cell? ⟨w.heap.size + 1, 0, none⟩ = some v := hv.cell
  clear hpc hpl hseq hcl2 hbo hb2
  generalize x * many = xm at *
  have hsW := keep_size hK
  have hWd : Below W.heap.size W W.drew := ⟨rfl, rfl, rfl, Nat.le_refl _, fun _ _ => rfl⟩
  obtain ⟨i0, hi, hz0, hz1, hz2⟩ := info_parts info_u8T
  have hrl := eachG_long hgl hr
  have hfin : ∀ w5 v2 r2, Below W.drew.heap.size W.drew w5 → g (partL bs many x) = .ok r2 → Sl eB w5.heap.size w5 v2 r2 → r2.length ≤ 26 → w5.cell? ⟨w.heap.size + 1, 0, none⟩ = some v ∧ ∃ v' w6, (Builtin.append_ #[24, 24] 24 #[v, v2]).run Tryd.prog w5 = .ok v' w6 ∧ w6.cell? ⟨w.heap.size + 1, 0, none⟩ = some v ∧ w6.frozen? ⟨w.heap.size + 1, 0, none⟩ = false ∧
      (∃ A' l' c', v' = .slice A' l' c') ∧ KeepsFrom w2.heap.size W (w6.setCell ⟨w.heap.size + 1, 0, none⟩ v') ∧ Keep (w.heap.size + 5) (w.heap.size + 1) W (w6.setCell ⟨w.heap.size + 1, 0, none⟩ v') ∧
      (∃ v, Boxed (w6.setCell ⟨w.heap.size + 1, 0, none⟩ v') (w.heap.size + 1) 24 v ∧ (w6.setCell ⟨w.heap.size + 1, 0, none⟩ v').ownsRow w2.heap.size 5 1 v (okL (eachG g bs many (List.range x ++ [x]).length)).length ((okL (eachG g bs many (List.range x ++ [x]).length)).map eB) ∧ ∃ r, eachG g bs many (List.range x ++ [x]).length = .ok r) ∧
      Keep (w.heap.size + 5) (w.heap.size + 1) w2 (w6.setCell ⟨w.heap.size + 1, 0, none⟩ v') := by
    intro w5 v2 r2 hB5 hg5 hS5 h26
    have hB5' : Below W.heap.size W w5 := hWd.trans hB5
    have hv5 : Boxed w5 (w.heap.size + 1) 24 v := (hB5'.block _ hv.lt).trans hv
    have hrow5 : w5.ownsRow w2.heap.size 5 1 v r.length (r.map eB) := World.ownsRow.kept hrow (row := none) ⟨hB5'.os, hB5'.tape, hB5'.output, hB5'.size, fun k hk _ => hB5'.block k hk⟩ (by
     cases hvb : v.ownBlock with
     | none => exact .inl rfl
     | some k => exact .inr (fun e => by cases e))
    have hs5 := hB5'.size
    obtain ⟨v', w6, hrun, o1, o2, o3⟩ := run_append_sl (P := Tryd.prog) w5 w2.heap.size 24 24 5 i0 (.int .u8 0) 1 Tryd.underlying24 hi hz0 hz1 hz2 rfl v r.length (r.map eB) hrow5 w5.heap.size v2 r2 hS5 (fun _ => rfl) (by unfold maxLen; omega) (by omega) (by omega)
    have hn6 : some (w.heap.size + 1) ≠ v.ownBlock := fun e => by
     have := (World.ownsRow.lt hrow _ e.symm).1
     omega
    have hv6 : Boxed w6 (w.heap.size + 1) 24 v := hv5.kept o2 hn6
    have hB6 : Below (w.heap.size + 5) w5 w6 := below_grown hrow5 o2 (by omega) (by omega)
    have hF5 : KeepsFrom w2.heap.size W w6 := ⟨by have := o2.size; omega, fun q o hq ho hc => by
     have h5 : w5.heap[q]? = some o := (hB5'.block q (Array.getElem?_eq_some_iff.1 ho).1).trans ho
     refine (o2.block q (Array.getElem?_eq_some_iff.1 h5).1 (fun e => ?_)).trans h5
     rcases hrow5.2 with ⟨rfl, _⟩ | ⟨gg, cap, cur, rfl, _, hgb, _⟩
     · cases e
     · injection e with e
       rw [show gg = q from e.symm, h5] at hgb
       cases hgb
       cases hc⟩
    have hv' : ∃ A' l' c', v' = .slice A' l' c' := by
     rcases o1.2 with ⟨rfl, _⟩ | ⟨gg, cap, cur, rfl, _⟩
     · exact ⟨_, _, _, rfl⟩
     · exact ⟨_, _, _, rfl⟩
    have hk6 : Keep (w.heap.size + 5) (w.heap.size + 1) W (w6.setCell ⟨w.heap.size + 1, 0, none⟩ v') :=
     keep_t (keep_of (hB5'.mono (by omega))) (keep_t (keep_of hB6) (keep_set _ _ _ _ _))
    have hnext : eachG g bs many (List.range x ++ [x]).length = .ok (r ++ r2) := by
     rw [List.length_append, List.length_range]
     show eachG g bs many (x + 1) = _
     simp only [eachG, hr, hg5]
    refine ⟨hv5.cell, v', w6, hrun, hv6.cell, hv6.frozen, hv', hF5.trans ((KeepsOthers.setCell _ _ _).from _), hk6, ⟨v', hv6.set v', ?_, _, hnext⟩, keep_t hK hk6⟩
    rw [okL_ok hnext, List.length_append, List.map_append]
    exact o1.kept (grownBy_setCell' _ _ _) (by
     cases hvb : v'.ownBlock with
     | none => exact .inl rfl
     | some q => exact .inr (fun e => by have := (World.ownsRow.lt o1 q hvb).1; injection e with e; omega))
  have hbad : ∀ w5 m, Below W.drew.heap.size W.drew w5 → g (partL bs many x) = .error m → KeepsFrom w2.heap.size W w5 ∧ ∃ m', eachG g bs many k = .error m' ∧ errno m = errno m' ∧ (∃ v, Boxed w5 (w.heap.size + 1) 24 v) ∧ Keep (w.heap.size + 5) (w.heap.size + 1) w2 w5 := by
   intro w5 m hB5 hg5
   have hB5' : Below W.heap.size W w5 := hWd.trans hB5
   refine ⟨keepsFrom_below hB5', m, ?_, rfl, ⟨v, (hB5'.block _ hv.lt).trans hv⟩, keep_t hK (keep_of (hB5'.mono (by omega)))⟩
   refine eachG_err (j := x + 1) ?_ hxk
   simp only [eachG, hr, hg5]
  clear hrow hv hr hbF hK hbf hgl
  gi_wp2_with fail
  refine wpIn_region_any (by kernel_rfl) (wpAnyIn_out (plain_of (by kernel_rfl)) ?_)
  change wpAnyIn _ _ _ _ _ _ _ _ _ W.drew
  refine wpAnyIn_take (i := 2) (v := ?_) rfl rfl (by kernel_rfl) (by kernel_rfl) (by kernel_rfl) (fun _ _ _ h => h) ⟨Or.inl ⟨by rfl, ?_⟩, fun _ => rfl⟩ ?_
  rotate_left
  · intro w; go_simp; try with_reducible rfl
  refine wpAnyIn_ready (rs := [0, 1]) (by kernel_rfl) (by simp) ?_
  refine AllReadyIn.cons rfl (fun K hK => ?_) ?_
  · go_simp
    refine hK _ _ ?_
    clear hK K
    refine wpAnyIn_ready (rs := [1]) (by kernel_rfl) (by simp) ?_
    refine AllReadyIn.cons rfl (fun K hK => ?_) ?_
    · go_simp
      refine hK _ _ ?_
      clear hK K
      refine wpAnyIn_ready (rs := [3]) (by kernel_rfl) (by simp) ?_
      refine AllReadyIn.cons rfl (fun K hK => ?_) ?_
      · go_simp
        refine ⟨hfn, ?_⟩
        refine (hcall _).mono ?_
        rintro e w5 ⟨hB5, ⟨v2, r2, hg2, rfl, hS2, h26⟩ | ⟨m, hg2, rfl⟩⟩
        · obtain ⟨q1, v', w6, hrun, q2, q3, ⟨A', l', c', rfl⟩, q4, q5, q6, q7⟩ := hfin w5 v2 r2 hB5 hg2 hS2 h26
          refine hK _ _ ?_
          clear hK K
          refine wpAnyIn_ready (rs := [4]) (by kernel_rfl) (by simp) ?_
          refine AllReadyIn.cons rfl (fun K hK => ?_) ?_
          · refine ready_append (.tmp 20) (.tmp 23) 24 rfl v v2 _ rfl rfl hrun (by kernel_rfl) ?_
            refine hK _ _ ?_
            clear hK K
            refine wpAnyIn_ready (rs := [5]) (by kernel_rfl) (by simp) ?_
            refine AllReadyIn.cons rfl (fun K hK => ?_) ?_
            · go_simp
              refine hK _ _ ?_
              clear hK K
              refine wpAnyIn_done (by kernel_rfl) ?_ _
              exact ⟨q4, q5, q6, q7⟩
            exact AllReadyIn.nil
          exact AllReadyIn.nil
        · exact ⟨rfl, hbad _ _ hB5 hg2⟩
      exact AllReadyIn.nil
    exact AllReadyIn.nil
  refine AllReadyIn.cons rfl (fun K hK => ?_) ?_
  · go_simp
    refine hK _ _ ?_
    clear hK K
    refine wpAnyIn_ready (rs := [0, 3]) (by kernel_rfl) (by simp) ?_
    refine AllReadyIn.cons rfl (fun K hK => ?_) ?_
    · go_simp
      refine hK _ _ ?_
      clear hK K
      refine wpAnyIn_ready (rs := [3]) (by kernel_rfl) (by simp) ?_
      refine AllReadyIn.cons rfl (fun K hK => ?_) ?_
      · go_simp
        refine ⟨hfn, ?_⟩
        refine (hcall _).mono ?_
        rintro e w5 ⟨hB5, ⟨v2, r2, hg2, rfl, hS2, h26⟩ | ⟨m, hg2, rfl⟩⟩
        · obtain ⟨q1, v', w6, hrun, q2, q3, ⟨A', l', c', rfl⟩, q4, q5, q6, q7⟩ := hfin w5 v2 r2 hB5 hg2 hS2 h26
          refine hK _ _ ?_
          clear hK K
          refine wpAnyIn_ready (rs := [4]) (by kernel_rfl) (by simp) ?_
          refine AllReadyIn.cons rfl (fun K hK => ?_) ?_
          · refine ready_append (.tmp 20) (.tmp 23) 24 rfl v v2 _ rfl rfl hrun (by kernel_rfl) ?_
            refine hK _ _ ?_
            clear hK K
            refine wpAnyIn_ready (rs := [5]) (by kernel_rfl) (by simp) ?_
            refine AllReadyIn.cons rfl (fun K hK => ?_) ?_
            · go_simp
              refine hK _ _ ?_
              clear hK K
              refine wpAnyIn_done (by kernel_rfl) ?_ _
              exact ⟨q4, q5, q6, q7⟩
            exact AllReadyIn.nil
          exact AllReadyIn.nil
        · exact ⟨rfl, hbad _ _ hB5 hg2⟩
      exact AllReadyIn.nil
    refine AllReadyIn.cons rfl (fun K hK => ?_) ?_
    · go_simp
      refine ⟨hfn, ?_⟩
      refine (hcall _).mono ?_
      rintro e w5 ⟨hB5, ⟨v2, r2, hg2, rfl, hS2, h26⟩ | ⟨m, hg2, rfl⟩⟩
      · obtain ⟨q1, v', w6, hrun, q2, q3, ⟨A', l', c', rfl⟩, q4, q5, q6, q7⟩ := hfin w5 v2 r2 hB5 hg2 hS2 h26
        refine hK _ _ ?_
        clear hK K
        refine wpAnyIn_ready (rs := [0]) (by kernel_rfl) (by simp) ?_
        refine AllReadyIn.cons rfl (fun K hK => ?_) ?_
        · go_simp
          refine hK _ _ ?_
          clear hK K
          refine wpAnyIn_ready (rs := [4]) (by kernel_rfl) (by simp) ?_
          refine AllReadyIn.cons rfl (fun K hK => ?_) ?_
          · refine ready_append (.tmp 20) (.tmp 23) 24 rfl v v2 _ rfl rfl hrun (by kernel_rfl) ?_
            refine hK _ _ ?_
            clear hK K
            refine wpAnyIn_ready (rs := [5]) (by kernel_rfl) (by simp) ?_
            refine AllReadyIn.cons rfl (fun K hK => ?_) ?_
            · go_simp
              refine hK _ _ ?_
              clear hK K
              refine wpAnyIn_done (by kernel_rfl) ?_ _
              exact ⟨q4, q5, q6, q7⟩
            exact AllReadyIn.nil
          exact AllReadyIn.nil
        exact AllReadyIn.nil
      · exact ⟨rfl, hbad _ _ hB5 hg2⟩
    exact AllReadyIn.nil
  exact AllReadyIn.nil
 case done =>
  rintro D W hD ⟨⟨v, hv, hrow, r, hr⟩, hK⟩ hk
  rw [List.length_range] at hr hrow
  rw [okL_ok hr] at hrow
  have hv0 : ∃ A' l' c', v = .slice A' l' c' := by
   rcases hrow.2 with ⟨rfl, _⟩ | ⟨gg, cap, cur, rfl, _⟩
   · exact ⟨_, _, _, rfl⟩
   · exact ⟨_, _, _, rfl⟩
  obtain ⟨A', l', c', rfl⟩ := hv0
  have hc := hv.cell
  have hf := hv.frozen
  have hb3 := hK.boxed hb2.2.2 (by omega) (by omega)
  have hb3' := Boxed.set_other (b' := w.heap.size + 1) (y := .slice A' l' c') hb3 (by omega)
  have hc3 := hb3'.cell
  have hf3 := hb3'.frozen
  have hv2 := Boxed.set_other (b' := w.heap.size + 1 + 1) (y := .int .i64 0) (hv.set (.slice A' l' c')) (by omega)
  have hb4 := hb3'.set (.int .i64 0)
  have hsW := keep_size hK
  have hD1 : D ≠ w.heap.size + 1 := by omega
  have hD2 : D ≠ w.heap.size + 1 + 1 := by omega
  have hkk : ((W.setCell ⟨w.heap.size + 1, 0, none⟩ (.slice A' l' c')).setCell ⟨w.heap.size + 1 + 1, 0, none⟩ (.int .i64 0)).heap[D]? = some (.deferred (some [])) :=
   (Below.heap_setCell _ _ _ D hD2).trans ((Below.heap_setCell _ _ _ D hD1).trans hk)
  have hrw : ((W.setCell ⟨w.heap.size + 1, 0, none⟩ (.slice A' l' c')).setCell ⟨w.heap.size + 1 + 1, 0, none⟩ (.int .i64 0)).ownsRow w2.heap.size 5 1 (.slice A' l' c') r.length (r.map eB) := by
   have hne : ∀ q, q < w2.heap.size → some q ≠ (Value.slice A' l' c').ownBlock := fun q hq e => by
    have := (World.ownsRow.lt hrow _ e.symm).1
    omega
   exact (World.ownsRow.kept hrow (grownBy_setCell' _ _ _) (.inr (hne _ (by omega)).symm)).kept (grownBy_setCell' _ _ _) (.inr (hne _ (by omega)).symm)
  have hBw : Below w.heap.size w ((W.setCell ⟨w.heap.size + 1, 0, none⟩ (.slice A' l' c')).setCell ⟨w.heap.size + 1 + 1, 0, none⟩ (.int .i64 0)) :=
   ((below_of_keep hK hA2 (by omega) (by omega)).setCell (p := ⟨w.heap.size + 1, 0, none⟩) (by simp) _).setCell (p := ⟨w.heap.size + 1 + 1, 0, none⟩) (by simp; omega) _
  clear hrow hb3 hb3' hv hK hk hb2 hseq
  gi_wp2_with fail
  generalize ((W.setCell ⟨w.heap.size + 1, 0, none⟩ (.slice A' l' c')).setCell ⟨w.heap.size + 1 + 1, 0, none⟩ (.int .i64 0)) = W3 at *
  have g1 := Boxed.put_other (o := .deferred none) hv2 hD1.symm
  have g2 := Boxed.put_other (o := .deferred none) hb4 hD2.symm
  refine ⟨by simp, .inl ⟨_, _, rfl, run_takeDeferred hkk, ?_⟩⟩
  refine ⟨by simp, .inr ⟨(fun h => by cases h), _, _, 69, #[.pointer (some ⟨w.heap.size + 1, 0, none⟩), .pointer (some ⟨w.heap.size + 1 + 1, 0, none⟩)], rfl, (by simp [go_sem]), (fun f hf => by simp [Target.leads] at hf; subst hf; exact ⟨_, Tryd.func69⟩), ?_⟩⟩
  refine (left_idle _ _ _ _).mono ?_
  rintro e u' w'' ⟨rfl, rfl, rfl⟩
  have d0 := g1.cell
  have d1 := g2.cell
  refine ⟨.tuple #[.slice A' l' c', .int .i64 0], ?_, ?_, .inl ⟨_, r, hr, rfl, ?_⟩⟩
  · simp [results, Tryd.f48, go_sem, d0, d1]
  · exact hBw.trans (belowK_b (w := w) (Nat.le_refl _) _ D _ _ (by omega) hkk rfl rfl)
  · have h := ownsRow_putObj hrw (.deferred none) hkk rfl
    exact ⟨h.1, h.2.imp id (fun ⟨g, cap, cur, e, hb, rest⟩ => ⟨g, cap, cur, e, by omega, rest⟩)⟩
 case pan =>
  rintro ch D W hD ⟨m, hm3, rfl, ⟨v, hv⟩, hK⟩ hk
  have hb3 := hK.boxed hb2.2.2 (by omega) (by omega)
  have hD1 : D ≠ w.heap.size + 1 := by omega
  have hD2 : D ≠ w.heap.size + 1 + 1 := by omega
  have g1 := Boxed.put_other (o := .deferred none) hv hD1.symm
  have g2 := Boxed.put_other (o := .deferred none) hb3 hD2.symm
  have hb1 := Boxed.set_other (b' := w.heap.size + 1) (y := .slice none 0 0) g2 (by omega)
  refine ⟨by simp, .inl ⟨_, _, rfl, run_takeDeferred hk, ?_⟩⟩
  refine ⟨by simp, .inr ⟨(fun h => by cases h), _, _, 69, #[.pointer (some ⟨w.heap.size + 1, 0, none⟩), .pointer (some ⟨w.heap.size + 1 + 1, 0, none⟩)], rfl, (by simp [go_sem]), (fun f hf => by simp [Target.leads] at hf; subst hf; exact ⟨_, Tryd.func69⟩), ?_⟩⟩
  refine (left_take _ (w.heap.size + 1) (w.heap.size + 1 + 1) m _ _ _ g1.cell g1.frozen hb1.cell hb1.frozen).mono ?_
  rintro e u' w'' ⟨rfl, rfl, rfl⟩
  have d0 := (Boxed.set_other (b' := w.heap.size + 1 + 1) (y := .int .i64 m) (g1.set (.slice none 0 0)) (by omega)).cell
  have d1 := (hb1.set (.int .i64 m)).cell
  have hBw := (below_of_keep hK hA2 (by omega) (by omega)).trans (belowK_b (w := w) (Nat.le_refl _) W D _ (.deferred none) (by have := keep_size hK; omega) hk rfl rfl)
  refine ⟨.tuple #[.slice none 0 0, .int .i64 m], ?_, ?_, .inr ⟨m, hm3, rfl⟩⟩
  · simp [results, Tryd.f48, go_sem, d0, d1]
  · exact (hBw.setCell (p := ⟨w.heap.size + 1, 0, none⟩) (by simp) _).setCell (p := ⟨w.heap.size + 1 + 1, 0, none⟩) (by simp; omega) _
end Go.Proofs.YtjclfkbhakjdaaaDoor.Tr
