import Derived.Test.YtcngnjkpnmpcpaaDoorGCZ
import Derived.Test.YtcngnjkpnmpcpaaDoorPaKZ
namespace Go.Proofs.YtcngnjkpnmpcpaaDoor
open Go.RowKit Go.Shelf
attribute [local go_sem] Oper.semAt_some run_store_func
def pairsOf : List (List UInt8) → List Pr
  | a :: b :: t => (a, b) :: pairsOf t
  | _ => []
theorem allP_pairs : ∀ (n : Nat) (xs : List (List UInt8)), xs.length = 2 * n → allP (pairsOf xs) = xs ∧ (pairsOf xs).length = n
  | 0, xs, h => by
    have : xs = [] := List.length_eq_zero_iff.1 (by omega)
    subst this
    exact ⟨rfl, rfl⟩
  | n + 1, [], h => by simp at h
  | n + 1, [a], h => by simp at h; omega
  | n + 1, a :: b :: t, h => by
    obtain ⟨h1, h2⟩ := allP_pairs n t (by simp at h; omega)
    refine ⟨?_, by show (pairsOf t).length + 1 = _; rw [h2]⟩
    show a :: b :: allP (pairsOf t) = _
    rw [h1]
theorem info_pr : (Tryd.prog.info? 46).map (fun i => (i.zero, i.size, i.bytes)) = some (some (.agg #[sV [], sV []]), 2, 32) := by kernel_rfl
theorem allP_at (L : List Pr) (i : Nat) (hi : i < L.length) : (allP L)[i * 2]? = some L[i].1 ∧ (allP L)[i * 2 + 1]? = some L[i].2 := by
 induction L generalizing i with
 | nil => simp at hi
 | cons p L ih =>
   have e : allP (p :: L) = p.1 :: p.2 :: allP L := rfl
   rw [e]
   rcases i with _ | i
   · exact ⟨rfl, rfl⟩
   · have h := ih i (by simpa using hi)
     rw [show (i + 1) * 2 = i * 2 + 1 + 1 by omega]
     exact h
theorem own_keep2 {W W' : World} {B : Nat} {e : TypeId} {s : Nat} {v : Value} {n : Nat} {xs : List Value} (h : W.ownsRow B e s v n xs) (hk : ∀ k, B ≤ k → W'.heap[k]? = W.heap[k]?) : W'.ownsRow B e s v n xs := by
 refine ⟨h.1, ?_⟩
 rcases h.2 with h1 | ⟨g, cap, cur, e1, hB, hg, hr⟩
 · exact .inl h1
 · exact .inr ⟨g, cap, cur, e1, hB, (hk g hB).trans hg, hr⟩
theorem own_prs {base : Nat} {W : World} {v : Value} {L : List Pr} (h : W.ownsRow base 46 2 v L.length ((allP L).map sV)) : PrsIn W.heap.size W v L := by
 obtain ⟨h1, h2⟩ := h
 rcases h2 with ⟨rfl, h4⟩ | ⟨g, cap, cur, rfl, hg, ho, hn, hm, hsz, htk⟩
 · exact ⟨none, 0, by rw [h4], by omega, fun h => by omega⟩
 · refine ⟨_, cap, rfl, hn, fun _ => ⟨g, 0, rfl, (Array.getElem?_eq_some_iff.1 ho).1, fun i hi => ?_⟩⟩
   have hr : Rowed W g 46 cur := ho
   have hget : ∀ j, j < L.length * 2 → cur[j]? = ((allP L).map sV)[j]? := fun j hj => by
    have h5 : (cur.toList.take (L.length * 2))[j]? = ((allP L).map sV)[j]? := by rw [htk]
    rw [List.getElem?_take_of_lt hj, Array.getElem?_toList] at h5
    exact h5
   have hall := allP_at L i hi
   rw [hr.cell, hr.cell]
   simp only [Nat.zero_add]
   refine ⟨?_, ?_⟩
   · rw [hget _ (by omega), List.getElem?_map, hall.1]
     rfl
   · rw [hget _ (by omega), List.getElem?_map, hall.2]
     rfl
theorem gh_put {P : Program} {md : Region.Mode} {ops : Array Oper} {S : (Nat → Bool) → (Nat → Value) → World → Prop} {A : (Nat → Value) → Act} {i : Nat} {o : Oper} {s : Tmp} (hi : ops[i]? = some o) (hd : o.dst = some s)
    (hA : ∀ g v, A (fun j => if j = i then v else g j) = (A g).put (some s) v)
    (hrun : ∀ D g w, D i = false → (o.after.all fun e => !Region.binds md e || D e.on) = true → S D g w →
      if Region.wanted o (yielded ops (A g).tmps) = true then o.wp P (A g) w (fun a' w' => ∃ v, a' = (A g).put (some s) v ∧ S (upd D i) (fun j => if j = i then v else g j) w') (fun _ _ _ => False) else False) : GhOk P md ops S A i o := by
 intro D g w hD hdep hS
 have h := hrun D g w hD hdep hS
 split
 · rename_i hw
   rw [if_pos hw] at h
   refine Oper.wp_mono (fun a' w' ⟨v, e, hS'⟩ => ?_) h
   refine ⟨fun j => if j = i then v else g j, ?_, ?_, ?_, hS'⟩
   · rw [hA, e]
   · intro s' _
     rw [e, hA]
   · intro s' hs'
     rw [hA]
     have hne : s ≠ s' := by
      rintro rfl
      have := hs' i o hi hd
      rw [hD] at this
      cases this
     simp only [Act.put]
     rw [Array.getElem?_setIfInBounds_ne hne]
 · rename_i hw
   rw [if_neg hw] at h
   exact h.elim
def LpS (N pb : Nat) (w1 : World) (v : Value) (k : Nat) (cs : List Value) (x y : Value) (D : Nat → Bool) (g : Nat → Value) (w : World) : Prop :=
 (Keep N pb w1 w ∧ N ≤ w.heap.size) ∧ (D 14 = false → w.ownsRow N 46 2 v k cs) ∧ (D 15 = false → Boxed w pb 22 v) ∧ (D 13 = true → D 14 = false → ∃ q, g 13 = .slice (some ⟨q, 0, none⟩) 1 1 ∧ Rowed w q 46 #[x, y]) ∧
   (D 14 = true → w.ownsRow N 46 2 (g 14) (k + 1) (cs ++ [x, y])) ∧ (D 15 = true → Boxed w pb 22 (g 14)) ∧ (D 14 = true → D 13 = true ∧ D 0 = true) ∧ (D 15 = true → D 14 = true)
section
variable {N pb : Nat} {w1 : World} {v : Value} {k : Nat} {cs : List Value} {x y : Value} {D : Nat → Bool} {g : Nat → Value} {w : World}
theorem bool_noL {b : Bool} (h : b = true → False) : b = false := by cases b <;> first | rfl | exact (h rfl).elim
theorem LpS.keep {i : Nat} (h : LpS N pb w1 v k cs x y D g w) (h0 : i ≠ 0) (h13 : i ≠ 13) (h14 : i ≠ 14) (h15 : i ≠ 15) : LpS N pb w1 v k cs x y (upd D i) g w := by
 unfold LpS
 rw [upd_other D (Ne.symm h0), upd_other D (Ne.symm h13), upd_other D (Ne.symm h14), upd_other D (Ne.symm h15)]
 exact h
theorem LpS.op0 (h : LpS N pb w1 v k cs x y D g w) : LpS N pb w1 v k cs x y (upd D 0) g w := by
 obtain ⟨a, b, c, d, e, f, p, q⟩ := h
 unfold LpS
 rw [upd_same, upd_other D (show 13 ≠ 0 by decide), upd_other D (show 14 ≠ 0 by decide), upd_other D (show 15 ≠ 0 by decide)]
 exact ⟨a, b, c, d, e, f, fun h => ⟨(p h).1, rfl⟩, q⟩
theorem LpS.no15 (h : LpS N pb w1 v k cs x y D g w) (h14 : D 14 = false) : D 15 = false := bool_noL fun h2 => by rw [h.2.2.2.2.2.2.2 h2] at h14; cases h14
theorem LpS.box (h : LpS N pb w1 v k cs x y D g w) (hD : D 0 = false) : Boxed w pb 22 v := by
 obtain ⟨a, b, c, d, e, f, p, q⟩ := h
 refine c (bool_noL fun h2 => ?_)
 rw [(p (q h2)).2] at hD
 cases hD
theorem LpS.op13 (h : LpS N pb w1 v k cs x y D g w) (hD : D 13 = false) : LpS N pb w1 v k cs x y (upd D 13) (fun j => if j = 13 then .slice (some ⟨w.heap.size, 0, none⟩) 1 1 else g j) (w.alloc (.cells #[x, y] 46)) := by
 have n14 : D 14 = false := bool_noL fun h2 => by rw [(h.2.2.2.2.2.2.1 h2).1] at hD; cases hD
 have n15 := h.no15 n14
 obtain ⟨⟨a, a'⟩, b, c, d, e, f, p, q⟩ := h
 unfold LpS
 rw [upd_same, upd_other D (show 0 ≠ 13 by decide), upd_other D (show 14 ≠ 13 by decide), upd_other D (show 15 ≠ 13 by decide), n14, n15]
 refine ⟨⟨keep_t a (kt_below (below_alloc w _) (by omega)).1, by simp; omega⟩, fun _ => (b n14).alloc _, fun _ => (c n15).alloc _, fun _ _ => ⟨w.heap.size, rfl, Rowed.new w 46 #[x, y]⟩, ?_, ?_, ?_, ?_⟩
 all_goals (intro h; cases h)
theorem LpS.op14 (h : LpS N pb w1 v k cs x y D g w) (hD : D 14 = false) (h13 : D 13 = true) (h0 : D 0 = true) (hpb : pb < N) {v' : Value} {w' : World} (hown : w'.ownsRow N 46 2 v' (k + 1) (cs ++ [x, y])) (hg : w.grownBy w' v.ownBlock) : LpS N pb w1 v k cs x y (upd D 14) (fun j => if j = 14 then v' else g j) w' := by
 have n15 := h.no15 hD
 obtain ⟨⟨a, a'⟩, b, c, d, e, f, p, q⟩ := h
 have hb := b hD
 have hne : ∀ j, j < N → some j ≠ v.ownBlock := fun j hj e => by have := (hb.lt j e.symm).1; omega
 unfold LpS
 rw [upd_same, upd_other D (show 0 ≠ 14 by decide), upd_other D (show 13 ≠ 14 by decide), upd_other D (show 15 ≠ 14 by decide), n15, h13, h0]
 refine ⟨⟨keep_t a ⟨⟨hg.os, hg.tape, hg.output, hg.size⟩, fun j hj _ => hg.block j (by omega) (hne j hj)⟩, Nat.le_trans a' hg.size⟩, fun h => (by cases h), fun _ => (hg.block pb (c n15).lt (hne pb hpb)).trans (c n15), fun _ h => (by cases h), fun _ => hown, fun h => (by cases h), fun _ => ⟨rfl, rfl⟩, fun h => (by cases h)⟩
theorem LpS.op15 (h : LpS N pb w1 v k cs x y D g w) (h14 : D 14 = true) (hD : D 15 = false) (hpb : pb < N) : LpS N pb w1 v k cs x y (upd D 15) g (w.setCell ⟨pb, 0, none⟩ (g 14)) := by
 obtain ⟨⟨a, a'⟩, b, c, d, e, f, p, q⟩ := h
 have hp := p h14
 have hbx := c hD
 unfold LpS
 rw [upd_same, upd_other D (show 0 ≠ 15 by decide), upd_other D (show 13 ≠ 15 by decide), upd_other D (show 14 ≠ 15 by decide), h14]
 refine ⟨⟨keep_t a (keep_set _ _ _ _ _), by simpa [World.setCell] using a'⟩, fun h => (by cases h), fun h => (by cases h), fun _ h => (by cases h), fun _ => own_keep2 (e h14) fun j hj => Below.heap_setCell w ⟨pb, 0, none⟩ _ j (by show j ≠ pb; omega), fun _ => hbx.set _, fun _ => hp, fun _ => rfl⟩
end
set_option maxRecDepth 100000 in
set_option maxHeartbeats 4000000 in
theorem Lib_loop (b0 b1 pb : Nat) (n s : Nat) (hn : n ≤ 8) (hs : s < 18446744073709551616) (w : World) (hT : Tab w) (h0 : Boxed w b0 3 (.int .i64 n)) (h1 : Boxed w b1 23 (.int .u64 s)) (hp : Boxed w pb 22 (.slice none 0 0)) (hl : (libG (2 * n) s).length = 2 * n) :
    Calls Tryd.prog 28 #[.pointer (some ⟨b0, 0, none⟩), .pointer (some ⟨b1, 0, none⟩), .pointer (some ⟨pb, 0, none⟩)] w fun e w' => Keep w.heap.size pb w w' ∧ (∃ v, e = .returned v) ∧ ∃ v, Boxed w' pb 22 v ∧ w'.ownsRow w.heap.size 46 2 v n ((libG (2 * n) s).map sV) := by
  obtain ⟨i0, hi, hz0, hz1, hz2⟩ := info_parts info_pr
  have hL := library_any (2 * n) s (by omega) hs w hT
  have hc0 := h0.cell
  have hc1 := h1.cell
  have hd1 : decide (0 ≤ (n : Int)) = true := decide_eq_true (by omega)
  have hd2 : decide ((n : Int) ≤ 8) = true := decide_eq_true (by omega)
  have e1 : IntKind.i64.wrap (2 * (n : Int)) = ((2 * n : Nat) : Int) := by rw [IntWalk.i64_in _ (by omega)]; omega
  have H0 := Lib.hid h0
  have HP := Lib.hid hp
  generalize libG (2 * n) s = G at *
  go_enter Tryd.func28, Tryd.ntmps28
  go_wp2_with fail
  go_at_call 29
  refine (pmust_yes _ _).mono ?_
  rintro e w1 ⟨rfl, rfl⟩
  go_wp2_with fail
  go_at_call 30
  refine hL.mono ?_
  rintro e w1 ⟨hB, ⟨-, u, rfl, hown⟩ | ⟨hne, -⟩⟩
  case inr => exact absurd hl hne
  obtain ⟨A, c, rfl, hcc, hcs⟩ := Sl.of_own hown
  have hb0 : Boxed w1 b0 3 (.int .i64 n) := (hB.block _ H0.out.lt).trans H0.out
  have hpb : Boxed w1 pb 22 (.slice none 0 0) := (hB.block _ HP.out.lt).trans HP.out
  have hc0 := hb0.cell
  have HC := Lib.hid hcs
  have HLt := Lib.hid (show ∀ k (hk : k < G.length), ∃ b off, A = some ⟨b, off, none⟩ ∧ b < w1.heap.size ∧ b ≠ pb ∧ w1.cell? ⟨b, off + k, none⟩ = some (sV G[k]) from fun k hk => by
   obtain ⟨b, off, e, hb, hc⟩ := hcs (by omega)
   refine ⟨b, off, e, hb, fun e2 => ?_, hc k _ (List.getElem?_eq_getElem hk)⟩
   obtain ⟨g, cap, cur, e3, -, hg, -⟩ := hown.2.resolve_left (fun h => by omega)
   injection e3 with e4 e5 e6
   rw [e4] at e
   injection e with e
   injection e with e7 e8
   have hpb' : w1.heap[pb]? = _ := hpb
   rw [← e2, ← e7, hg] at hpb'
   cases hpb')
  clear hL hown hcs hc1 e1 hd1 hd2 hT
  have hplt := hpb.lt
  go_wp2_with fail
  go_loopw [17] (fun t wr => ∃ k : Nat, k ≤ n ∧ t = .int .i64 k ∧ Keep w1.heap.size pb w1 wr ∧ ∃ v, Boxed wr pb 22 v ∧ wr.ownsRow w1.heap.size 46 2 v k ((G.take (2 * k)).map sV)) (fun t _ => n - (RowKit.intOf t).toNat)
  case atStart => exact ⟨0, Nat.zero_le _, rfl, keep_r _ _ _, _, hpb, World.ownsRow_nil _ _ _ _⟩
  case round =>
   obtain ⟨k, hk, rfl, hK, v, hbv, hov⟩ := hrel
   by_cases hlt : k < n
   · obtain ⟨b, off, rfl, hb, hbp, hcx⟩ := HLt.out (2 * k) (by omega)
     obtain ⟨b', off', e, -, -, hcy⟩ := HLt.out (2 * k + 1) (by omega)
     injection e with e
     injection e with e1 e2
     subst e1 e2
     have hTK := Lib.hid (show G.take (2 * (k + 1)) = G.take (2 * k) ++ [G[2 * k]] ++ [G[2 * k + 1]] from by
      rw [show 2 * (k + 1) = 2 * k + 1 + 1 by omega, List.take_succ_eq_append_getElem (by omega), List.take_succ_eq_append_getElem (by omega)])
     have e1 : IntKind.i64.wrap (2 * (k : Int)) = ((2 * k : Nat) : Int) := by rw [IntWalk.i64_in _ (by omega)]; omega
     have e2 : IntKind.i64.wrap (((2 * k : Nat) : Int) + 1) = ((2 * k + 1 : Nat) : Int) := by rw [IntWalk.i64_in _ (by omega)]; omega
     have hkl : (k : Int) < (n : Int) := by omega
     have hx1 : ((2 * k : Nat) : Int) < (G.length : Int) := by omega
     have hx2 : ((2 * k + 1 : Nat) : Int) < (G.length : Int) := by omega
     have hz1' : ¬ ((2 * k : Nat) : Int) < 0 := by omega
     have hz2' : ¬ ((2 * k + 1 : Nat) : Int) < 0 := by omega
     have Hk := Lib.hid hlt
     have hcv := hbv.cell
     have hfv := hbv.frozen
     have hsz := keep_size hK
     generalize G[2 * k]'(by omega) = x at *
     generalize G[2 * k + 1]'(by omega) = y at *
     generalize hm2 : 2 * k = m at *
     have hx3 : (m : Int) < 2 * (n : Int) := by omega
     have hx4 : 0 ≤ (m : Int) + 1 ∧ (m : Int) + 1 < 2 * (n : Int) := by omega
     have hdr : Tryd.prog.follows .mixedOrders = true := by kernel_rfl
     have hbd : ∀ w, (Instr.build 46 #[(0, sV x), (1, sV y)]).run Tryd.prog w = .ok (.agg #[sV x, sV y]) w := fun _ => by kernel_rfl
     have hrx : ∀ W, Keep w1.heap.size pb w1 W → W.cell? ⟨b, off + m, none⟩ = some (sV x) ∧ W.cell? ⟨b, off + (m + 1), none⟩ = some (sV y) := fun W hW => ⟨(hW.cell (p := ⟨b, off + m, none⟩) hb hbp).trans hcx, (hW.cell (p := ⟨b, off + (m + 1), none⟩) hb hbp).trans hcy⟩
     obtain ⟨cs, hcs⟩ : ∃ cs, (G.take m).map sV = cs := ⟨_, rfl⟩
     have HCS := Lib.hid (show (G.take (2 * (k + 1))).map sV = cs ++ [sV x, sV y] from by rw [hTK.out, List.map_append, List.map_append, hcs]; simp)
     rw [hcs] at hov
     clear hcs hTK
     go_wp2_with fail
     refine wp_region_ghost (LpS w1.heap.size pb w1 v k cs (sV x) (sV y)) (fun g => [(20, v), (21, .slice (some ⟨b, off, none⟩) G.length c), (22, .int .i64 k), (23, .int .i64 (m : Nat)), (24, .pointer (some ⟨b, off + m, none⟩)), (25, sV x), (26, .slice (some ⟨b, off, none⟩) G.length c), (27, .int .i64 k), (28, .int .i64 (m : Nat)), (29, .int .i64 (m + 1 : Nat)), (30, .pointer (some ⟨b, off + (m + 1), none⟩)), (31, sV y), (32, .agg #[sV x, sV y]), (33, g 13), (34, g 14)]) (fun _ => undef)
      (by kernel_rfl) (by kernel_rfl) (by kernel_rfl) (by kernel_rfl) (fun _ => by kernel_rfl) ?start ?ok ?fin
     case start =>
      intro D hD
      have e13 := hD 13 (by decide)
      have e14 := hD 14 (by decide)
      have e15 := hD 15 (by decide)
      refine ⟨⟨keep_t hK (keep_r _ _ _), hsz⟩, fun _ => hov, fun _ => hbv, ?_, ?_, ?_, ?_, ?_⟩
      all_goals (intro h; simp [e13, e14, e15] at h)
     case ok =>
      intro T hT
      simp only [putAll, Act.put, List.setIfInBounds_toArray, List.set_cons_zero, List.set_cons_succ] at hT
      simp only [ghAll]
      clear hcv hfv hbv hov hK
      refine ⟨?_, ?_, ?_, ?_, ?_, ?_, ?_, ?_, ?_, ?_, ?_, ?_, ?_, ?_, ?_, ?_, trivial⟩
      · refine gh_same fun D g w' hD hdp hS => ?_
        have hc := (hS.box hD).cell
        rw [hT g]
        clear hT
        go_simp
        exact hS.op0
      case refine_14 =>
       refine gh_put rfl rfl (fun g v => by rw [hT, hT]; rfl) fun D g w' hD hdp hS => ?_
       rw [hT g]
       clear hT
       go_simp
       exact hS.op13 hD
      case refine_15 =>
       refine gh_put rfl rfl (fun g v => by rw [hT, hT]; rfl) fun D g w' hD hdp hS => ?_
       have hds : D 0 = true ∧ D 13 = true := by simp [Region.binds] at hdp; simp [hdp]
       obtain ⟨q, hg13, hrq⟩ := hS.2.2.2.1 hds.2 hD
       have hcq : ∀ j u, [sV x, sV y][j]? = some u → w'.cell? ((⟨q, 0, none⟩ : Addr).add j) = some u := fun j u h => by
        have e : ((⟨q, 0, none⟩ : Addr).add j) = ⟨q, j, none⟩ := by unfold Addr.add; split <;> simp_all
        rw [e, hrq.cell]
        simpa using h
       have hsz2 := hS.1.2
       refine wp_append_own w' (.tmp 20) (.tmp 33) _ rfl w1.heap.size 46 i0 _ 2 32 Tryd.underlying22 hi hz0 hz1 hz2 (by decide) (by decide) v k cs (by rw [hT g]; rfl) (hS.2.1 hD) ⟨q, 0, none⟩ 1 1 [sV x, sV y] (by rw [hT g]; exact hg13) rfl hcq (by simp [Value.oneCell']) (by unfold maxLen; omega) (by omega) hsz2 ?_
       intro v' w2 hown hgr _
       exact ⟨v', rfl, hS.op14 hD hds.2 hds.1 hplt hown hgr⟩
      case refine_16 =>
       refine gh_same fun D g w' hD hdp hS => ?_
       have h14 : D 14 = true := by simp [Region.binds] at hdp; simp [hdp]
       have hbx := hS.2.2.1 hD
       have hc := hbx.cell
       have hf := hbx.frozen
       have hS2 := hS.op15 h14 hD hplt
       obtain ⟨g', cap', hg14⟩ := ownsRow_succ (hS.2.2.2.2.1 h14)
       rw [hg14] at hS2
       rw [hT g, hg14]
       clear hT hS hbx
       go_simp
      all_goals
       refine gh_same fun D g w' hD hdp hS => ?_
       obtain ⟨cx1, cx2⟩ := hrx w' hS.1.1
       rw [hT g]
       clear hT hrx
       go_simp
       exact hS.keep (by decide) (by decide) (by decide) (by decide)
     case fin =>
      intro T hT D g w' hD hS
      simp only [putAll, Act.put, List.setIfInBounds_toArray, List.set_cons_zero, List.set_cons_succ] at hT
      rw [hT g]
      have h14 := hD 14 (by decide)
      have h15 := hD 15 (by decide)
      have HK := Lib.hid hS.1.1
      have HO := Lib.hid (hS.2.2.2.2.1 h14)
      have HB := Lib.hid (hS.2.2.2.2.2.1 h15)
      clear hS hT hD h14 h15
      go_wp2_with fail
      go_roundw
      case rel => exact ⟨k + 1, Hk.out, by go_num, HK.out, _, HB.out, by rw [HCS.out]; exact HO.out⟩
      case measure => have := Hk.out; simp [RowKit.intOf]; omega
   · obtain rfl : k = n := by omega
     rw [show G.take (2 * k) = G from by rw [← hl, List.take_length]] at hov
     have h3 : ¬ (k : Int) < (k : Int) := by omega
     clear hlt hk
     go_wp2_with fail
     go_end0
     refine ⟨?_, ⟨_, rfl⟩, v, hbv, own_baseV hov hB.size⟩
     have hsz := hB.size
     exact ⟨⟨hK.1.1.trans hB.os, hK.1.2.1.trans hB.tape, hK.1.2.2.1.trans hB.output, Nat.le_trans hsz hK.1.2.2.2⟩, fun j hj hjp => (hK.2 j (by omega) hjp).trans (hB.block j hj)⟩
end Go.Proofs.YtcngnjkpnmpcpaaDoor
