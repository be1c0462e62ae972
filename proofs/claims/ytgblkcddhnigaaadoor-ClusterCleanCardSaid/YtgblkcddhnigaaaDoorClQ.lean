/- ClusterClean, walked. (Seat s26; made by mk_clq.py.) -/
import Derived.Test.YtgblkcddhnigaaaDoorClDt
import Derived.Test.YtgblkcddhnigaaaDoorClY
import Derived.Test.YtgblkcddhnigaaaDoorRcB
import Derived.Test.YtgblkcddhnigaaaDoorGqC
import Derived.Test.YtgblkcddhnigaaaDoorGH
namespace Go.Proofs.YtgblkcddhnigaaaDoor
open Go.RowKit Go.Shelf
attribute [local go_sem] Oper.semAt_some run_store_func

/-- Whether the law counts a read. -/
def okB (b : List UInt8) : Bool := decide ((-1 : Int) ∉ codesOf b ∧ 0 < b.length)
def cntO (L : List (List UInt8)) (k : Nat) : Nat := (L.take k).countP okB
theorem cntO_succ (L : List (List UInt8)) (k : Nat) (h : k < L.length) : cntO L (k + 1) = cntO L k + if okB L[k] = true then 1 else 0 := by
  unfold cntO
  rw [List.take_succ_eq_append_getElem h, List.countP_append, List.countP_singleton]
theorem cntO_le (L : List (List UInt8)) (k : Nat) : cntO L k ≤ k := by
  unfold cntO
  have h1 := List.countP_le_length (p := okB) (l := L.take k)
  rw [List.length_take] at h1
  omega
theorem okB_clean {b : List UInt8} (h : b.length ≤ 1000) : okB b = cleanB b := by
  unfold okB cleanB
  exact decide_eq_decide.2 ⟨fun ⟨a, c⟩ => ⟨by omega, h, a⟩, fun ⟨a, _, c⟩ => ⟨c, by omega⟩⟩
/-- Rows that lie in blocks of bytes of their own, whatever they hold. -/
def CollY (B : Nat) (W : World) (v : Value) (vs : List RowC) : Prop :=
  W.ownsRow B 34 1 v vs.length (vs.map eC) ∧ ∀ p ∈ vs, ∃ ys : List Value, ys.length = p.bs.length ∧ W.ownsRow B 5 1 (eC p) ys.length ys
theorem CollT.y {B : Nat} {W : World} {v : Value} {vs : List RowC} (h : CollT B W v vs) : CollY B W v vs := ⟨h.1, fun p hp => ⟨p.bs.map eB, by simp, by rw [List.length_map]; exact h.2 p hp⟩⟩
/-- One of their cells set. -/
theorem CollY.set {B : Nat} {W : World} {v u : Value} {vs : List RowC} (h : CollY B W v vs) (p : RowC) (hp : p ∈ vs) (j : Nat) (hj : j < p.bs.length) :
    ∃ g cap, eC p = .slice (some ⟨g, 0, none⟩) p.bs.length cap ∧ B ≤ g ∧ g < W.heap.size ∧ (∃ x, W.cell? ⟨g, j, none⟩ = some x) ∧ W.frozen? ⟨g, j, none⟩ = false ∧ CollY B (W.setCell ⟨g, j, none⟩ u) v vs := by
  obtain ⟨ys, hyl, hy⟩ := h.2 p hp
  obtain ⟨g, cap, e, hB, hlt, -, ⟨cs0, htag⟩, hcell, hfr, -⟩ := own_setV hy j (by omega)
  refine ⟨g, cap, by rw [e, hyl], hB, hlt, ⟨_, hcell⟩, hfr, ?_, fun q hq => ?_⟩
  · exact own_keepT h.1 fun k cs _ ho _ => (Below.heap_setCell W ⟨g, j, none⟩ u k (show k ≠ g by
      rintro rfl
      rw [htag] at ho
      cases ho)).trans ho
  · obtain ⟨zs, hzl, hz⟩ := h.2 q hq
    rcases hz.2 with ⟨h1, h2⟩ | ⟨g2, cap2, cs, e2, hB2, hg2, hn, hm, hsz, ht⟩
    · exact ⟨zs, hzl, hz.1, .inl ⟨h1, h2⟩⟩
    · by_cases hgg : g2 = g
      · subst hgg
        have hr : Rowed W g2 5 cs := hg2
        have hs := hr.set j u
        rw [Nat.mul_one] at hsz ht
        have hl2 : zs.length ≤ cs.size := by omega
        have hzl2 : ((cs.setIfInBounds j u).toList.take zs.length).length = zs.length := by simp; omega
        refine ⟨(cs.setIfInBounds j u).toList.take zs.length, hzl2.trans hzl, by simp, .inr ⟨g2, cap2, cs.setIfInBounds j u, by rw [hzl2]; exact e2, hB2, hs, by rw [hzl2]; exact hn, hm, by simpa using hsz, ?_⟩⟩
        rw [Nat.mul_one, hzl2]
      · exact ⟨zs, hzl, hz.1, .inr ⟨g2, cap2, cs, e2, hB2, (Below.heap_setCell W ⟨g, j, none⟩ u g2 hgg).trans hg2, hn, hm, hsz, ht⟩⟩
theorem CollY.bel {B : Nat} {W W' : World} {v : Value} {vs : List RowC} (h : CollY B W v vs) (hb : Below W.heap.size W W') : CollY B W' v vs :=
  ⟨ownsRow_below h.1 hb, fun p hp => by obtain ⟨ys, h1, h2⟩ := h.2 p hp; exact ⟨ys, h1, ownsRow_below h2 hb⟩⟩
set_option maxRecDepth 100000 in
set_option maxHeartbeats 1000000 in
theorem gh_put {P : Program} {md : Region.Mode} {ops : Array Oper} {S : (Nat → Bool) → (Nat → Value) → World → Prop} {A : (Nat → Value) → Act} {i : Nat} {o : Oper} {s : Tmp} (hi : ops[i]? = some o) (hd : o.dst = some s)
    (hA : ∀ g v, A (fun j => if j = i then v else g j) = (A g).put (some s) v)
    (hrun : ∀ D g w, D i = false → (o.after.all fun e => !Region.binds md e || D e.on) = true → S D g w →
      if Region.wanted o (yielded ops (A g).tmps) = true then o.wp P (A g) w (fun a' w' => ∃ v, a' = (A g).put (some s) v ∧ S (upd D i) (fun j => if j = i then v else g j) w') (fun _ _ _ => False) else False) : GhOk P md ops S A i o := by
  intro D g w hD hdep hS
  have h := hrun D g w hD hdep hS
  split
  · rename_i hw
    rw [if_pos hw] at h
    refine Oper.wp_mono (fun a' w' ⟨v, e, hS'⟩ => ?_) h
    refine ⟨fun j => if j = i then v else g j, ?_, ?_, ?_, hS'⟩
    · rw [hA, e]
    · intro s' _
      rw [e, hA]
    · intro s' hs'
      rw [hA]
      have hne : s ≠ s' := by
        rintro rfl
        have := hs' i o hi hd
        rw [hD] at this
        cases this
      simp only [Act.put]
      rw [Array.getElem?_setIfInBounds_ne hne]
  · rename_i hw
    rw [if_neg hw] at h
    exact h.elim
theorem clR_two {rows : List RowC} {r1 r2 : RowC} {b : UInt8} {zs : List UInt8} (h1 : r1.bs = [b]) (h2 : r2.bs = zs) (hz : zs.length = 1001) : (clR (rows ++ [r1, r2])).length = (clR rows).length + if codeOf b.toNat = -1 then 0 else 1 := by
  have c2 : cleanB r2.bs = false := decide_eq_false (by rw [h2]; omega)
  have e : clR (rows ++ [r1, r2]) = clR rows ++ if cleanB r1.bs = true then [r1] else [] := by
    unfold clR
    rw [List.filter_append, List.filter_cons, List.filter_cons, c2]
    simp
  rw [e, List.length_append]
  by_cases hc : codeOf b.toNat = -1
  · rw [if_pos hc, if_neg (show ¬ cleanB r1.bs = true from fun h => (cleanB_yes h).2.2 (by rw [h1]; simp [codesOf, hc]))]
    rfl
  · rw [if_neg hc, if_pos (show cleanB r1.bs = true from decide_eq_true (by rw [h1]; refine ⟨by simp, by simp, ?_⟩; simp [codesOf]; exact fun h => hc h.symm))]
    rfl
theorem zeros_eB (n : Nat) : (List.replicate n (0 : UInt8)).map eB = (madeCells (Value.int .u8 0).cells (n * 1)).toList := by
  rw [List.map_replicate]
  simp [madeCells, eB, Value.cells, Nat.mod_one, List.map_const']
theorem op_append_sl {P : Program} {α : Type} {enc : α → Value} (w : World) {o : Oper} {a : Act} {Q : Act → World → Prop} {QH : Exit → Act → World → Prop} (s x : Operand) (t : TypeId)
    (ho : o.op = .call { callee := .builtin .append, args := #[s, x], argTypes := #[t, t] })
    (base : Nat) (e : TypeId) (i : TypeInfo) (z : Value) (bytes : Nat) (ht : P.underlying t = some (.slice e)) (hi : P.info? e = some i) (hz : i.zero = some z)
    (hsize : i.size = 1) (hby : i.bytes = bytes) (hzs : z.cells.size = 1) (v : Value) (n : Nat) (ys : List Value) (hown : w.ownsRow base e 1 v n ys) (hv : a.eval s = v)
    (B : Nat) (sv : Value) (xs : List α) (hs : Sl enc B w sv xs) (hx : a.eval x = sv) (h1 : ∀ x, (enc x).oneCell' = true)
    (h63 : n + xs.length ≤ maxLen) (hbytes : (n + xs.length) * bytes ≤ 140737488355328) (hbase : base ≤ w.heap.size)
    (h : ∀ v' w', w'.ownsRow base e 1 v' (n + xs.length) (ys ++ xs.map enc) → w.grownBy w' v.ownBlock → Q (a.put o.dst v') w') : o.wp P a w Q QH := by
  obtain ⟨v', w', hrun, r1, r2, r3⟩ := run_append_sl (P := P) w base t o.type e i z bytes ht hi hz hsize hby hzs v n ys hown B sv xs hs h1 h63 hbytes hbase
  unfold Oper.wp execOp
  simp only [ho, resolve, invoke, builtin, Sem.run_bind, Sem.run_pure, Result.andThen_ok, List.map_toArray, List.map_cons, List.map_nil, hv, hx, hrun]
  exact h v' w' r1 r2
theorem drew_bel (B : Nat) (w : World) : Below B w w.drew := ⟨rfl, rfl, rfl, Nat.le_refl _, fun _ _ => rfl⟩
theorem drewN_bel (B : Nat) (w : World) (n : Nat) : Below B w (w.drewN n) := ⟨rfl, rfl, rfl, Nat.le_refl _, fun _ _ => rfl⟩
theorem row_madeR (w : World) : (w.alloc (.cells #[] 34)).ownsRow w.heap.size 34 1 (.slice (some ⟨w.heap.size, 0, none⟩) 0 0) 0 [] :=
  ⟨rfl, .inr ⟨w.heap.size, 0, #[], rfl, Nat.le_refl _, World.alloc_heap_new _ _, Nat.le_refl _, by unfold maxLen; omega, rfl, rfl⟩⟩
theorem row_one (w : World) (b : UInt8) : (w.alloc (.cells #[eB b] 5)).ownsRow w.heap.size 5 1 (.slice (some ⟨w.heap.size, 0, none⟩) 1 1) 1 [eB b] :=
  ⟨rfl, .inr ⟨w.heap.size, 1, #[eB b], rfl, Nat.le_refl _, World.alloc_heap_new _ _, Nat.le_refl _, by unfold maxLen; omega, rfl, rfl⟩⟩
theorem below_al (w : World) (o : Obj) : Below w.heap.size w (w.alloc o) := (Below.refl w.heap.size w).alloc (Nat.le_refl _) o
set_option maxRecDepth 100000 in
set_option maxHeartbeats 1000000 in
theorem CClean_great (v0 : Value) (by_ : UInt8) (rows : List RowC) (w : World) (h0 : RowsIn w v0 rows) (hT : Tab w) (e0 : gr6 rows = true) :
    Calls Tryd.prog 6 #[v0, eB by_] w fun e w' => e = .returned (.bool true) ∧ Below w.heap.size w w' := by
  have g0 := great_any v0 rows w h0
  have hw := wakes_any w hT
  obtain ⟨A, c, rfl, -⟩ := h0.some
  clear h0
  rw [e0] at g0
  clear e0
  go_enter Tryd.func6, Tryd.ntmps6
  go_wp2_with fail
  go_at_call 8
  refine g0.mono ?_
  rintro e w1 ⟨rfl, rfl⟩
  clear g0
  go_wp2_with fail
  go_at_call 9
  refine hw.mono ?_
  rintro e w2 ⟨rfl, hB⟩
  clear hw
  go_wp2_with fail
  go_ret
  exact ⟨rfl, hB⟩
set_option maxRecDepth 100000 in
set_option maxHeartbeats 4000000 in
theorem CClean_main (v0 : Value) (by_ : UInt8) (rows : List RowC) (w : World) (h0 : RowsIn w v0 rows) (hT : Tab w) (e0 : gr6 rows = false) :
    Calls Tryd.prog 6 #[v0, eB by_] w fun e w' => e = .returned (.bool true) ∧ Below w.heap.size w w' := by
  have g0 := great_any v0 rows w h0
  rw [e0] at g0
  obtain ⟨hlen, hl0⟩ := gr6_no e0
  obtain ⟨i0, hi, hz0, hz1, hz2⟩ := info_parts info_row
  obtain ⟨i1, hi', hz0', hz1', hz2'⟩ := info_parts info_u8
  obtain ⟨A, c, rfl, hA⟩ := h0.some
  have hbl : (bsL rows).length = rows.length := by simp [bsL]
  have HAT := Lib.hid (show ∀ b off, A = some ⟨b, off, none⟩ → ∀ k (hk : k < rows.length), w.cell? ⟨b, off + k, none⟩ = some (.slice rows[k].A rows[k].bs.length rows[k].c) from fun b off e k hk => (RowsIn.at (e ▸ h0) k hk).1)
  have HSR := Lib.hid (show ∀ k (hk : k < rows.length), Sl eB w.heap.size w (.slice rows[k].A rows[k].bs.length rows[k].c) rows[k].bs from fun k hk => h0.2 _ (List.getElem_mem hk))
  have HCS := Lib.hid (show ∀ k (hk : k < rows.length), cntO (bsL rows) (k + 1) = cntO (bsL rows) k + if okB rows[k].bs = true then 1 else 0 from fun k hk => by
    have h := cntO_succ (bsL rows) k (by omega)
    rw [bsL_get] at h
    exact h)
  have HTK := Lib.hid (show ∀ k (hk : k < rows.length), (bsL rows).take (k + 1) = (bsL rows).take k ++ [rows[k].bs] from fun k hk => by rw [List.take_succ_eq_append_getElem (by omega), bsL_get])
  have HE := Lib.hid (show (bsL rows).take rows.length = bsL rows from by rw [← hbl, List.take_length])
  have HCL := Lib.hid (show ∀ k, cntO (bsL rows) k ≤ k from cntO_le (bsL rows))
  have H0 := Lib.hid h0
  have HT := Lib.hid hT
  have HL := Lib.hid hlen
  have H8 := Lib.hid (show ∀ k (hk : k < rows.length), rows[k].bs.length ≤ 200 from fun k hk => hl0 _ (List.getElem_mem hk))
  clear e0 hlen hl0 h0 hT hbl
  go_enter Tryd.func6, Tryd.ntmps6
  go_wp2_with fail
  go_at_call 8
  refine g0.mono ?_
  rintro e w1 ⟨rfl, rfl⟩
  clear g0
  go_wp2_with fail
  go_loopw [5, 6, 7] (fun n t i wr => ∃ (k : Nat) (vs : List RowC), k ≤ rows.length ∧ vs.length = k ∧ i = .int .i64 k ∧ n = .int .i64 (cntO (bsL rows) k : Nat) ∧ CollT w.heap.size wr t vs ∧ bsL vs = (bsL rows).take k ∧ Below w.heap.size w wr) (fun _ _ i _ => rows.length - (RowKit.intOf i).toNat)
  case atStart => exact ⟨0, [], Nat.zero_le _, rfl, rfl, rfl, CollT.nil _ _, rfl, Below.refl _ _⟩
  case round =>
    obtain ⟨k, vs, hk, hvl, rfl, rfl, hC, hbs, hB⟩ := hrel
    by_cases hlt : k < rows.length
    · obtain ⟨b, off, rfl, hb⟩ := hA (by omega)
      have hcx := (hB.cell (p := ⟨b, off + k, none⟩) hb).trans (HAT.out b off rfl k hlt)
      have hs8 := H8.out k hlt
      have hsR := (HSR.out k hlt).below hB
      have hCo := rCodes_any _ rows[k].bs (by omega) wr (hsR.more hB.size)
      have Hst := Lib.hid (HCS.out k hlt)
      have Htk := Lib.hid (HTK.out k hlt)
      have hcn := HCL.out k
      have Hk := Lib.hid hlt
      have hk9 : k ≤ 40 := by have := HL.out; omega
      have hkl : (k : Int) < (rows.length : Int) := by omega
      have HVL := Lib.hid hvl
      have HBS := Lib.hid hbs
      have hBsz := hB.size
      generalize cntO (bsL rows) k = n at *
      generalize rows[k] = R at *
      clear hlt hvl hbs
      go_wp2_with fail
      go_at_call 26
      refine hCo.mono ?_
      clear hCo
      rintro e w2 ⟨hB2, ⟨hno, vr, rfl, -⟩ | ⟨hin, rfl⟩⟩
      all_goals
        have hC2 := hC.bel hB2
        have hB2N : Below w.heap.size wr w2 := hB2.mono hBsz
        have hBw2 := hB.trans hB2N
        have hbz2 : w.heap.size ≤ w2.heap.size := hBw2.size
        have hcx2 := (hB2.cell (p := ⟨b, off + k, none⟩) (by have := hBsz; show b < _; omega)).trans hcx
        have hs2 := (hsR.below hB2N).more hbz2
        clear hC hcx hsR
      · by_cases hl : 0 < R.bs.length
        · have hl' : (0 : Int) < (R.bs.length : Int) := by omega
          have Hn := Lib.hid (show cntO (bsL rows) (k + 1) = n + 1 from by rw [Hst.out, if_pos (show okB R.bs = true from decide_eq_true ⟨hno, hl⟩)])
          clear Hst hno
          have hcx3 := (below_al w2 (.cells #[] 5)).cell (p := ⟨b, off + k, none⟩) (by show b < _; omega)
          rw [hcx2] at hcx3
          have hrw := row_made w2
          have hA1 := below_al w2 (.cells #[] 5)
          go_wp2_with (first
            | (at_builtin
               refine wpList_append_sl _ rfl (.tmp 46) (.tmp 50) _ rfl w2.heap.size 5 i1 (.int .u8 0) 1 Tryd.underlying34 hi' hz0' hz1' hz2' rfl _ 0 [] hrw rfl w2.heap.size _ R.bs (hs2.below hA1) rfl (fun _ => rfl) (by unfold maxLen; omega) (by omega) (by simp) ?_
               intro va w3 hown1 hg1 hat1
               have hA2 : Below w2.heap.size w2 w3 := hA1.trans (below_grown hrw hg1 (by simp) (Nat.le_refl _))
               rw [Nat.zero_add, List.nil_append] at hown1
               obtain ⟨A3, c3, rfl⟩ : ∃ A c, va = .slice A R.bs.length c := (Sl.of_own hown1).len
               have hC3 := hC2.bel hA2
               have hbz3 : w.heap.size ≤ w3.heap.size := Nat.le_trans hbz2 hA2.size
               have hRo : w3.ownsRow w.heap.size 5 1 (eC ⟨A3, c3, R.bs⟩) R.bs.length (R.bs.map eB) := ownsRow_base hown1 hbz2)
            | (at_builtin
               refine wpList_append_sl _ rfl (.tmp 45) (.tmp 52) _ rfl w.heap.size 34 i0 (.slice none 0 0) 24 Tryd.underlying22 hi hz0 hz1 hz2 rfl _ _ _ (hC3.1.alloc _) rfl _ _ [⟨A3, c3, R.bs⟩] (Sl.new eC w3 [⟨A3, c3, R.bs⟩] #[.slice A3 R.bs.length c3] 34 (0, 0) 1 1 rfl (Nat.le_refl _) rfl) rfl eC_one (by have := HVL.out; unfold maxLen; simp; omega) (by have := HVL.out; simp; omega) (by simp; omega) ?_
               intro v' w4 hown' hgrow hat))
          have hB4 : Below w.heap.size w3 w4 := ((Below.refl _ w3).alloc hbz3 _).grown hgrow (by simp; omega) (fun q hq => ((hC3.1.alloc (.cells #[.slice A3 R.bs.length c3] 34)).lt q hq).1)
          have hP := CollT.push (p := ⟨A3, c3, R.bs⟩) hC3 hRo hown' hgrow
          go_roundw
          case rel => exact ⟨k + 1, _, Hk.out, by rw [List.length_append, HVL.out]; rfl, by go_num, by rw [Hn.out]; go_num, hP, by rw [Htk.out, ← HBS.out]; simp [bsL], (hBw2.trans (hA2.mono hbz2)).trans hB4⟩
          case measure => have := Hk.out; simp [RowKit.intOf]; omega
        · have hl' : ¬ (0 : Int) < (R.bs.length : Int) := by omega
          have Hn := Lib.hid (show cntO (bsL rows) (k + 1) = n from by rw [Hst.out, if_neg (show ¬ okB R.bs = true from fun h => hl (of_decide_eq_true h).2), Nat.add_zero])
          clear Hst hno
          have hcx3 := (below_al w2 (.cells #[] 5)).cell (p := ⟨b, off + k, none⟩) (by show b < _; omega)
          rw [hcx2] at hcx3
          have hrw := row_made w2
          have hA1 := below_al w2 (.cells #[] 5)
          go_wp2_with (first
            | (at_builtin
               refine wpList_append_sl _ rfl (.tmp 46) (.tmp 50) _ rfl w2.heap.size 5 i1 (.int .u8 0) 1 Tryd.underlying34 hi' hz0' hz1' hz2' rfl _ 0 [] hrw rfl w2.heap.size _ R.bs (hs2.below hA1) rfl (fun _ => rfl) (by unfold maxLen; omega) (by omega) (by simp) ?_
               intro va w3 hown1 hg1 hat1
               have hA2 : Below w2.heap.size w2 w3 := hA1.trans (below_grown hrw hg1 (by simp) (Nat.le_refl _))
               rw [Nat.zero_add, List.nil_append] at hown1
               obtain ⟨A3, c3, rfl⟩ : ∃ A c, va = .slice A R.bs.length c := (Sl.of_own hown1).len
               have hC3 := hC2.bel hA2
               have hbz3 : w.heap.size ≤ w3.heap.size := Nat.le_trans hbz2 hA2.size
               have hRo : w3.ownsRow w.heap.size 5 1 (eC ⟨A3, c3, R.bs⟩) R.bs.length (R.bs.map eB) := ownsRow_base hown1 hbz2)
            | (at_builtin
               refine wpList_append_sl _ rfl (.tmp 45) (.tmp 52) _ rfl w.heap.size 34 i0 (.slice none 0 0) 24 Tryd.underlying22 hi hz0 hz1 hz2 rfl _ _ _ (hC3.1.alloc _) rfl _ _ [⟨A3, c3, R.bs⟩] (Sl.new eC w3 [⟨A3, c3, R.bs⟩] #[.slice A3 R.bs.length c3] 34 (0, 0) 1 1 rfl (Nat.le_refl _) rfl) rfl eC_one (by have := HVL.out; unfold maxLen; simp; omega) (by have := HVL.out; simp; omega) (by simp; omega) ?_
               intro v' w4 hown' hgrow hat))
          have hB4 : Below w.heap.size w3 w4 := ((Below.refl _ w3).alloc hbz3 _).grown hgrow (by simp; omega) (fun q hq => ((hC3.1.alloc (.cells #[.slice A3 R.bs.length c3] 34)).lt q hq).1)
          have hP := CollT.push (p := ⟨A3, c3, R.bs⟩) hC3 hRo hown' hgrow
          go_roundw
          case rel => exact ⟨k + 1, _, Hk.out, by rw [List.length_append, HVL.out]; rfl, by go_num, by rw [Hn.out], hP, by rw [Htk.out, ← HBS.out]; simp [bsL], (hBw2.trans (hA2.mono hbz2)).trans hB4⟩
          case measure => have := Hk.out; simp [RowKit.intOf]; omega
      · have Hn := Lib.hid (show cntO (bsL rows) (k + 1) = n from by rw [Hst.out, if_neg (show ¬ okB R.bs = true from fun h => (of_decide_eq_true h).1 hin), Nat.add_zero])
        clear Hst hin
        have hcx3 := (below_al w2 (.cells #[] 5)).cell (p := ⟨b, off + k, none⟩) (by show b < _; omega)
        rw [hcx2] at hcx3
        have hrw := row_made w2
        have hA1 := below_al w2 (.cells #[] 5)
        go_wp2_with (first
          | (at_builtin
             refine wpList_append_sl _ rfl (.tmp 46) (.tmp 50) _ rfl w2.heap.size 5 i1 (.int .u8 0) 1 Tryd.underlying34 hi' hz0' hz1' hz2' rfl _ 0 [] hrw rfl w2.heap.size _ R.bs (hs2.below hA1) rfl (fun _ => rfl) (by unfold maxLen; omega) (by omega) (by simp) ?_
             intro va w3 hown1 hg1 hat1
             have hA2 : Below w2.heap.size w2 w3 := hA1.trans (below_grown hrw hg1 (by simp) (Nat.le_refl _))
             rw [Nat.zero_add, List.nil_append] at hown1
             obtain ⟨A3, c3, rfl⟩ : ∃ A c, va = .slice A R.bs.length c := (Sl.of_own hown1).len
             have hC3 := hC2.bel hA2
             have hbz3 : w.heap.size ≤ w3.heap.size := Nat.le_trans hbz2 hA2.size
             have hRo : w3.ownsRow w.heap.size 5 1 (eC ⟨A3, c3, R.bs⟩) R.bs.length (R.bs.map eB) := ownsRow_base hown1 hbz2)
          | (at_builtin
             refine wpList_append_sl _ rfl (.tmp 45) (.tmp 52) _ rfl w.heap.size 34 i0 (.slice none 0 0) 24 Tryd.underlying22 hi hz0 hz1 hz2 rfl _ _ _ (hC3.1.alloc _) rfl _ _ [⟨A3, c3, R.bs⟩] (Sl.new eC w3 [⟨A3, c3, R.bs⟩] #[.slice A3 R.bs.length c3] 34 (0, 0) 1 1 rfl (Nat.le_refl _) rfl) rfl eC_one (by have := HVL.out; unfold maxLen; simp; omega) (by have := HVL.out; simp; omega) (by simp; omega) ?_
             intro v' w4 hown' hgrow hat))
        have hB4 : Below w.heap.size w3 w4 := ((Below.refl _ w3).alloc hbz3 _).grown hgrow (by simp; omega) (fun q hq => ((hC3.1.alloc (.cells #[.slice A3 R.bs.length c3] 34)).lt q hq).1)
        have hP := CollT.push (p := ⟨A3, c3, R.bs⟩) hC3 hRo hown' hgrow
        go_roundw
        case rel => exact ⟨k + 1, _, Hk.out, by rw [List.length_append, HVL.out]; rfl, by go_num, by rw [Hn.out], hP, by rw [Htk.out, ← HBS.out]; simp [bsL], (hBw2.trans (hA2.mono hbz2)).trans hB4⟩
        case measure => have := Hk.out; simp [RowKit.intOf]; omega
    · obtain rfl : k = rows.length := by omega
      rw [HE.out] at hbs
      have hCl := CCleanT_any (.slice A rows.length c) rows (by have := HL.out; omega) (fun p hp => by obtain ⟨j, hj, rfl⟩ := List.getElem_of_mem hp; have := H8.out j hj; omega) wr (H0.out.next hB) (HT.out.below hB)
      have hcn := HCL.out rows.length
      have hcnt : (clR rows).length = cntO (bsL rows) rows.length := by
        unfold cntO
        rw [HE.out, ← List.length_map (f := fun p : RowC => p.bs), show (clR rows).map (fun p => p.bs) = bsL (clR rows) from rfl, bsL_clR, List.countP_eq_length_filter]
        refine congrArg List.length (List.filter_congr fun b hb => ?_)
        obtain ⟨q, hq, rfl⟩ := List.mem_map.1 hb
        obtain ⟨j, hj, rfl⟩ := List.getElem_of_mem hq
        exact (okB_clean (by have := H8.out j hj; omega)).symm
      have HCN := Lib.hid hcnt
      have HBS := Lib.hid hbs
      have HVL := Lib.hid hvl
      generalize cntO (bsL rows) rows.length = n at *
      clear hlt hk hbs hcnt hvl
      go_wp2_with fail
      go_at_call 12
      refine hCl.mono ?_
      rintro e w5 ⟨u, cs, rfl, hCT, hbc, hB5⟩
      have hlc : cs.length = n := by
        have := congrArg List.length hbc
        simp only [bsL, List.length_map] at this
        rw [this, HCN.out]
      have HLC := Lib.hid hlc
      have hle : ∀ p ∈ cs, p.bs.length ≤ 200 := fun p hp => by
        have h1 : p.bs ∈ bsL cs := List.mem_map.2 ⟨p, hp, rfl⟩
        rw [hbc] at h1
        obtain ⟨q, hq, e⟩ := List.mem_map.1 h1
        obtain ⟨j, hj, rfl⟩ := List.getElem_of_mem (List.mem_filter.1 hq).1
        have := H8.out j hj
        rw [← e]; exact this
      have HLE := Lib.hid hle
      obtain ⟨Au, cu, rfl⟩ : ∃ A c, u = .slice A cs.length c := (Sl.of_own hCT.1).len
      have hY := hCT.y
      have HCw := Lib.hid hC
      have hBs5 := hB5.size
      obtain ⟨PP, hPP⟩ : ∃ PP : World → Prop, ∀ W, PP W ↔ (CollY wr.heap.size W (.slice Au cs.length cu) cs ∧ Below wr.heap.size wr W) := ⟨_, fun _ => Iff.rfl⟩
      have hp5 := (hPP w5).2 ⟨hY, hB5⟩
      have HPP := Lib.hid hPP
      clear hCl hbc hle hCT hlc hC hY hPP
      go_wp2_with fail
      go_loopw [11] (fun i wx => ∃ k : Nat, k ≤ cs.length ∧ i = .int .i64 k ∧ PP wx) (fun i _ => cs.length - (RowKit.intOf i).toNat)
      case atStart => exact ⟨0, Nat.zero_le _, rfl, hp5⟩
      case round =>
        clear hp5
        obtain ⟨k, hk, rfl, hP⟩ := hrel
        by_cases hlt : k < cs.length
        · have hmem := List.getElem_mem hlt
          have hp8 := HLE.out _ hmem
          have HOT := Lib.hid (show ∀ W, PP W → ∃ b off, Au = some ⟨b, off, none⟩ ∧ W.cell? ⟨b, off + k, none⟩ = some (eC cs[k]) from fun W hW => by
            obtain ⟨g, cap, e, -, -, -, -, hcell, -, -⟩ := own_setV (xs := cs.map eC) (by rw [List.length_map]; exact ((HPP.out W).1 hW).1.1) k (by rw [List.length_map]; exact hlt)
            rw [List.getElem_map] at hcell
            injection e with e1
            exact ⟨g, 0, e1, by rw [Nat.zero_add]; exact hcell⟩)
          have HSET := Lib.hid (show ∀ (W : World) (u : Value), PP W → ∀ j (hj : j < (cs[k]'hlt).bs.length), ∃ g cap, eC (cs[k]'hlt) = .slice (some ⟨g, 0, none⟩) (cs[k]'hlt).bs.length cap ∧ (∃ x, W.cell? ⟨g, j, none⟩ = some x) ∧ W.frozen? ⟨g, j, none⟩ = false ∧ PP (W.setCell ⟨g, j, none⟩ u) from fun W u hW j hj => by
            obtain ⟨h1, h2⟩ := (HPP.out W).1 hW
            obtain ⟨g, cap, e, hgB, -, hx, hf, hn⟩ := CollY.set (u := u) h1 (cs[k]'hlt) hmem j hj
            exact ⟨g, cap, e, hx, hf, (HPP.out _).2 ⟨hn, h2.setCell (p := ⟨g, j, none⟩) hgB u⟩⟩)
          have Hk := Lib.hid hlt
          have hk9 : k ≤ 100 := by have := HLC.out; have := HL.out; omega
          have hkl : (k : Int) < (cs.length : Int) := by omega
          generalize cs[k] = p at *
          clear hlt hmem hk
          go_wp2_with fail
          go_loopw [12] (fun i wy => ∃ j : Nat, j ≤ p.bs.length ∧ i = .int .i64 j ∧ PP wy) (fun i _ => p.bs.length - (RowKit.intOf i).toNat)
          case atStart => exact ⟨0, Nat.zero_le _, rfl, hP⟩
          case round =>
            clear hP
            obtain ⟨j, hj, rfl, hP⟩ := hrel
            obtain ⟨b, off, rfl, hcell⟩ := HOT.out _ hP
            unfold eC at hcell
            by_cases hlt2 : j < p.bs.length
            · obtain ⟨g, cap, e, ⟨x, hcx⟩, hfx, hnew⟩ := HSET.out _ (.int .u8 78) hP j hlt2
              unfold eC at e
              injection e with e1 e2 e3
              rw [e1] at hcell
              have HNEW := Lib.hid hnew
              have Hj := Lib.hid hlt2
              have hj9 : j ≤ 200 := by omega
              have hjl : (j : Int) < (p.bs.length : Int) := by omega
              clear hlt2 hnew e1 e2 e3 hj
              go_wp2_with fail
              go_roundw
              case rel => exact ⟨j + 1, Hj.out, by go_num, HNEW.out⟩
              case measure => have := Hj.out; simp [RowKit.intOf]; omega
            · obtain rfl : j = p.bs.length := by omega
              clear hlt2 hj
              go_wp2_with fail
              go_roundw
              case rel => exact ⟨k + 1, Hk.out, by go_num, hP⟩
              case measure => have := Hk.out; simp [RowKit.intOf]; omega
        · obtain rfl : k = cs.length := by omega
          have hBx := ((HPP.out _).1 hP).2
          have hBw := below_trans hB hBx
          have hCx := HCw.out.bel hBx
          have h0w := H0.out.next hBw
          have hTw := HT.out.below hBw
          clear hlt hk hP
          go_wp2_with fail
          have hwkn : ∀ W, Below w.heap.size w W → Calls Tryd.prog 9 #[] W fun e w' => e = .returned (.bool true) ∧ Below W.heap.size W w' := fun W hb => wakes_any W (HT.out.below hb)
          have HWK := Lib.hid hwkn
          have HN := Lib.hid (show ∀ (W : World), Below wr.heap.size wr.drew W → RowsIn W (.slice A rows.length c) rows from fun W hb => h0w.next (Below.trans (drew_bel _ _) hb))
          have HTN := Lib.hid (show ∀ (W : World), Below wr.heap.size wr.drew W → Tab W from fun W hb => hTw.below (Below.trans (drew_bel _ _) hb))
          have HBW := Lib.hid hBw
          have HCX := Lib.hid hCx
          have HRD := Lib.hid (show ∀ p ∈ rows, Sl eB wr.heap.size wr.drew (eC p) p.bs from h0w.2)
          have HLR := Lib.hid (show ∀ p ∈ rows, p.bs.length ≤ 100000 from fun p hp => by obtain ⟨j, hj, rfl⟩ := List.getElem_of_mem hp; have := H8.out j hj; omega)
          have hlr := HL.out
          generalize hM : n + (if codeOf by_.toNat = -1 then 0 else 1) = M at *
          have HM := Lib.hid hM
          clear hBw hCx h0w hTw hwkn hBx
          obtain ⟨zs, HZ⟩ : ∃ zs : List UInt8, Hid (zs = List.replicate 1001 0) := ⟨_, Lib.hid rfl⟩
          have HZL := Lib.hid (show zs.length = 1001 by rw [HZ.out, List.length_replicate])
          refine wp_region_ghost (ClS wr.heap.size rows by_ zs M wr.drew) (fun g => [(77, g 0), (78, .slice A rows.length c), (79, g 2), (80, eB by_), (81, g 4), (82, g 5), (83, g 6), (84, g 7), (85, g 8), (13, g 9)]) (fun _ => undef)
            (by kernel_rfl) (by kernel_rfl) (by kernel_rfl) (by kernel_rfl) (fun _ => by kernel_rfl) ?start ?ok ?fin
          case start =>
            intro D hD
            have e0 := hD 0 (by decide)
            have e2 := hD 2 (by decide)
            have e4 := hD 4 (by decide)
            have e5 := hD 5 (by decide)
            have e6 := hD 6 (by decide)
            have e7 := hD 7 (by decide)
            have e8 := hD 8 (by decide)
            have e9 := hD 9 (by decide)
            refine ⟨Below.refl _ _, Nat.le_refl _, ?_, ?_, ?_, ?_, ?_, ?_, ?_, ?_, ?_, ?_, ?_, ?_, ?_⟩
            all_goals (intro h; simp [e0, e2, e4, e5, e6, e7, e8, e9] at h)
          case ok =>
            intro T hT
            simp only [putAll, Act.put, List.setIfInBounds_toArray, List.set_cons_zero, List.set_cons_succ] at hT
            simp only [ghAll]
            refine ⟨?_, ?_, ?_, ?_, ?_, ?_, ?_, ?_, ?_, ?_, trivial⟩
            · refine gh_put rfl rfl (fun g v => by rw [hT, hT]; rfl) fun D g w' hD hdp hS => ?_
              rw [hT g, if_pos (by rfl)]
              clear hT
              unfold Oper.wp
              go_simp
              refine (hS.belw (below_al w' (.cells #[] 34))).put0 hD _ (ownsRow_base (row_madeR w') hS.big) fun q h6 e => ?_
              obtain ⟨q', e', k', -⟩ := hS.s6 h6 (hS.n72 (hS.n20 hD))
              obtain rfl : q = q' := by rw [e] at e'; injection e' with e; injection e with e; injection e
              have := (Array.getElem?_eq_some_iff.1 k').1
              omega
            · refine gh_same fun D g w' hD hdp hS => ?_
              rw [hT g]
              clear hT
              go_simp
              exact hS.keep (.inl rfl)
            · refine gh_put rfl rfl (fun g v => by rw [hT, hT]; rfl) fun D g w' hD hdp hS => ?_
              have h0 : D 0 = true := dep_on hdp (by kernel_rfl)
              obtain ⟨p, e0, hown⟩ := hS.s0 h0 hD
              rw [hT g, if_pos (by rfl), e0]
              clear hT
              refine op_append_sl w' (.tmp 77) (.tmp 78) 22 (by rfl) wr.heap.size 34 i0 (.slice none 0 0) 24 Tryd.underlying22 hi hz0 hz1 hz2 rfl (.slice (some ⟨p, 0, none⟩) 0 0) 0 [] hown (by rfl) _ (.slice A rows.length c) rows (HN.out _ hS.bel).1 (by rfl) eC_one (by unfold maxLen; omega) (by omega) hS.big fun v' w2 hown2 hg2 => ?_
              refine ⟨v', rfl, ?_⟩
              rw [Nat.zero_add, List.nil_append] at hown2
              exact hS.op2 hD h0 hown2 (by rw [e0]; exact hg2)
            · refine gh_same fun D g w' hD hdp hS => ?_
              rw [hT g]
              clear hT
              go_simp
              exact hS.keep (.inr rfl)
            · refine gh_put rfl rfl (fun g v => by rw [hT, hT]; rfl) fun D g w' hD hdp hS => ?_
              rw [hT g, if_pos (by rfl)]
              clear hT
              unfold Oper.wp
              go_simp
              exact (hS.belw (below_al w' (.cells #[eB by_] 5))).put4 hD _ (ownsRow_base (row_one w' by_) hS.big)
            · refine gh_put rfl rfl (fun g v => by rw [hT, hT]; rfl) fun D g w' hD hdp hS => ?_
              obtain ⟨w2, hrun, hown, hg⟩ := run_make_full (P := Tryd.prog) w' w'.heap.size 34 5 i1 (.int .u8 0) 1 Tryd.underlying34 hi' hz0' hz1' .i64 .i64 1001 (by rw [hz2']; omega) (by unfold maxLen; omega) (Nat.le_refl _)
              rw [← zeros_eB, ← HZ.out] at hown
              replace hrun : (Instr.makeSlice 34 (.int .i64 1001) (.int .i64 1001)).run Tryd.prog w' = .ok (.slice (some ⟨w'.heap.size, 0, none⟩) 1001 1001) w2 := hrun
              have hB2 : Below w'.heap.size w' w2 := (Below.refl _ w').grown hg (Nat.le_refl _) (fun q hq => by cases hq)
              rw [hT g, if_pos (by rfl)]
              clear hT
              unfold Oper.wp
              go_simp
              rw [show (1001 : Nat) = zs.length from HZL.out.symm] at hown ⊢
              exact (hS.belw hB2).put5 hD _ (ownsRow_base hown hS.big)
            · refine gh_put rfl rfl (fun g v => by rw [hT, hT]; rfl) fun D g w' hD hdp hS => ?_
              have h4 : D 4 = true := dep_on hdp (by kernel_rfl)
              have h5 : D 5 = true := dep_on hdp (by kernel_rfl)
              obtain ⟨p4, e4, -⟩ := hS.s4 h4 (hS.n76 hD)
              obtain ⟨p5, e5, -⟩ := hS.s5 h5 (hS.n76 hD)
              rw [hT g, if_pos (by rfl), e4, e5]
              clear hT
              unfold Oper.wp
              go_simp
              rw [← e4, ← e5]
              refine (hS.belw (below_al w' (.cells #[g 4, g 5] 34))).put6 hD h4 h5 _ (World.alloc_heap_new _ _) fun h0 h2 e => ?_
              obtain ⟨p, e0, hown⟩ := hS.s0 h0 h2
              rw [e0] at e
              have h7 := (hown.lt p rfl).2
              have h8 : p = w'.heap.size := Option.some.inj e
              omega
            · refine gh_put rfl rfl (fun g v => by rw [hT, hT]; rfl) fun D g w' hD hdp hS => ?_
              have h2 : D 2 = true := dep_on hdp (by kernel_rfl)
              have h6 : D 6 = true := dep_on hdp (by kernel_rfl)
              obtain ⟨p4, p5, q, e4, e5, e6, hsl⟩ := hS.ask7 hD h6
              have hown := hS.s2 h2 hD
              rw [hT g, if_pos (by rfl), e6]
              clear hT
              refine op_append_sl w' (.tmp 79) (.tmp 83) 22 (by rfl) wr.heap.size 34 i0 (.slice none 0 0) 24 Tryd.underlying22 hi hz0 hz1 hz2 rfl (g 2) rows.length (rows.map eC) hown (by rfl) _ _ _ hsl (by rfl) eC_one (by unfold maxLen; simp; omega) (by simp; omega) hS.big fun v' w2 hown2 hg2 => ?_
              refine ⟨v', rfl, ?_⟩
              rw [← List.map_append] at hown2
              exact hS.op7 hD h2 h6 HRD.out e4 e5 hown2 hg2
            · refine gh_put rfl rfl (fun g v => by rw [hT, hT]; rfl) fun D g w' hD hdp hS => ?_
              have h7 : D 7 = true := dep_on hdp (by kernel_rfl)
              obtain ⟨r1, r2, e1, e2, hR⟩ := hS.s7 h7 hD
              have hcl := CCleanT_any (g 7) (rows ++ [r1, r2]) (by simp; omega) (fun p hp => by
                rcases List.mem_append.1 hp with hp | hp
                · exact HLR.out p hp
                · simp only [List.mem_cons, List.not_mem_nil, or_false] at hp
                  rcases hp with rfl | rfl
                  · rw [e1]; simp
                  · rw [e2, HZL.out]; omega) w' hR (HTN.out _ hS.bel)
              rw [hT g, if_pos (by rfl)]
              clear hT
              unfold Oper.wp
              go_simp
              refine hcl.mono ?_
              rintro e w2 ⟨u, vs2, rfl, hCT, hbc, hB2⟩
              have hlm : vs2.length = M := by
                have := congrArg List.length hbc
                simp only [bsL, List.length_map] at this
                rw [this, clR_two e1 e2 HZL.out, HCN.out, HM.out]
              obtain ⟨A2, c2, rfl⟩ : ∃ A c, u = .slice A vs2.length c := (Sl.of_own hCT.1).len
              rw [hlm]
              exact (hS.belw hB2).put8 hD h7
            · refine gh_put rfl rfl (fun g v => by rw [hT, hT]; rfl) fun D g w' hD hdp hS => ?_
              have h8 : D 8 = true := dep_on hdp (by kernel_rfl)
              rw [hT g]
              clear hT
              go_simp
              exact hS.put9 h8
          case fin =>
            intro T hT D g W2 hall hS
            rw [hT g]
            simp only [putAll, Act.put, List.setIfInBounds_toArray, List.set_cons_zero, List.set_cons_succ]
            obtain ⟨A2, c2, e8⟩ := hS.s8 (hall 8 (by decide))
            have e9 := hS.s9 (hall 9 (by decide))
            have hB2 : Below wr.heap.size wr W2 := Below.trans (drew_bel _ _) hS.bel
            rw [e9, e8]
            have hR2 := HN.out _ hS.bel
            have hC2 := HCX.out.bel hB2
            have hBW2 := below_trans HBW.out hB2
            clear hT hS hall e8 e9
            have hcd := refCode_any by_ W2
            have hrr := fun W (hb : Below W2.heap.size W2 W) => RRows_true (.slice A rows.length c) u6 rows vs W (hR2.next hb) ⟨Sl.of_own (hC2.bel hb).1, fun p hp => Sl.of_own ((hC2.bel hb).2 p hp)⟩ HBS.out.symm (by omega)
            have HRR := Lib.hid hrr
            clear hrr hR2 hC2
            by_cases hc : codeOf by_.toNat = -1
            · rw [if_pos hc] at hM
              rw [if_pos hc, if_pos hc] at hcd
              obtain rfl : n = M := by omega
              clear hc hM
              have hcsn := HLC.out
              have hnl : (cs.length : Int) = (n : Int) := by omega
              have hk1 : ¬ (n : Int) = (n : Int) + 1 := by omega
              have hk2 : ¬ n = n + 1 := by omega
              go_wp2_with fail
              go_at_call 27
              refine hcd.mono ?_
              rintro e W3 ⟨rfl, rfl⟩
              clear hcd
              go_wp2_with fail
              go_at_call 11
              refine (HRR.out _ (Below.refl _ _)).mono ?_
              rintro e W4 ⟨rfl, nd, rfl⟩
              go_wp2_with fail
              go_at_call 9
              refine (HWK.out _ (hBW2.trans (drewN_bel _ _ _))).mono ?_
              rintro e W5 ⟨rfl, hB5⟩
              go_wp2_with fail
              go_ret
              exact ⟨by simp [hk1], below_trans (hBW2.trans (drewN_bel _ _ _)) hB5⟩
            · rw [if_neg hc] at hM
              rw [if_neg hc, if_neg hc] at hcd
              obtain rfl : n + 1 = M := hM
              clear hc
              have hcsn := HLC.out
              have hnl : (cs.length : Int) = (n : Int) := by omega
              have hk1 : ¬ (n : Int) + 1 = (n : Int) := by omega
              have hk2 : ¬ n + 1 = n := by omega
              have hk3 : ((n + 1 : Nat) : Int) = (n : Int) + 1 := by omega
              go_wp2_with fail
              go_at_call 27
              refine hcd.mono ?_
              rintro e W3 ⟨rfl, rfl⟩
              clear hcd
              go_wp2_with fail
              go_at_call 11
              refine (HRR.out _ (Below.refl _ _)).mono ?_
              rintro e W4 ⟨rfl, nd, rfl⟩
              go_wp2_with fail
              go_at_call 9
              refine (HWK.out _ (hBW2.trans (drewN_bel _ _ _))).mono ?_
              rintro e W5 ⟨rfl, hB5⟩
              go_wp2_with fail
              go_ret
              exact ⟨by simp [hk1], below_trans (hBW2.trans (drewN_bel _ _ _)) hB5⟩
theorem ClusterClean_any (v0 : Value) (by_ : UInt8) (rows : List RowC) (w : World) (h0 : RowsIn w v0 rows) (hT : Tab w) :
    Calls Tryd.prog 6 #[v0, eB by_] w fun e w' => e = .returned (.bool true) ∧ Below w.heap.size w w' := by
  cases e0 : gr6 rows with
  | true => exact CClean_great v0 by_ rows w h0 hT e0
  | false => exact CClean_main v0 by_ rows w h0 hT e0
end Go.Proofs.YtgblkcddhnigaaaDoor
