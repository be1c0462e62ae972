import Derived.Test.YtcngnjkpnmpcpaaDoorGCZ
import Derived.Test.YtcngnjkpnmpcpaaDoorGH2Z
import Derived.Test.YtcngnjkpnmpcpaaDoorPaLZ
import Derived.Test.YtcngnjkpnmpcpaaDoorPbBZ
namespace Go.Proofs.YtcngnjkpnmpcpaaDoor
open Go.RowKit Go.Shelf
attribute [local go_sem] Oper.semAt_some run_store_func
def finR (all : List (List UInt8)) (i : Nat) (acc : Bool) : Nat → Bool
  | 0 => acc
  | k + 1 => finR all i acc k && decide (5 ≤ dC (all[i]?.getD []) (all[k]?.getD []))
def finA (all : List (List UInt8)) : Nat → Bool
  | 0 => true
  | i + 1 => finR all i (finA all i && oneG (all[i]?.getD [])) i
theorem finR_is (all : List (List UInt8)) (i : Nat) (acc : Bool) : ∀ k, k ≤ all.length → finR all i acc k = (acc && (all.take k).all fun o => decide (5 ≤ dC (all[i]?.getD []) o)) := by
 intro k
 induction k with
 | zero => intro _; simp [finR]
 | succ k ih =>
   intro hk
   rw [finR, ih (by omega), List.take_succ_eq_append_getElem (by omega), List.all_append, List.getElem?_eq_getElem (show k < all.length by omega)]
   simp [Bool.and_assoc]
theorem finA_is (all : List (List UInt8)) : ∀ i, i ≤ all.length → finA all i = chkF [] (all.take i) := by
 intro i
 induction i with
 | zero => intro _; rfl
 | succ i ih =>
   intro hi
   rw [finA, finR_is all i _ i (by omega), ih (by omega), List.take_succ_eq_append_getElem (by omega), chkF_snoc, List.getElem?_eq_getElem (show i < all.length by omega)]
   unfold takeB
   simp [Bool.and_assoc]
theorem chkE_fin (L : List Pr) (h : L.length ≤ 8) : chkE L = if finA (allP L) (allP L).length = true then 0 else 200 := by
 unfold chkE chkB
 rw [decide_eq_true h, Bool.true_and, finA_is _ _ (Nat.le_refl _), List.take_length]
section
variable {N : World} {x y : List UInt8} {bd : Bool} {D : Nat → Bool} {g : Nat → Value} {w w' : World}
end
end Go.Proofs.YtcngnjkpnmpcpaaDoor
namespace Go.Proofs.YtcngnjkpnmpcpaaDoor
open Go.RowKit Go.Shelf
attribute [local go_sem] Oper.semAt_some run_store_func
def AlT (N0 N : World) (v : Value) (n : Nat) (cs : List Value) (x y : Value) (D : Nat → Bool) (g : Nat → Value) (w : World) : Prop :=
 (Below N0.heap.size N w ∧ N0.heap.size ≤ N.heap.size) ∧ (D 12 = false → w.ownsRow N0.heap.size 9 1 v n cs) ∧ (D 11 = true → D 12 = false → ∃ q, g 11 = .slice (some ⟨q, 0, none⟩) 2 2 ∧ Rowed w q 9 #[x, y]) ∧
   (D 12 = true → w.ownsRow N0.heap.size 9 1 (g 12) (n + 2) (cs ++ [x, y])) ∧ (D 13 = false → g 13 = v) ∧ (D 13 = true → g 13 = g 12) ∧ (D 12 = true → D 11 = true ∧ D 0 = true) ∧ (D 13 = true → D 12 = true)
section
variable {N0 N : World} {v : Value} {n : Nat} {cs : List Value} {x y : Value} {D : Nat → Bool} {g : Nat → Value} {w w' : World}
theorem AlT.same {i : Nat} (h : AlT N0 N v n cs x y D g w) (h0 : i ≠ 0) (h11 : i ≠ 11) (h12 : i ≠ 12) (h13 : i ≠ 13) : AlT N0 N v n cs x y (upd D i) g w := by
 unfold AlT
 rw [upd_other D (Ne.symm h0), upd_other D (Ne.symm h11), upd_other D (Ne.symm h12), upd_other D (Ne.symm h13)]
 exact h
theorem AlT.at0 (h : AlT N0 N v n cs x y D g w) (hD : D 0 = false) : g 13 = v := by
 obtain ⟨a, b, c, d, e, f, p, q⟩ := h
 refine e (bool_noL fun h => ?_)
 rw [(p (q h)).2] at hD
 cases hD
theorem AlT.op0 (h : AlT N0 N v n cs x y D g w) : AlT N0 N v n cs x y (upd D 0) g w := by
 obtain ⟨a, b, c, d, e, f, p, q⟩ := h
 unfold AlT
 rw [upd_same, upd_other D (show 11 ≠ 0 by decide), upd_other D (show 12 ≠ 0 by decide), upd_other D (show 13 ≠ 0 by decide)]
 exact ⟨a, b, c, d, e, f, fun h => ⟨(p h).1, rfl⟩, q⟩
theorem AlT.op11 (h : AlT N0 N v n cs x y D g w) (hD : D 11 = false) : AlT N0 N v n cs x y (upd D 11) (fun j => if j = 11 then .slice (some ⟨w.heap.size, 0, none⟩) 2 2 else g j) (w.alloc (.cells #[x, y] 9)) := by
 obtain ⟨a, b, c, d, e, f, p, q⟩ := h
 have n12 : D 12 = false := bool_noL fun h => by rw [(p h).1] at hD; cases hD
 have n13 : D 13 = false := bool_noL fun h => by rw [q h] at n12; cases n12
 have hs := a.1.size
 have hs2 := a.2
 unfold AlT
 rw [upd_same, upd_other D (show 0 ≠ 11 by decide), upd_other D (show 12 ≠ 11 by decide), upd_other D (show 13 ≠ 11 by decide), n12, n13]
 refine ⟨⟨a.1.alloc (by omega) _, a.2⟩, fun _ => (b n12).alloc _, fun _ _ => ⟨w.heap.size, rfl, Rowed.new w 9 #[x, y]⟩, ?_, fun _ => e n13, ?_, ?_, ?_⟩
 all_goals (intro h; cases h)
theorem AlT.op12 (h : AlT N0 N v n cs x y D g w) (hD : D 12 = false) (h11 : D 11 = true) (h0 : D 0 = true) {v' : Value} (hown : w'.ownsRow N0.heap.size 9 1 v' (n + 2) (cs ++ [x, y])) (hg : w.grownBy w' v.ownBlock) : AlT N0 N v n cs x y (upd D 12) (fun j => if j = 12 then v' else g j) w' := by
 obtain ⟨a, b, c, d, e, f, p, q⟩ := h
 have n13 : D 13 = false := bool_noL fun h => by rw [q h] at hD; cases hD
 have hb := b hD
 unfold AlT
 rw [upd_same, upd_other D (show 0 ≠ 12 by decide), upd_other D (show 11 ≠ 12 by decide), upd_other D (show 13 ≠ 12 by decide), n13, h11, h0]
 refine ⟨⟨a.1.grown hg (Nat.le_trans a.2 a.1.size) (fun k e => (hb.lt k e).1), a.2⟩, ?_, ?_, fun _ => hown, fun _ => e n13, ?_, fun _ => ⟨rfl, rfl⟩, fun _ => rfl⟩
 · intro h; cases h
 · intro _ h; cases h
 · intro h; cases h
theorem AlT.op13 (h : AlT N0 N v n cs x y D g w) (h12 : D 12 = true) : AlT N0 N v n cs x y (upd D 13) (fun j => if j = 13 then g 12 else g j) w := by
 obtain ⟨a, b, c, d, e, f, p, q⟩ := h
 have hp := p h12
 unfold AlT
 rw [upd_same, upd_other D (show 0 ≠ 13 by decide), upd_other D (show 11 ≠ 13 by decide), upd_other D (show 12 ≠ 13 by decide), h12, hp.1, hp.2]
 refine ⟨a, ?_, ?_, fun _ => d h12, ?_, fun _ => rfl, fun _ => ⟨rfl, rfl⟩, fun _ => rfl⟩
 · intro h; cases h
 · intro _ h; cases h
 · intro h; cases h
end
theorem allP_take (L : List Pr) (k : Nat) (h : k < L.length) : allP (L.take (k + 1)) = allP (L.take k) ++ [L[k].1, L[k].2] := by
 rw [List.take_succ_eq_append_getElem h, allP_app]
 rfl
set_option maxRecDepth 100000 in
set_option maxHeartbeats 4000000 in
theorem RAllP_any (v0 : Value) (L : List Pr) (hr : L.length ≤ 1000) (w : World) (h0 : PrsIn w.heap.size w v0 L) :
    Calls Tryd.prog 15 #[v0] w fun e w' => ∃ u, e = .returned u ∧ w'.ownsRow w.heap.size 9 1 u (allP L).length ((allP L).map sV) ∧ Below w.heap.size w w' := by
  obtain ⟨i0, hi, hz0, hz1, hz2⟩ := info_parts info_str
  have hdr : Tryd.prog.follows .mixedOrders = true := by kernel_rfl
  obtain ⟨A, c, e, -, hcs⟩ := h0
  subst e
  have HCS := Lib.hid hcs
  have HR := Lib.hid hr
  clear hcs hr
  go_enter Tryd.func15, Tryd.ntmps15
  go_wp2_with fail
  go_loopw [3, 4] (fun t i wr => ∃ k : Nat, k ≤ L.length ∧ i = .int .i64 k ∧ wr.ownsRow w.heap.size 9 1 t (allP (L.take k)).length ((allP (L.take k)).map sV) ∧ Below w.heap.size w wr) (fun _ i _ => L.length - (RowKit.intOf i).toNat)
  case atStart => exact ⟨0, Nat.zero_le _, rfl, World.ownsRow_nil _ _ _ _, Below.refl _ _⟩
  case round =>
   obtain ⟨k, hk, rfl, hov, hB⟩ := hrel
   by_cases hlt : k < L.length
   · obtain ⟨b, off, rfl, hb, hcell⟩ := HCS.out (by omega)
     have hc2 := hcell k hlt
     have HTK := Lib.hid (allP_take L k hlt)
     obtain ⟨⟨x, y⟩, hp⟩ : ∃ p, L[k] = p := ⟨_, rfl⟩
     rw [hp] at hc2 HTK
     simp only at hc2 HTK
     have hkl : (k : Int) < (L.length : Int) := by omega
     have hkw : 0 ≤ (k : Int) := by omega
     have hck : ∀ W, Below w.heap.size wr W → W.cell? ⟨b, off + k * 2, none⟩ = some (sV x) ∧ W.cell? ⟨b, off + k * 2 + 1, none⟩ = some (sV y) := fun W hW =>
      have h := hB.trans hW
      ⟨(h.cell (p := ⟨b, off + k * 2, none⟩) hb).trans hc2.1, (h.cell (p := ⟨b, off + k * 2 + 1, none⟩) hb).trans hc2.2⟩
     have hL9 := HR.out
     have hpl : (allP (L.take k)).length ≤ 2000 := by rw [allP_len, List.length_take]; omega
     obtain ⟨cs, hcs⟩ : ∃ cs, (allP (L.take k)).map sV = cs := ⟨_, rfl⟩
     obtain ⟨n, hn⟩ : ∃ n, (allP (L.take k)).length = n := ⟨_, rfl⟩
     have HCS2 := Lib.hid (show (allP (L.take (k + 1))).map sV = cs ++ [sV x, sV y] from by rw [HTK.out, List.map_append, hcs]; rfl)
     have HN2 := Lib.hid (show (allP (L.take (k + 1))).length = n + 2 from by rw [HTK.out, List.length_append, hn]; rfl)
     rw [hcs, hn] at hov
     rw [hn] at hpl
     have HK := Lib.hid hlt
     have hsz := hB.size
     have HOV := Lib.hid (show wr.ownsRow w.heap.size 9 1 u3 n cs from hov)
     have HB := Lib.hid hB
     clear hcs hn hc2 hp hlt hk hov hB HTK
     go_wp2_with fail
     refine wp_region_ghostE (fun s => s == 3) (AlT w wr u3 n cs (sV x) (sV y)) (fun g => [(11, u3), (12, .slice (some ⟨b, off, none⟩) L.length c), (13, .int .i64 k), (14, .pointer (some ⟨b, off + k * 2, none⟩)), (15, .pointer (some ⟨b, off + k * 2, none⟩)), (16, sV x), (17, .slice (some ⟨b, off, none⟩) L.length c), (18, .int .i64 k), (19, .pointer (some ⟨b, off + k * 2, none⟩)), (20, .pointer (some ⟨b, off + k * 2 + 1, none⟩)), (21, sV y), (22, g 11), (23, g 12), (3, g 13)]) (fun j => if j = 13 then u3 else undef)
      (by kernel_rfl) (by kernel_rfl) (by kernel_rfl) (by kernel_rfl) (fun _ => by kernel_rfl) ?exB ?startB ?okB ?finB
     case exB =>
      intro s hs
      obtain rfl : s = 3 := eq_of_beq hs
      simp only [putAll, Act.put, List.setIfInBounds_toArray, List.set_cons_zero, List.set_cons_succ]
      rfl
     case startB =>
      intro D hD
      have e11 := hD 11 (by decide)
      have e12 := hD 12 (by decide)
      have e13 := hD 13 (by decide)
      refine ⟨⟨⟨rfl, rfl, rfl, Nat.le_refl _, fun _ _ => rfl⟩, HB.out.size⟩, fun _ => HOV.out, ?_, ?_, fun _ => rfl, ?_, ?_, ?_⟩
      all_goals (intro h; simp [e11, e12, e13] at h)
     case okB =>
      intro T hT
      simp only [putAll, Act.put, List.setIfInBounds_toArray, List.set_cons_zero, List.set_cons_succ] at hT
      simp only [geAll]
      refine ⟨?_, ?_, ?_, ?_, ?_, ?_, ?_, ?_, ?_, ?_, ?_, ?_, ?_, ?_, trivial⟩
      case refine_1 =>
       refine ge_same fun D g w' hD hdp hS => ?_
       have h13 := hS.at0 hD
       have hS2 := Lib.hid hS.op0
       rw [hT g, h13]
       clear hT hck hS hdp hD
       go_simp
       exact hS2.out
      case refine_12 =>
       refine ge_put rfl (fun g v => by rw [hT, hT]; rfl) fun D g w' hD hdp hS => ?_
       have hS2 := Lib.hid (hS.op11 hD)
       rw [hT g]
       clear hT hck hS hdp
       go_simp
       exact hS2.out
      case refine_13 =>
       refine ge_put rfl (fun g v => by rw [hT, hT]; rfl) fun D g w' hD hdp hS => ?_
       have hds : D 0 = true ∧ D 11 = true := by simp [Region.binds] at hdp; simp [hdp]
       obtain ⟨q, hg11, hrq⟩ := hS.2.2.1 hds.2 hD
       have hcq : ∀ j u, [sV x, sV y][j]? = some u → w'.cell? ((⟨q, 0, none⟩ : Addr).add j) = some u := fun j u h => by
        have e : ((⟨q, 0, none⟩ : Addr).add j) = ⟨q, j, none⟩ := by unfold Addr.add; split <;> simp_all
        rw [e, hrq.cell]
        simpa using h
       refine wp_append_own w' (.tmp 11) (.tmp 22) _ rfl w.heap.size 9 i0 _ 1 16 Tryd.underlying31 hi hz0 hz1 hz2 (by decide) (by decide) u3 n cs (by rw [hT g]; rfl) (hS.2.1 hD) ⟨q, 0, none⟩ 2 2 [sV x, sV y] (by rw [hT g]; exact hg11) rfl hcq (by simp [Value.oneCell']) (by unfold maxLen; omega) (by omega) (Nat.le_trans hsz hS.1.1.size) ?_
       intro v' w2 hown hgr _
       exact ⟨v', rfl, hS.op12 hD hds.2 hds.1 hown hgr⟩
      case refine_14 =>
       refine ge_put rfl (fun g v => by rw [hT, hT]; rfl) fun D g w' hD hdp hS => ?_
       have hds : D 12 = true := by simp [Region.binds] at hdp; simp [hdp]
       have hS2 := Lib.hid (hS.op13 hds)
       rw [hT g]
       clear hT hck hS hdp hD
       go_simp
       exact hS2.out
      case refine_2 =>
       refine ge_same fun D g w' hD hdp hS => ?_
       obtain ⟨cx1, cx2⟩ := hck w' hS.1.1
       have hS2 := Lib.hid (hS.same (i := 1) (by decide) (by decide) (by decide) (by decide))
       rw [hT g]
       clear hT hck hS hdp hD
       go_simp
       exact hS2.out
      case refine_3 =>
       refine ge_same fun D g w' hD hdp hS => ?_
       obtain ⟨cx1, cx2⟩ := hck w' hS.1.1
       have hS2 := Lib.hid (hS.same (i := 2) (by decide) (by decide) (by decide) (by decide))
       rw [hT g]
       clear hT hck hS hdp hD
       go_simp
       exact hS2.out
      case refine_4 =>
       refine ge_same fun D g w' hD hdp hS => ?_
       obtain ⟨cx1, cx2⟩ := hck w' hS.1.1
       have hS2 := Lib.hid (hS.same (i := 3) (by decide) (by decide) (by decide) (by decide))
       rw [hT g]
       clear hT hck hS hdp hD
       go_simp
       exact hS2.out
      case refine_5 =>
       refine ge_same fun D g w' hD hdp hS => ?_
       obtain ⟨cx1, cx2⟩ := hck w' hS.1.1
       have hS2 := Lib.hid (hS.same (i := 4) (by decide) (by decide) (by decide) (by decide))
       rw [hT g]
       clear hT hck hS hdp hD
       go_simp
       exact hS2.out
      case refine_6 =>
       refine ge_same fun D g w' hD hdp hS => ?_
       obtain ⟨cx1, cx2⟩ := hck w' hS.1.1
       have hS2 := Lib.hid (hS.same (i := 5) (by decide) (by decide) (by decide) (by decide))
       rw [hT g]
       clear hT hck hS hdp hD
       go_simp
       exact hS2.out
      case refine_7 =>
       refine ge_same fun D g w' hD hdp hS => ?_
       obtain ⟨cx1, cx2⟩ := hck w' hS.1.1
       have hS2 := Lib.hid (hS.same (i := 6) (by decide) (by decide) (by decide) (by decide))
       rw [hT g]
       clear hT hck hS hdp hD
       go_simp
       exact hS2.out
      case refine_8 =>
       refine ge_same fun D g w' hD hdp hS => ?_
       obtain ⟨cx1, cx2⟩ := hck w' hS.1.1
       have hS2 := Lib.hid (hS.same (i := 7) (by decide) (by decide) (by decide) (by decide))
       rw [hT g]
       clear hT hck hS hdp hD
       go_simp
       exact hS2.out
      case refine_9 =>
       refine ge_same fun D g w' hD hdp hS => ?_
       obtain ⟨cx1, cx2⟩ := hck w' hS.1.1
       have hS2 := Lib.hid (hS.same (i := 8) (by decide) (by decide) (by decide) (by decide))
       rw [hT g]
       clear hT hck hS hdp hD
       go_simp
       exact hS2.out
      case refine_10 =>
       refine ge_same fun D g w' hD hdp hS => ?_
       obtain ⟨cx1, cx2⟩ := hck w' hS.1.1
       have hS2 := Lib.hid (hS.same (i := 9) (by decide) (by decide) (by decide) (by decide))
       rw [hT g]
       clear hT hck hS hdp hD
       go_simp
       exact hS2.out
      case refine_11 =>
       refine ge_same fun D g w' hD hdp hS => ?_
       obtain ⟨cx1, cx2⟩ := hck w' hS.1.1
       have hS2 := Lib.hid (hS.same (i := 10) (by decide) (by decide) (by decide) (by decide))
       rw [hT g]
       clear hT hck hS hdp hD
       go_simp
       exact hS2.out
     case finB =>
      intro T hT D g w6 hD hS
      simp only [putAll, Act.put, List.setIfInBounds_toArray, List.set_cons_zero, List.set_cons_succ] at hT
      rw [hT g]
      have e13 : g 13 = g 12 := hS.2.2.2.2.2.1 (hD 13 (by decide))
      have HS6 := Lib.hid (HB.out.trans hS.1.1)
      have HO6 := Lib.hid (hS.2.2.2.1 (hD 12 (by decide)))
      rw [e13]
      generalize g 12 = v2 at *
      clear hS hT hD hck e13
      have hk9 : k ≤ 1000 := by have := HK.out; omega
      go_wp2_with fail
      go_roundw
      case rel => exact ⟨k + 1, HK.out, by go_num, by rw [HCS2.out, HN2.out]; exact HO6.out, HS6.out⟩
      case measure => have := HK.out; simp [RowKit.intOf]; omega
   · obtain rfl : k = L.length := by omega
     have h3 : ¬ (L.length : Int) < (L.length : Int) := by omega
     rw [List.take_length] at hov
     have HOV := Lib.hid hov
     have HB := Lib.hid hB
     clear hov hB hlt hk HCS
     go_wp2_with fail
     go_ret
     exact ⟨_, rfl, HOV.out, HB.out⟩
end Go.Proofs.YtcngnjkpnmpcpaaDoor
namespace Go.Proofs.YtcngnjkpnmpcpaaDoor
open Go.RowKit Go.Shelf
attribute [local go_sem] Oper.semAt_some run_store_func
theorem place_in (at_ : Int) (n : Nat) (h : 0 < n) (hn : n ≤ 9000000000000000) : ∃ p : Nat, p < n ∧ (wrap64 (at_.tmod (n : Int) + n)).tmod (n : Int) = p := by
 have h1 : at_.tmod (n : Int) < (n : Int) := Int.tmod_lt_of_pos _ (by omega)
 have h2 : -(n : Int) < at_.tmod (n : Int) := Int.lt_tmod_of_pos _ (by omega)
 generalize at_.tmod (n : Int) = t at *
 rw [IntWalk.wrap64_in (t + n) (by omega), Int.tmod_eq_emod_of_nonneg (by omega)]
 have h3 := Int.emod_nonneg (t + n) (b := (n : Int)) (by omega)
 have h4 := Int.emod_lt_of_pos (t + n) (b := (n : Int)) (by omega)
 exact ⟨((t + n) % (n : Int)).toNat, by omega, by omega⟩
end Go.Proofs.YtcngnjkpnmpcpaaDoor
