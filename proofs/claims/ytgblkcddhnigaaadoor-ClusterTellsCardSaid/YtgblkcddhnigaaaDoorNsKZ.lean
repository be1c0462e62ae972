import Derived.Test.YtgblkcddhnigaaaDoorNsJZ
namespace Go.Proofs.YtgblkcddhnigaaaDoor
open Go.RowKit Go.Shelf
attribute [local go_sem] Oper.semAt_some
theorem own_ne {B W : Nat} {u : Value} {w : World} {bs : List UInt8} (h : OwnB W w u bs) {v : Value} (hv : ∀ g, v.ownBlock = some g → g < W) (_hB : B ≤ W) : ∀ g, u.ownBlock = some g → g < w.heap.size ∧ v.ownBlock ≠ some g := fun g hg => by
 obtain ⟨h1, h2⟩ := h.2 g hg
 exact ⟨h2, fun h3 => by have := hv g h3; omega⟩
theorem take_snoc (rows : List RowC) (k : Nat) (h : k < rows.length) : (rows.take (k + 1)).map (·.bs) = (rows.take k).map (·.bs) ++ [rows[k].bs] := by
 rw [List.take_succ_eq_append_getElem h, List.map_append]
 rfl
set_option maxRecDepth 100000 in
set_option maxHeartbeats 1000000 in
theorem Sort_any (v : Value) (rows : List RowC) (w : World) (h : RowsIn w v rows) (hl : rows.length ≤ 60) (h4 : ∀ p ∈ rows, p.bs.length ≤ 400) :
    Calls Tryd.prog 32 #[v] w fun e w' => ∃ u rows', e = .returned u ∧ RowsIn w' u rows' ∧ (rows'.map (·.bs)).Perm (rows.map (·.bs)) ∧ RiseR rows' ∧ Below w.heap.size w w' := by
  obtain ⟨i0, hi, hz0, hz1, hz2⟩ := info_parts info_row
  obtain ⟨A, c, rfl, hA⟩ := h.some
  go_enter Tryd.func32, Tryd.ntmps32
  go_upto_region 1 with fail
  go_wp2_with (refine wpList_make_own _ rfl _ _ _ rfl w.heap.size 34 i0 (.slice none 0 0) 1 Tryd.underlying22 hi hz0 hz1 .i64 .i64 _ rows.length rfl rfl rfl (by rw [hz2]; omega) (by unfold maxLen; omega) (by simp) ?_; intro w1 hown hg0)
  have hB1 : Below w.heap.size w w1 := (Below.refl _ w).grown hg0 (Nat.le_refl _) (fun j hj => by cases hj)
  have hC0 : Coll w.heap.size w1 (.slice (some ⟨w.heap.size, 0, none⟩) 0 rows.length) [] := ⟨hown, fun p hp => by cases hp⟩
  have H4 := Lib.hid h4
  clear h4 hown hg0
  go_loopw [3, 11] (fun sv t wr => ∃ (k : Nat) (vs : List RowC) (g cap : Nat), k ≤ rows.length ∧ t = .int .i64 k ∧ sv = .slice (some ⟨g, 0, none⟩) vs.length cap ∧ Coll w.heap.size wr sv vs ∧ vs.map (·.bs) = (rows.take k).map (·.bs) ∧ Below w.heap.size w wr) (fun _ t _ => rows.length - (intOf t).toNat)
  case atStart => exact ⟨0, [], w.heap.size, rows.length, Nat.zero_le _, rfl, rfl, hC0, by simp, hB1⟩
  case round =>
   obtain ⟨k, vs, g, cap, hk, rfl, rfl, hC, hm, hB⟩ := hrel
   have hvl : vs.length = k := by have := congrArg List.length hm; simpa [hk] using this
   by_cases hlt : k < rows.length
   · obtain ⟨b1, o1, rfl, l1⟩ := hA (by omega)
     obtain ⟨q1, s1⟩ := h.at k hlt
     have r1 := (hB.cell (p := ⟨b1, o1 + k, none⟩) l1).trans q1
     have s1 := s1.next hB
     have hlen := H4.out rows[k] (List.getElem_mem hlt)
     have HS := Lib.hid (take_snoc rows k hlt)
     have hCl := Clone_own (.slice rows[k].A rows[k].bs.length rows[k].c) rows[k].bs (by omega) wr s1
     generalize rows[k].A = A2 at *
     generalize rows[k].c = c2 at *
     generalize rows[k].bs = bs at *
     have h3 : (k : Int) < (rows.length : Int) := by omega
     have hlt' := Lib.hid hlt
     have hk9 : k ≤ 60 := by omega
     have Hm := Lib.hid hm
     have Hv := Lib.hid hvl
     have hgl : ∀ g', (Value.slice (some ⟨g, 0, none⟩) vs.length cap).ownBlock = some g' → g' < wr.heap.size := fun g' hg' => (hC.1.lt g' hg').2
     clear h hA q1 s1 hlen hlt hk hm hC0 hB1 hvl
     go_wp2_with fail
     go_at_call 29
     refine hCl.mono ?_
     rintro e w2 ⟨u, rfl, hu, hBu⟩
     obtain ⟨A3, c3, rfl⟩ := hu.1.len
     have hC2 := hC.bel hBu
     have hne := own_ne hu hgl (Nat.le_refl _)
     have hAl := below_alloc w2 (.cells #[.slice A3 bs.length c3] 34)
     have hnew := Sl.new eC w2 [⟨A3, c3, bs⟩] #[.slice A3 bs.length c3] 34 (0, 0) 1 1 rfl (Nat.le_refl _) rfl
     have hB2 := below_trans hB hBu
     have hown2 := hC2.1.alloc (.cells #[.slice A3 bs.length c3] 34)
     clear hCl hC hgl
     go_wp2_with
       (at_builtin
        refine wpList_append_sl _ rfl (.tmp 15) (.tmp 18) _ rfl w.heap.size 34 i0 (.slice none 0 0) 24 Tryd.underlying22 hi hz0 hz1 hz2 rfl _ vs.length _ hown2 rfl _ _ [⟨A3, c3, bs⟩] hnew rfl eC_one (by have := Hv.out; unfold maxLen; simp; omega) (by have := Hv.out; simp; omega) (by have := hB2.size; simp; omega) ?_
        intro v3 w3 hown3 hg3 hat3)
     have hC3 := hC2.push (p := ⟨A3, c3, bs⟩) hu.1 hne hown3 hg3 hat3
     have hB3 := (below_trans hB2 hAl).trans (below_grown hown2 hg3 (by have := hB2.size; simp; omega) (Nat.le_refl _))
     obtain ⟨g3, cap3, rfl⟩ := ownsRow_succ (k := vs.length) hown3
     clear hown3 hg3 hat3 hown2 hnew hAl hB2 hC2 hne hu hBu
     go_roundw
     case rel =>
      refine ⟨k + 1, vs ++ [⟨A3, c3, bs⟩], g3, cap3, hlt'.out, by go_num, by simp, by simpa using hC3, ?_, hB3⟩
      rw [HS.out, ← Hm.out, List.map_append]
      rfl
     case measure => have := hlt'.out; simp [intOf]; omega
   · obtain rfl : k = rows.length := by omega
     have h3 : ¬ (rows.length : Int) < (rows.length : Int) := by omega
     have h5 : ¬ rows.length < rows.length := by omega
     rw [List.take_length] at hm
     have hgood : ∀ p ∈ vs, Good wr g p := fun p hp => good_of (hC.2 p hp).1 fun h => ((hC.2 p hp).2 g h).2 rfl
     rcases hC.1.2 with ⟨e0, -⟩ | ⟨g', cap', cur, e0, hbase, hb, hcap, -, -, ht⟩
     · cases e0
     · cases e0
       have hS := sort_rows wr g cap vs cur 34 hb (by simpa using ht) hcap (by omega) hgood
       have Hm := Lib.hid hm
       have Hb := Lib.hid hbase
       clear hlt hk hm hgood hC hb ht hcap hC0 hB1 hA h hvl hbase
       go_wp2_with fail
       go_at_call 43
       refine hS.mono ?_
       rintro e w' ⟨rfl, rows', hp, hri, hin, hg⟩
       clear hS
       go_wp2_with fail
       go_ret
       exact ⟨_, rows', rfl, hin, by rw [← Hm.out]; exact hp.map _, hri, hB.grown hg hB.size (fun j hj => by cases hj; exact Hb.out)⟩
end Go.Proofs.YtgblkcddhnigaaaDoor
