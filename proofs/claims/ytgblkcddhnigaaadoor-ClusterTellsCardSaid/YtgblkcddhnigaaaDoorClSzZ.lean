import Derived.Test.YtgblkcddhnigaaaDoorClGrZ
import Derived.Test.YtgblkcddhnigaaaDoorRcBZ
namespace Go.Proofs.YtgblkcddhnigaaaDoor
open Go.RowKit Go.Shelf
attribute [local go_sem] Oper.semAt_some run_store_func
def szL (cl : List ClC) : List Int := cl.map fun c => (c.rows.length : Int)
theorem szL_len (cl : List ClC) : (szL cl).length = cl.length := by simp [szL]
theorem szL_sl {B : Nat} {W : World} {b : Nat} {cl : List ClC} (h : Rowed W b 3 (cellsI (cntF cl cl.length) cl.length)) (hb : b < B) : Sl eI B W (.slice (some ⟨b, 0, none⟩) cl.length cl.length) (szL cl) := by
 refine ⟨_, cl.length, by rw [szL_len], by rw [szL_len]; exact Nat.le_refl _, fun _ => ⟨b, 0, rfl, hb, fun j x hx => ?_⟩⟩
 rw [Nat.zero_add, h.cell]
 have hj : j < cl.length := by have := (List.getElem?_eq_some_iff.1 hx).1; rw [szL_len] at this; exact this
 rw [cellsI_get _ _ _ hj]
 unfold szL at hx
 rw [List.getElem?_map, List.getElem?_eq_getElem hj] at hx
 injection hx with hx
 unfold cntF
 rw [if_pos hj, List.getElem?_eq_getElem hj, ← hx]
 rfl
set_option maxRecDepth 100000 in
set_option maxHeartbeats 2000000 in
theorem RSizes_any (v0 : Value) (cl : List ClC) (hr : cl.length ≤ 1000) (hr2 : ∀ c ∈ cl, c.rows.length ≤ 1000) (w : World) (h0 : Sl eCC w.heap.size w v0 cl) :
    Calls Tryd.prog 22 #[v0] w fun e w' => ∃ u, e = .returned u ∧ w'.ownsRow w.heap.size 3 1 u cl.length ((szL cl).map eI) ∧ Below w.heap.size w w' := by
  obtain ⟨i0, hi, hz0, hz1, hz2⟩ := info_parts info_int
  obtain ⟨A, c, rfl, hc, hcs⟩ := id h0
  have HC := Lib.hid hcs
  have HR := Lib.hid (show ∀ k (hk : k < cl.length), cl[k].rows.length ≤ 1000 from fun k hk => hr2 _ (List.getElem_mem hk))
  have HN := Lib.hid hr
  have HT := Lib.hid (show ∀ k (hk : k < cl.length), (szL cl).take (k + 1) = (szL cl).take k ++ [(cl[k].rows.length : Int)] from fun k hk => by
   rw [List.take_succ_eq_append_getElem (by rw [szL_len]; exact hk)]
   simp [szL])
  have HE := Lib.hid (show (szL cl).take cl.length = szL cl from by rw [← szL_len cl, List.take_length])
  clear hcs hr2 h0 hr
  go_enter Tryd.func22, Tryd.ntmps22
  go_wp2_with fail
  go_loopw [3, 4] (fun t i wr => ∃ k : Nat, k ≤ cl.length ∧ i = .int .i64 k ∧ wr.ownsRow w.heap.size 3 1 t k (((szL cl).take k).map eI) ∧ Below w.heap.size w wr) (fun _ i _ => cl.length - (RowKit.intOf i).toNat)
  case atStart => exact ⟨0, Nat.zero_le _, rfl, World.ownsRow_nil _ _ _ _, Below.refl _ _⟩
  case round =>
   obtain ⟨k, hk, rfl, hrow, hB⟩ := hrel
   by_cases hlt : k < cl.length
   · obtain ⟨b, off, rfl, hb, hcell⟩ := HC.out (by omega)
     have hcx := (hB.cell (p := ⟨b, off + k, none⟩) hb).trans (hcell k cl[k] (List.getElem?_eq_getElem hlt))
     have h8 := HR.out k hlt
     have hkl : (k : Int) < cl.length := by omega
     have Hk := Lib.hid hlt
     have hk9 : k ≤ 1000 := by have := HN.out; omega
     have Htk := Lib.hid (HT.out k hlt)
     unfold eCC at hcx
     generalize cl[k].rows.length = n at *
     generalize cl[k].A = A2 at *
     generalize cl[k].c = c2 at *
     clear hlt hcell
     go_wp2_with (at_builtin; refine wpList_append_own _ rfl _ _ 31 rfl w.heap.size 3 i0 _ 1 8 Tryd.underlying31 hi hz0 hz1 hz2 (by decide) (by decide) _ _ _ rfl (hrow.alloc _) ⟨wr.heap.size, 0, none⟩ 1 1 [.int .i64 n] rfl rfl (int_cell _ _ _) (by simp [Value.oneCell']) (by unfold maxLen; omega) (by omega) (by have := hB.size; simp; omega) ?_; intro v' w3 hown' hgrow _)
     have hB' : Below w.heap.size w w3 := (hB.alloc hB.size _).trans ((Below.refl w.heap.size (wr.alloc _)).grown hgrow (by have := hB.size; simp; omega) (fun q hq => ((hrow.alloc (.cells #[.int .i64 n] 3)).lt q hq).1))
     go_roundw
     case rel => exact ⟨k + 1, Hk.out, by go_num, by rw [Htk.out, List.map_append]; exact hown', hB'⟩
     case measure => have := Hk.out; simp [RowKit.intOf]; omega
   · obtain rfl : k = cl.length := by omega
     rw [HE.out] at hrow
     clear hlt hk
     go_wp2_with fail
     go_ret
     exact ⟨_, rfl, hrow, hB⟩
set_option maxRecDepth 100000 in
set_option maxHeartbeats 2000000 in
theorem ints_true (v u : Value) (l : List Int) (w : World) (ha : Sl eI w.heap.size w v l) (hb : Sl eI w.heap.size w u l) (hl : l.length ≤ 1000) :
    Calls Tryd.prog 20 #[v, u] w fun e w' => e = .returned (.bool true) ∧ Below w.heap.size w w' := by
  obtain ⟨A, c, rfl, hc, hcs⟩ := ha
  obtain ⟨B, d, rfl, hd, hds⟩ := hb
  have hne : ((l.length : Int) != (l.length : Int)) = false := by simp
  have HA := Lib.hid hcs
  have HB := Lib.hid hds
  have HL := Lib.hid hl
  clear hcs hds hl
  go_enter Tryd.func20, Tryd.ntmps20
  go_wp2_with fail
  go_loopw [5] (fun t wr => ∃ k : Nat, k ≤ l.length ∧ t = .int .i64 k ∧ Below w.heap.size w wr) (fun t _ => l.length - (intOf t).toNat)
  case atStart => exact ⟨0, Nat.zero_le _, rfl, Below.refl _ _⟩
  case round =>
   obtain ⟨k, hk, rfl, hBr⟩ := hrel
   by_cases hlt : k < l.length
   · obtain ⟨b, off, rfl, hb, hcell⟩ := HA.out (by omega)
     obtain ⟨b2, off2, rfl, hb2, hcell2⟩ := HB.out (by omega)
     have r1 := (hBr.cell (p := ⟨b, off + k, none⟩) hb).trans (hcell k l[k] (List.getElem?_eq_getElem hlt))
     have r2 := (hBr.cell (p := ⟨b2, off2 + k, none⟩) hb2).trans (hcell2 k l[k] (List.getElem?_eq_getElem hlt))
     have Hk := Lib.hid hlt
     have hk9 : k ≤ 1000 := by have := HL.out; omega
     have hkl : (k : Int) < (l.length : Int) := by omega
     have HBr := Lib.hid hBr
     generalize l[k] = x at *
     have hxx : (x != x) = false := by simp
     unfold eI at r1 r2
     clear hcell hcell2 hlt hk hBr hne
     go_wp2_with fail
     go_quiet (fail)
     go_wp2_with fail
     go_roundw
     case rel => exact ⟨k + 1, Hk.out, by go_num, HBr.out.trans ((below_drewN' _ _ _).mono HBr.out.size)⟩
     case measure => have := Hk.out; simp [intOf]; omega
   · obtain rfl : k = l.length := by omega
     have h3 : ¬ (l.length : Int) < (l.length : Int) := by omega
     have h4 : ¬ l.length < l.length := by omega
     clear hlt hk
     go_wp2_with fail
     go_ret
     exact ⟨rfl, hBr⟩
set_option maxRecDepth 100000 in
set_option maxHeartbeats 1000000 in
theorem RAll_any (v0 : Value) (rows : List RowC) (hr : rows.length ≤ 60) (hl8 : ∀ p ∈ rows, p.bs.length ≤ 400) (w : World) (h0 : RowsIn w v0 rows) :
    Calls Tryd.prog 19 #[v0] w fun e w' => ∃ u cl, e = .returned u ∧ CcB w.heap.size w' u cl ∧ (∃ M, M.Perm (tuL (bsL rows)) ∧ RiseL M ∧ bs3 cl = groupG M) ∧ Below w.heap.size w w' := by
  have h1 := RTurned_any v0 rows (by omega) (fun p hp => by have := hl8 p hp; omega) w h0
  have HLL := Lib.hid (show ∀ L : List (List UInt8), L.Perm (tuL (bsL rows)) → L.length ≤ 1000 ∧ ∀ b ∈ L, b.length ≤ 1000 from fun L hp => by
   refine ⟨?_, fun b hb => ?_⟩
   · have h2 := hp.length_eq
     have h3 : (tuL (bsL rows)).length ≤ rows.length := by
      unfold tuL bsL
      rw [List.length_map]
      refine Nat.le_trans (List.length_filter_le ..) ?_
      rw [List.length_map]
      exact Nat.le_refl _
     omega
   · have h2 := hp.mem_iff.1 hb
     rw [tuL_is] at h2
     obtain ⟨q, hq, e⟩ := List.mem_map.1 h2
     have := hl8 q (List.mem_filter.1 hq).1
     rw [← e, least_len]
     omega)
  clear hr hl8
  go_enter Tryd.func19, Tryd.ntmps19
  go_wp2_with fail
  go_at_call 15
  refine h1.mono ?_
  rintro e w1 ⟨u, vs, rfl, hR, hp, hri, hB⟩
  have hLL := HLL.out _ hp
  have h2 := RGroup_any u vs (by have := hLL.1; simp only [bsL, List.length_map] at this; exact this) (fun p hpm => by have := hLL.2 p.bs (List.mem_map.2 ⟨p, hpm, rfl⟩); omega) w1 ⟨Sl.of_own hR.1, fun p hp => Sl.of_own (hR.2 p hp)⟩
  clear h1
  go_wp2_with fail
  go_at_call 10
  refine h2.mono ?_
  rintro e w2 ⟨u2, cl, rfl, hC, hb, hB2⟩
  clear h2
  go_wp2_with fail
  go_ret
  exact ⟨u2, cl, rfl, hC.base hB.size, ⟨_, hp, hri, hb⟩, below_trans hB hB2⟩
end Go.Proofs.YtgblkcddhnigaaaDoor
