import Derived.Test.YtgblkcddhnigaaaDoorCIZ
import Derived.Test.YtgblkcddhnigaaaDoorClWZ
namespace Go.Proofs.YtgblkcddhnigaaaDoor
open Go.RowKit Go.Shelf
attribute [local go_sem] Oper.semAt_some run_store_func
def RiseL (M : List (List UInt8)) : Prop := M.Pairwise fun a b => ¬ Lib.compareBytes b a < 0
theorem rise_list {rows : List RowC} (h : RiseR rows) : RiseL (bsL rows) := by
 unfold RiseL bsL
 rw [List.pairwise_map, List.pairwise_iff_getElem]
 exact fun i j hi hj hij => h i j hi hj hij
theorem rise_one {M M' : List (List UInt8)} (h : M.Perm M') (h1 : RiseL M) (h2 : RiseL M') : M = M' :=
 h.eq_of_pairwise (fun a b _ _ e1 e2 => compare_total a b e2 e1) h1 h2
set_option maxRecDepth 100000 in
set_option maxHeartbeats 1000000 in
theorem CAll_any (v0 : Value) (rows : List RowC) (hr : rows.length ≤ 60) (hl8 : ∀ p ∈ rows, p.bs.length ≤ 400) (w : World) (h0 : RowsIn w v0 rows) (hT : Tab w) :
    Calls Tryd.prog 18 #[v0] w fun e w' => ∃ u cl, e = .returned u ∧ CcB w.heap.size w' u cl ∧ (∃ M, M.Perm (tuL (bsL rows)) ∧ RiseL M ∧ bs3 cl = groupG M) ∧ (bs3 cl).length ≤ 60 ∧ sizeG (bs3 cl) ≤ 60 ∧ Below w.heap.size w w' := by
  have h1 := CTurned_any v0 rows hr hl8 w h0 hT
  go_enter Tryd.func18, Tryd.ntmps18
  go_wp2_with fail
  go_at_call 14
  refine h1.mono ?_
  rintro e w1 ⟨u, rows', rfl, hR, hp, hri, hB⟩
  have hlen : rows'.length ≤ 60 := by
   have h2 := hp.length_eq
   have h3 : (tuL (bsL rows)).length ≤ rows.length := by
    unfold tuL bsL
    rw [List.length_map]
    refine Nat.le_trans (List.length_filter_le ..) ?_
    rw [List.length_map]
    exact Nat.le_refl _
   simp only [bsL, List.length_map] at h2 h3
   omega
  have hle : ∀ p ∈ rows', p.bs.length ≤ 400 := fun p hpm => by
   have h2 : p.bs ∈ tuL (bsL rows) := hp.mem_iff.1 (List.mem_map.2 ⟨p, hpm, rfl⟩)
   rw [tuL_is] at h2
   obtain ⟨q, hq, e⟩ := List.mem_map.1 h2
   have := hl8 q (List.mem_filter.1 hq).1
   rw [← e, least_len]
   exact this
  have h2 := CGroup_any u rows' (by omega) (fun p hp => by have := hle p hp; omega) w1 hR
  clear h1
  go_wp2_with fail
  go_at_call 17
  refine h2.mono ?_
  rintro e w2 ⟨u2, cl, rfl, hC, hb, hB2⟩
  clear h2
  go_wp2_with fail
  go_ret
  refine ⟨u2, cl, rfl, hC.base hB.size, ⟨_, hp, rise_list hri, hb⟩, ?_, ?_, below_trans hB hB2⟩
  · rw [hb]
    have := group_len (bsL rows')
    simp only [bsL, List.length_map] at this ⊢
    omega
  · rw [hb, sizeG_group]
    simp only [bsL, List.length_map]
    exact hlen
def cntF (cl : List ClC) (k : Nat) : Nat → Int := fun j => if j < k then ((cl[j]?.map fun c => (c.rows.length : Int)).getD 0) else 0
set_option maxRecDepth 100000 in
set_option maxHeartbeats 2000000 in
theorem CSizes_any (v0 : Value) (cl : List ClC) (hr : cl.length ≤ 1000) (hr2 : ∀ c ∈ cl, c.rows.length ≤ 1000) (w : World) (h0 : Sl eCC w.heap.size w v0 cl) :
    Calls Tryd.prog 21 #[v0] w fun e w' => e = .returned (.slice (some ⟨w.heap.size, 0, none⟩) cl.length cl.length) ∧ Rowed w' w.heap.size 3 (cellsI (cntF cl cl.length) cl.length) ∧ Below w.heap.size w w' := by
  obtain ⟨A, c, rfl, hc, hcs⟩ := id h0
  have hmk := make_ints cl.length (by omega) cl.length rfl
  have hB0 : Below w.heap.size w (w.alloc (.cells (cellsI (fun _ => 0) cl.length) 3)) := (Below.refl _ _).alloc (Nat.le_refl _) _
  have hr0 : Rowed (w.alloc (.cells (cellsI (fun _ => 0) cl.length) 3)) w.heap.size 3 (cellsI (cntF cl 0) cl.length) := by
   rw [show cntF cl 0 = fun _ => 0 from funext fun j => by unfold cntF; rw [if_neg (Nat.not_lt_zero j)]]
   exact Rowed.new w 3 _
  have HC := Lib.hid hcs
  have HR := Lib.hid (show ∀ k (hk : k < cl.length), cl[k].rows.length ≤ 1000 from fun k hk => hr2 _ (List.getElem_mem hk))
  have HN := Lib.hid hr
  have HF := Lib.hid (show ∀ k (hk : k < cl.length), (fun j => if j = k then (cl[k].rows.length : Int) else cntF cl k j) = cntF cl (k + 1) from fun k hk => by
   funext j
   unfold cntF
   by_cases e : j = k
   · subst e
     rw [if_pos rfl, if_pos (Nat.lt_succ_self _), List.getElem?_eq_getElem hk]
     rfl
   · rw [if_neg e]
     by_cases h : j < k
     · rw [if_pos h, if_pos (by omega)]
     · rw [if_neg h, if_neg (by omega)])
  clear hcs hr2 h0
  go_enter Tryd.func21, Tryd.ntmps21
  go_wp2_with fail
  generalize w.alloc (.cells (cellsI (fun _ => 0) cl.length) 3) = w0 at *
  go_loopw [11] (fun i wr => ∃ k : Nat, k ≤ cl.length ∧ i = .int .i64 k ∧ Rowed wr w.heap.size 3 (cellsI (cntF cl k) cl.length) ∧ Below w.heap.size w wr) (fun i _ => cl.length - (RowKit.intOf i).toNat)
  case atStart => exact ⟨0, Nat.zero_le _, rfl, hr0, hB0⟩
  case round =>
   obtain ⟨k, hk, rfl, hRw, hB⟩ := hrel
   by_cases hlt : k < cl.length
   · obtain ⟨b, off, rfl, hb, hcell⟩ := HC.out (by omega)
     have hcx := (hB.cell (p := ⟨b, off + k, none⟩) hb).trans (hcell k cl[k] (List.getElem?_eq_getElem hlt))
     have hf := HF.out k hlt
     have h8 := HR.out k hlt
     have hset := cellsI_set (cntF cl k) cl.length k (cl[k].rows.length : Int)
     rw [hf] at hset
     have hst := hRw.set k (eI (cl[k].rows.length : Int))
     rw [hset] at hst
     have hck := hRw.cell k
     rw [cellsI_get _ _ _ hlt] at hck
     have hfk := hRw.frozen k
     have hkl : (k : Int) < cl.length := by omega
     have Hk := Lib.hid hlt
     have hk9 : k ≤ 1000 := by have := HN.out; omega
     have Hst := Lib.hid hst
     unfold eCC at hcx
     generalize cl[k].rows.length = n at *
     generalize cl[k].A = A2 at *
     generalize cl[k].c = c2 at *
     clear hset hst hf hlt hcell hRw
     go_wp2_with fail
     go_roundw
     case rel => exact ⟨k + 1, Hk.out, by go_num, Hst.out, hB.setCell (p := ⟨w.heap.size, k, none⟩) (Nat.le_refl _) _⟩
     case measure => have := Hk.out; simp [RowKit.intOf]; omega
   · obtain rfl : k = cl.length := by omega
     clear hlt hk
     go_wp2_with fail
     go_ret
     exact ⟨rfl, hRw, hB⟩
end Go.Proofs.YtgblkcddhnigaaaDoor
