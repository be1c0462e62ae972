import Derived.Lib.SmallJoins
import Derived.Test.YtgblkcddhnigaaaDoorClDZ
import Derived.Test.YtgblkcddhnigaaaDoorClXZ
namespace Go.Proofs.YtgblkcddhnigaaaDoor
open Go.RowKit Go.Shelf
attribute [local go_sem] Oper.semAt_some run_store_func
theorem tu_lit : tuL [[65, 67], [71, 84], [65, 78], []] = [[65, 67], [65, 67]] := by decide +kernel
theorem grp_lit1 : groupG [[65, 67], [65, 67]] = [[[65, 67], [65, 67]]] := by decide +kernel
theorem grp_lit2 : groupG [[65, 65, 65, 65, 65, 65, 65, 65], [67, 67, 67, 67, 67, 67, 67, 67], [65, 65, 65, 65, 67, 67, 67, 67]] = [[[65, 65, 65, 65, 65, 65, 65, 65], [65, 65, 65, 65, 67, 67, 67, 67]], [[67, 67, 67, 67, 67, 67, 67, 67]]] := by decide +kernel
theorem lit_nil (w : World) (L : List (List UInt8)) : RowsIn ((litB w L).alloc (.cells ((litR w.heap.size L).map eC ++ [Value.slice none 0 0]).toArray 34)) (.slice (some ⟨w.heap.size + L.length, 0, none⟩) (L.length + 1) (L.length + 1)) (litR w.heap.size L ++ [⟨none, 0, []⟩]) ∧ Below w.heap.size w ((litB w L).alloc (.cells ((litR w.heap.size L).map eC ++ [Value.slice none 0 0]).toArray 34)) := by
 obtain ⟨h1, h2, h3⟩ := lit_is L w
 have hal : Below (litB w L).heap.size (litB w L) ((litB w L).alloc (.cells ((litR w.heap.size L).map eC ++ [Value.slice none 0 0]).toArray 34)) := (Below.refl _ (litB w L)).alloc (Nat.le_refl _) _
 refine ⟨⟨⟨some ⟨w.heap.size + L.length, 0, none⟩, L.length + 1, by rw [List.length_append, litR_len]; rfl, by rw [List.length_append, litR_len]; exact Nat.le_refl _, fun _ => ⟨_, 0, rfl, by rw [World.size_alloc]; omega, fun j x hx => ?_⟩⟩, fun p hp => ?_⟩, h2.trans (hal.mono h2.size)⟩
 · rw [← h1, (Rowed.new (litB w L) 34 _).cell]
   have e : (litR w.heap.size L).map eC ++ [Value.slice none 0 0] = (litR w.heap.size L ++ [(⟨none, 0, []⟩ : RowC)]).map eC := by rw [List.map_append]; rfl
   rw [e]
   clear e
   generalize litR w.heap.size L ++ [(⟨none, 0, []⟩ : RowC)] = Rs at hx ⊢
   simp [hx]
 · rcases List.mem_append.1 hp with hp | hp
   · exact (h3 p hp).next hal
   · rw [List.mem_singleton.1 hp]; exact Sl.nil _ _ _
theorem All_lit (w : World) (hT : Tab w) : Calls Tryd.prog 18 #[.slice (some ⟨w.heap.size + 1 + 1 + 1, 0, none⟩) 4 4] ((litB w [[65, 67], [71, 84], [65, 78]]).alloc (.cells ((litR w.heap.size [[65, 67], [71, 84], [65, 78]]).map eC ++ [Value.slice none 0 0]).toArray 34)) fun e w' => ∃ A c c0, e = .returned (.slice A 1 c) ∧ CcB w.heap.size w' (.slice A 1 c) [c0] ∧ bsL c0.rows = [[65, 67], [65, 67]] ∧ Below w.heap.size w w' := by
 obtain ⟨hR, hB⟩ := lit_nil w [[65, 67], [71, 84], [65, 78]]
 refine (CAll_any _ _ ?_ ?_ _ hR (hT.below hB)).mono ?_
 · rw [List.length_append, litR_len]; decide
 · intro p hp
   have : p.bs ∈ bsL (litR w.heap.size [[65, 67], [71, 84], [65, 78]] ++ [⟨none, 0, []⟩]) := List.mem_map.2 ⟨p, hp, rfl⟩
   rw [show bsL (litR w.heap.size [[65, 67], [71, 84], [65, 78]] ++ [⟨none, 0, []⟩]) = [[65, 67], [71, 84], [65, 78], []] from by unfold bsL; rw [List.map_append]; rfl] at this
   simp at this
   rcases this with h | h | h | h <;> rw [h] <;> decide
 · rintro e w' ⟨u, cl, rfl, hC, ⟨M, hMp, hMr, hg2⟩, -, -, hB2⟩
   rw [rise_one (M' := [[65, 67], [65, 67]]) (hMp.trans (by rw [show bsL (litR w.heap.size [[65, 67], [71, 84], [65, 78]] ++ [⟨none, 0, []⟩]) = [[65, 67], [71, 84], [65, 78], []] from by unfold bsL; rw [List.map_append]; rfl, tu_lit])) hMr (by unfold RiseL; decide +kernel), grp_lit1] at hg2
   obtain ⟨c0, rfl, hc0⟩ : ∃ c0, cl = [c0] ∧ bsL c0.rows = [[65, 67], [65, 67]] := by
    match cl, hg2 with
    | [c0], h => exact ⟨c0, rfl, by simpa [bs3] using h⟩
    | [], h => simp [bs3] at h
    | _ :: _ :: _, h => simp [bs3] at h
   obtain ⟨A, c, e⟩ := (Sl.of_own hC.out).len
   subst e
   exact ⟨A, c, c0, rfl, hC.base hB.size, hc0, below_trans hB hB2⟩
theorem Group_lit (w : World) : Calls Tryd.prog 17 #[.slice (some ⟨w.heap.size + 1 + 1 + 1, 0, none⟩) 3 3] (litW w [[65, 65, 65, 65, 65, 65, 65, 65], [67, 67, 67, 67, 67, 67, 67, 67], [65, 65, 65, 65, 67, 67, 67, 67]]) fun e w' => ∃ A c c0 c1, e = .returned (.slice A 2 c) ∧ CcB w.heap.size w' (.slice A 2 c) [c0, c1] ∧ c0.rows.length = 2 ∧ c1.rows.length = 1 ∧ Below w.heap.size w w' := by
 obtain ⟨hR, hB⟩ := lit_rows w [[65, 65, 65, 65, 65, 65, 65, 65], [67, 67, 67, 67, 67, 67, 67, 67], [65, 65, 65, 65, 67, 67, 67, 67]]
 refine (CGroup_any _ _ ?_ ?_ _ hR).mono ?_
 · rw [litR_len]; decide
 · intro p hp
   have : p.bs ∈ bsL (litR w.heap.size [[65, 65, 65, 65, 65, 65, 65, 65], [67, 67, 67, 67, 67, 67, 67, 67], [65, 65, 65, 65, 67, 67, 67, 67]]) := List.mem_map.2 ⟨p, hp, rfl⟩
   rw [bsL_lit] at this
   simp at this
   rcases this with h | h | h <;> rw [h] <;> decide
 · rintro e w' ⟨u, cl, rfl, hC, hg, hB2⟩
   rw [bsL_lit, grp_lit2] at hg
   obtain ⟨c0, c1, rfl, hc0, hc1⟩ : ∃ c0 c1, cl = [c0, c1] ∧ c0.rows.length = 2 ∧ c1.rows.length = 1 := by
    match cl, hg with
    | [c0, c1], h =>
      simp only [bs3, List.map_cons, List.map_nil, List.cons.injEq, and_true] at h
      refine ⟨c0, c1, rfl, ?_, ?_⟩
      · have := congrArg List.length h.1; simpa [bsL] using this
      · have := congrArg List.length h.2; simpa [bsL] using this
    | [], h => simp [bs3] at h
    | [_], h => simp [bs3] at h
    | _ :: _ :: _ :: _, h => simp [bs3] at h
   obtain ⟨A, c, e⟩ := (Sl.of_own hC.out).len
   subst e
   exact ⟨A, c, c0, c1, rfl, hC.base hB.size, hc0, hc1, below_trans hB hB2⟩
theorem bsL_clR (rows : List RowC) : bsL (clR rows) = (bsL rows).filter fun b => cleanB b := by
 unfold bsL clR
 rw [List.filter_map]
 rfl
theorem cl_lit : (List.filter (fun b => cleanB b) [[78], [65]]) = [[65]] := by decide +kernel
theorem Clean_lit (w : World) (hT : Tab w) : Calls Tryd.prog 12 #[.slice (some ⟨w.heap.size + 1 + 1, 0, none⟩) 2 2] (litW w [[78], [65]]) fun e w' => ∃ A c, e = .returned (.slice A 1 c) ∧ Below w.heap.size w w' := by
 obtain ⟨hR, hB⟩ := lit_rows w [[78], [65]]
 refine (CClean_any _ _ ?_ ?_ _ hR (hT.below hB)).mono ?_
 · rw [litR_len]; decide
 · intro p hp
   have : p.bs ∈ bsL (litR w.heap.size [[78], [65]]) := List.mem_map.2 ⟨p, hp, rfl⟩
   rw [bsL_lit] at this
   simp at this
   rcases this with h | h <;> rw [h] <;> decide
 · rintro e w' ⟨u, vs, rfl, hC, hv, hB2⟩
   have hl : vs.length = 1 := by
    have h1 := congrArg List.length hv
    rw [bsL_clR, bsL_lit, cl_lit] at h1
    simpa [bsL] using h1
   obtain ⟨A, c, e⟩ := (Sl.of_own hC.1).len
   rw [hl] at e
   subst e
   exact ⟨A, c, rfl, below_trans hB hB2⟩
theorem Turned_nil (w : World) (hT : Tab w) : Calls Tryd.prog 14 #[.slice none 0 0] w fun e w' => ∃ A c, e = .returned (.slice A 0 c) ∧ Below w.heap.size w w' := by
 refine (CTurned_any (.slice none 0 0) [] (by decide) (fun p hp => by cases hp) w ⟨Sl.nil _ _ _, fun p hp => by cases hp⟩ hT).mono ?_
 rintro e w' ⟨u, rows', rfl, hR, hp, -, hB⟩
 have hl : rows' = [] := by
  have := hp.length_eq
  simpa [tuL, bsL] using this
 subst hl
 obtain ⟨A, c, e, -⟩ := hR.some
 subst e
 exact ⟨A, c, rfl, hB⟩
theorem sizes_two {c0 c1 : ClC} (h0 : c0.rows.length = 2) (h1 : c1.rows.length = 1) : cellsI (cntF [c0, c1] [c0, c1].length) [c0, c1].length = #[.int .i64 2, .int .i64 1] := by
 have e : List.range 2 = [0, 1] := rfl
 unfold cellsI
 rw [show [c0, c1].length = 2 from rfl, e]
 simp [cntF, h0, h1, eI]
set_option maxRecDepth 100000 in
set_option maxHeartbeats 2000000 in
theorem wakes_any (w : World) (hT : Tab w) : Calls Tryd.prog 9 #[] w fun e w' => e = .returned (.bool true) ∧ Below w.heap.size w w' := by
 have kc := fun (w : World) (C : Array Value) (n c : Nat) => Lib.run_convert_bytes_const (P := Tryd.prog) w 34 5 C n c Tryd.underlying34 Tryd.underlying5
 have kc1 := fun (w : World) (o : Obj) (C : Array Value) (n c : Nat) => Go.Joins.run_convert_bytes_const_at (P := Tryd.prog) (w.alloc o) 34 5 C n c (w.heap.size + 1) (by simp) Tryd.underlying34 Tryd.underlying5
 have kc2 := fun (w : World) (o o' : Obj) (C : Array Value) (n c : Nat) => Go.Joins.run_convert_bytes_const_at (P := Tryd.prog) ((w.alloc o).alloc o') 34 5 C n c (w.heap.size + 1 + 1) (by simp) Tryd.underlying34 Tryd.underlying5
 have hA := All_lit w hT
 go_enter Tryd.func9, Tryd.ntmps9
 go_wp2_with fail
 go_at_call 18
 refine hA.mono ?_
 rintro e w1 ⟨A1, ca1, c0, rfl, hC1, hc0, hB⟩
 have hT1 := hT.below hB
 clear hA
 go_wp2_with fail
 go_at_call 17
 refine (Group_lit w1).mono ?_
 rintro e w2 ⟨A2, ca2, d0, d1, rfl, hC2, hd0, hd1, hB2⟩
 have hT2 := hT1.below hB2
 have hC1 := hC1.bel hB2
 have hB := below_trans hB hB2
 have hS := CSizes_any (.slice A2 2 ca2) [d0, d1] (by simp) (fun c hc => by simp at hc; rcases hc with rfl | rfl <;> omega) w2 hC2.r3.1
 rw [sizes_two hd0 hd1] at hS
 clear hd0 hd1 hC2 hB2
 go_wp2_with fail
 go_at_call 21
 refine hS.mono ?_
 rintro e w3 ⟨rfl, hRw, hB3⟩
 have hT3 := hT2.below hB3
 have hC1 := hC1.bel hB3
 have hB := below_trans hB hB3
 obtain ⟨A9, c9, e9, hcl9⟩ := hC1.r3.some
 obtain ⟨rfl, rfl⟩ : A1 = A9 ∧ ca1 = c9 := by injection e9 with e1 e2 e3; exact ⟨e1, e3⟩
 obtain ⟨b, off, rfl, hb, hcc⟩ := hcl9 (by simp)
 have hc0c : w3.cell? ⟨b, off, none⟩ = some (eCC c0) := hcc 0 (by simp)
 have s0 := hRw.cell 0
 have s1 := hRw.cell 1
 change _ = some (Value.int .i64 2) at s0
 change _ = some (Value.int .i64 1) at s1
 have HR := Lib.hid (show ∀ W (hb : Below w3.heap.size w3 W), RowsIn W (eCC c0) c0.rows from fun W hb => (hC1.row (by simp)).next hb)
 have hl0 : c0.rows.length = 2 := by have := congrArg List.length hc0; simpa [bsL] using this
 have hlit : ∀ W : World, Below w3.heap.size w3 W → Calls Tryd.prog 11 #[eCC c0, .slice (some ⟨W.heap.size + 1 + 1, 0, none⟩) 2 2] (litW W [[65, 67], [65, 67]]) fun e w' => e = .returned (.bool true) ∧ ∃ n, w' = (litW W [[65, 67], [65, 67]]).drewN n := fun W hb => by
  obtain ⟨hR, hB⟩ := lit_rows W [[65, 67], [65, 67]]
  exact RRows_true _ _ c0.rows (litR W.heap.size [[65, 67], [65, 67]]) _ (HR.out _ (hb.trans (hB.mono hb.size))) hR (by show bsL _ = bsL _; rw [hc0, bsL_lit]) (by omega)
 have hl := hlit w3 (Below.refl _ _)
 have hlb := (lit_rows w3 [[65, 67], [65, 67]]).2
 clear hlit HR hcc hcl9 e9 hS hRw hC1
 unfold eCC at hc0c hl
 rw [hl0] at hl
 go_wp2_with fail
 go_at_call 11
 refine hl.mono ?_
 rintro e w4 ⟨rfl, nd, hw4⟩
 have hB4 : Below w3.heap.size w3 w4 := by rw [hw4]; exact hlb.trans (below_drewN' _ _ _)
 have s0 := (hB4.cell (p := ⟨w2.heap.size, 0, none⟩) (World.block_lt_of_cell? _ _ s0)).trans s0
 have s1 := (hB4.cell (p := ⟨w2.heap.size, 1, none⟩) (World.block_lt_of_cell? _ _ s1)).trans s1
 have hT4 := hT3.below hB4
 have hB := below_trans hB hB4
 have hCl := Clean_lit w4 hT4
 clear hl hlb hw4 hc0c hB4
 go_wp2_with fail
 go_at_call 12
 refine hCl.mono ?_
 rintro e w5 ⟨A5, c5, rfl, hB5⟩
 have hT5 := hT4.below hB5
 have hB := below_trans hB hB5
 clear hCl s0 s1 hB5
 go_wp2_with fail
 go_at_call 14
 refine (Turned_nil w5 hT5).mono ?_
 rintro e w6 ⟨A6, c6, rfl, hB6⟩
 have hB := below_trans hB hB6
 go_wp2_with fail
 go_ret
 exact ⟨rfl, hB⟩
end Go.Proofs.YtgblkcddhnigaaaDoor
