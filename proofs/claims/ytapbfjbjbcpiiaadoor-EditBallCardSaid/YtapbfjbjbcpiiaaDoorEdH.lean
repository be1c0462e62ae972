/- Contract of the closure of edit.Apply that puts a letter in, of no word. -/
import Derived.Test.YtapbfjbjbcpiiaaDoorEdF
namespace Go.Proofs.YtapbfjbjbcpiiaaDoor
open Go.RowKit Go.Shelf
attribute [local go_sem] Oper.semAt_some run_store_func

set_option maxRecDepth 100000 in
set_option maxHeartbeats 4000000 in
theorem deed_moreE (y : UInt8) (A : Option Addr) (c : Nat) (gx ga ge : Nat) (w : World) (hgx : w.cell? ⟨gx, 0, none⟩ = some (.slice A 0 c)) (hga : w.cell? ⟨ga, 0, none⟩ = some (.int .i64 0)) (hge : w.cell? ⟨ge, 2, none⟩ = some (eB y)) :
    Calls Tryd.prog 40 #[.pointer (some ⟨gx, 0, none⟩), .pointer (some ⟨ga, 0, none⟩), .pointer (some ⟨ge, 0, none⟩)] w fun e w' => ∃ u, e = .returned u ∧ Own8 w.heap.size w' u [y] ∧ Below w.heap.size w w' := by
  have lx := World.block_lt_of_cell? w _ hgx
  have la := World.block_lt_of_cell? w _ hga
  have le := World.block_lt_of_cell? w _ hge
  have hE : ∀ (B : Nat) (W : World) (A' : Option Addr) (c' : Nat), Sl eB B W (.slice A' 0 c') [] := fun B W A' c' => ⟨A', c', rfl, Nat.zero_le _, fun h => absurd h (by simp)⟩
  have hb0 : Below w.heap.size w w.drew := ⟨rfl, rfl, rfl, Nat.le_refl _, fun _ _ => rfl⟩
  have hb1 := below_trans hb0 (below_alloc w.drew (.cells #[eB y] 5))
  have hbR : ∀ w' g, (fun w' u => Own8 w.heap.size w' u [y] ∧ Below w.heap.size w w') w' g → Below w.heap.size w w' := fun _ _ h => h.2
  have n0 : (0 : Int) ≤ (c : Int) := by omega
  cases A with
  | none =>
    have hb2 := below_trans hb1 (below_alloc (w.drew.alloc (.cells #[eB y] 5)) (.cells #[.slice none 0 c, .slice (some ⟨w.heap.size, 0, none⟩) 1 1, (.slice none 0 c)] 25))
    have hrw : Rowed ((w.drew.alloc (.cells #[eB y] 5)).alloc (.cells #[.slice none 0 c, .slice (some ⟨w.heap.size, 0, none⟩) 1 1, (.slice none 0 c)] 25)) (w.heap.size + 1) 25 #[.slice none 0 c, .slice (some ⟨w.heap.size, 0, none⟩) 1 1, (.slice none 0 c)] := by
      have h := Rowed.new (w.drew.alloc (.cells #[eB y] 5)) 25 #[.slice none 0 c, .slice (some ⟨w.heap.size, 0, none⟩) 1 1, (.slice none 0 c)]
      rw [World.size_alloc] at h
      exact h
    have hC := Concat3_any (w.heap.size + 1) _ _ _ _ _ _ [] [y] [] (by simp) (by simp) (by simp) ((w.drew.alloc (.cells #[eB y] 5)).alloc (.cells #[.slice none 0 c, .slice (some ⟨w.heap.size, 0, none⟩) 1 1, (.slice none 0 c)] 25)) (hrw.cell 0) (hrw.cell 1) (hrw.cell 2) (hE _ _ _ _) ((one_sl1 (w.drew.alloc (.cells #[eB y] 5)) w.heap.size y ((Rowed.new w.drew 5 #[eB y]).cell 0)).next (below_alloc (w.drew.alloc (.cells #[eB y] 5)) _)) (hE _ _ _ _) (by simp)
    rw [List.nil_append, List.append_nil] at hC
    go_enter Tryd.func40, Tryd.ntmps40
    go_upto_region 1 with fail
    refine wp_region_ghost (BlkS 5 9 10 11 w.drew (w.drew.alloc (.cells #[eB y] 5)) ((w.drew.alloc (.cells #[eB y] 5)).alloc (.cells #[.slice none 0 c, .slice (some ⟨w.heap.size, 0, none⟩) 1 1, (.slice none 0 c)] 25)) (fun w' u => Own8 w.heap.size w' u [y] ∧ Below w.heap.size w w')) (fun g => [(4, .slice none 0 c), (5, .int .i64 0), (6, .slice none 0 c), (7, .pointer (some ⟨ge, 2, none⟩)), (8, .int .u8 (y.toNat : Int)), (9, .slice (some ⟨w.heap.size, 0, none⟩) 1 1), (10, .slice none 0 c), (11, .int .i64 0), (12, (.slice none 0 c)), (13, .slice (some ⟨w.heap.size + 1, 0, none⟩) 3 3), (14, g.1), (3, g.2)]) (undef, undef)
      (by kernel_rfl) (by kernel_rfl) (by kernel_rfl) (by kernel_rfl) (fun _ => by kernel_rfl) ?startA ?okA ?finA
    case startA => exact fun D hD => BlkS.start (hD _ (by decide)) (hD _ (by decide)) (hD _ (by decide)) (hD _ (by decide))
    case okA =>
      intro T hT'
      simp only [putAll, Act.put, List.setIfInBounds_toArray, List.set_cons_zero, List.set_cons_succ] at hT'
      simp only [ghAll]
      refine ⟨?_, ?_, ?_, ?_, ?_, ?_, ?_, ?_, ?_, ?_, ?_, ?_, trivial⟩
      · refine gb_op rfl fun D g w' hS => ?_
        have hBw := hS.below hb0 hb1 hb2 hbR
        have q1 := (hBw.cell (p := ⟨gx, 0, none⟩) lx).trans hgx
        have q2 := (hBw.cell (p := ⟨ga, 0, none⟩) la).trans hga
        have q3 := (hBw.cell (p := ⟨ge, 2, none⟩) le).trans hge
        rw [hT' g]
        clear hT' hS hBw
        go_simp
      · refine gb_op rfl fun D g w' hS => ?_
        have hBw := hS.below hb0 hb1 hb2 hbR
        have q1 := (hBw.cell (p := ⟨gx, 0, none⟩) lx).trans hgx
        have q2 := (hBw.cell (p := ⟨ga, 0, none⟩) la).trans hga
        have q3 := (hBw.cell (p := ⟨ge, 2, none⟩) le).trans hge
        rw [hT' g]
        clear hT' hS hBw
        go_simp
      · refine gb_op rfl fun D g w' hS => ?_
        have hBw := hS.below hb0 hb1 hb2 hbR
        have q1 := (hBw.cell (p := ⟨gx, 0, none⟩) lx).trans hgx
        have q2 := (hBw.cell (p := ⟨ga, 0, none⟩) la).trans hga
        have q3 := (hBw.cell (p := ⟨ge, 2, none⟩) le).trans hge
        rw [hT' g]
        clear hT' hS hBw
        go_simp
      · refine gb_op rfl fun D g w' hS => ?_
        have hBw := hS.below hb0 hb1 hb2 hbR
        have q1 := (hBw.cell (p := ⟨gx, 0, none⟩) lx).trans hgx
        have q2 := (hBw.cell (p := ⟨ga, 0, none⟩) la).trans hga
        have q3 := (hBw.cell (p := ⟨ge, 2, none⟩) le).trans hge
        rw [hT' g]
        clear hT' hS hBw
        go_simp
      · refine gb_op rfl fun D g w' hS => ?_
        have hBw := hS.below hb0 hb1 hb2 hbR
        have q1 := (hBw.cell (p := ⟨gx, 0, none⟩) lx).trans hgx
        have q2 := (hBw.cell (p := ⟨ga, 0, none⟩) la).trans hga
        have q3 := (hBw.cell (p := ⟨ge, 2, none⟩) le).trans hge
        rw [hT' g]
        clear hT' hS hBw
        go_simp
      · refine gb_first rfl (by decide) (by decide) (by decide) (fun g => by rw [hT' g]; rfl) (fun g => ?_)
        rw [hT' g]
        clear hT'
        unfold Oper.wp
        go_simp
      · refine gb_op rfl fun D g w' hS => ?_
        have hBw := hS.below hb0 hb1 hb2 hbR
        have q1 := (hBw.cell (p := ⟨gx, 0, none⟩) lx).trans hgx
        have q2 := (hBw.cell (p := ⟨ga, 0, none⟩) la).trans hga
        have q3 := (hBw.cell (p := ⟨ge, 2, none⟩) le).trans hge
        rw [hT' g]
        clear hT' hS hBw
        go_simp
      · refine gb_op rfl fun D g w' hS => ?_
        have hBw := hS.below hb0 hb1 hb2 hbR
        have q1 := (hBw.cell (p := ⟨gx, 0, none⟩) lx).trans hgx
        have q2 := (hBw.cell (p := ⟨ga, 0, none⟩) la).trans hga
        have q3 := (hBw.cell (p := ⟨ge, 2, none⟩) le).trans hge
        rw [hT' g]
        clear hT' hS hBw
        go_simp
      · refine gb_op rfl fun D g w' hS => ?_
        have hBw := hS.below hb0 hb1 hb2 hbR
        have q1 := (hBw.cell (p := ⟨gx, 0, none⟩) lx).trans hgx
        have q2 := (hBw.cell (p := ⟨ga, 0, none⟩) la).trans hga
        have q3 := (hBw.cell (p := ⟨ge, 2, none⟩) le).trans hge
        rw [hT' g]
        clear hT' hS hBw
        go_simp
      · refine gb_second rfl (by decide) (by decide) (by decide) (fun g => by rw [hT' g]; rfl) (by kernel_rfl) (fun g => ?_)
        rw [hT' g]
        clear hT'
        unfold Oper.wp
        go_simp
      · refine gb_call rfl rfl (by decide) (by decide) (by decide) rfl (fun g v => by rw [hT', hT']; rfl) (fun g => by rw [hT' g]; rfl) (by kernel_rfl) (fun g => ?_)
        rw [hT' g]
        clear hT'
        unfold Oper.wp
        go_simp
        refine hC.mono ?_
        rintro e w3 ⟨v, rfl, hv, hB⟩
        exact ⟨own_mono8 hv hb2.size, below_trans hb2 hB⟩
      · refine gb_last rfl rfl (by decide) (by decide) (by decide) rfl (fun g => by rw [hT', hT']; rfl) (fun g => by rw [hT' g]; rfl) (by kernel_rfl) (fun g w' => ?_)
        rw [hT' g]
        clear hT'
        unfold Oper.wp
        go_simp
    case finA =>
      intro T hT' D g WF hall hS
      have hTg := hT' g
      simp only [putAll, Act.put, List.setIfInBounds_toArray, List.set_cons_zero, List.set_cons_succ] at hTg
      obtain ⟨ho, hB⟩ := hS.2.2.2.1 (hall 10 (by decide))
      have hg := hS.1.2 (hall 11 (by decide))
      obtain ⟨g, gg⟩ := g
      simp only at hg
      subst hg
      rw [hTg]
      clear hT' hTg hall hS
      go_wp2_with fail
      go_ret
      exact ⟨_, rfl, ho, hB⟩
  | some ad =>
    by_cases hc : c = 0
    · subst hc
      have hb2 := below_trans hb1 (below_alloc (w.drew.alloc (.cells #[eB y] 5)) (.cells #[.slice (some ad) 0 0, .slice (some ⟨w.heap.size, 0, none⟩) 1 1, (.slice (some ad) 0 0)] 25))
      have hrw : Rowed ((w.drew.alloc (.cells #[eB y] 5)).alloc (.cells #[.slice (some ad) 0 0, .slice (some ⟨w.heap.size, 0, none⟩) 1 1, (.slice (some ad) 0 0)] 25)) (w.heap.size + 1) 25 #[.slice (some ad) 0 0, .slice (some ⟨w.heap.size, 0, none⟩) 1 1, (.slice (some ad) 0 0)] := by
        have h := Rowed.new (w.drew.alloc (.cells #[eB y] 5)) 25 #[.slice (some ad) 0 0, .slice (some ⟨w.heap.size, 0, none⟩) 1 1, (.slice (some ad) 0 0)]
        rw [World.size_alloc] at h
        exact h
      have hC := Concat3_any (w.heap.size + 1) _ _ _ _ _ _ [] [y] [] (by simp) (by simp) (by simp) ((w.drew.alloc (.cells #[eB y] 5)).alloc (.cells #[.slice (some ad) 0 0, .slice (some ⟨w.heap.size, 0, none⟩) 1 1, (.slice (some ad) 0 0)] 25)) (hrw.cell 0) (hrw.cell 1) (hrw.cell 2) (hE _ _ _ _) ((one_sl1 (w.drew.alloc (.cells #[eB y] 5)) w.heap.size y ((Rowed.new w.drew 5 #[eB y]).cell 0)).next (below_alloc (w.drew.alloc (.cells #[eB y] 5)) _)) (hE _ _ _ _) (by simp)
      rw [List.nil_append, List.append_nil] at hC
      go_enter Tryd.func40, Tryd.ntmps40
      go_upto_region 1 with fail
      refine wp_region_ghost (BlkS 5 9 10 11 w.drew (w.drew.alloc (.cells #[eB y] 5)) ((w.drew.alloc (.cells #[eB y] 5)).alloc (.cells #[.slice (some ad) 0 0, .slice (some ⟨w.heap.size, 0, none⟩) 1 1, (.slice (some ad) 0 0)] 25)) (fun w' u => Own8 w.heap.size w' u [y] ∧ Below w.heap.size w w')) (fun g => [(4, .slice (some ad) 0 0), (5, .int .i64 0), (6, .slice (some ad) 0 0), (7, .pointer (some ⟨ge, 2, none⟩)), (8, .int .u8 (y.toNat : Int)), (9, .slice (some ⟨w.heap.size, 0, none⟩) 1 1), (10, .slice (some ad) 0 0), (11, .int .i64 0), (12, (.slice (some ad) 0 0)), (13, .slice (some ⟨w.heap.size + 1, 0, none⟩) 3 3), (14, g.1), (3, g.2)]) (undef, undef)
        (by kernel_rfl) (by kernel_rfl) (by kernel_rfl) (by kernel_rfl) (fun _ => by kernel_rfl) ?startA ?okA ?finA
      case startA => exact fun D hD => BlkS.start (hD _ (by decide)) (hD _ (by decide)) (hD _ (by decide)) (hD _ (by decide))
      case okA =>
        intro T hT'
        simp only [putAll, Act.put, List.setIfInBounds_toArray, List.set_cons_zero, List.set_cons_succ] at hT'
        simp only [ghAll]
        refine ⟨?_, ?_, ?_, ?_, ?_, ?_, ?_, ?_, ?_, ?_, ?_, ?_, trivial⟩
        · refine gb_op rfl fun D g w' hS => ?_
          have hBw := hS.below hb0 hb1 hb2 hbR
          have q1 := (hBw.cell (p := ⟨gx, 0, none⟩) lx).trans hgx
          have q2 := (hBw.cell (p := ⟨ga, 0, none⟩) la).trans hga
          have q3 := (hBw.cell (p := ⟨ge, 2, none⟩) le).trans hge
          rw [hT' g]
          clear hT' hS hBw
          go_simp
        · refine gb_op rfl fun D g w' hS => ?_
          have hBw := hS.below hb0 hb1 hb2 hbR
          have q1 := (hBw.cell (p := ⟨gx, 0, none⟩) lx).trans hgx
          have q2 := (hBw.cell (p := ⟨ga, 0, none⟩) la).trans hga
          have q3 := (hBw.cell (p := ⟨ge, 2, none⟩) le).trans hge
          rw [hT' g]
          clear hT' hS hBw
          go_simp
        · refine gb_op rfl fun D g w' hS => ?_
          have hBw := hS.below hb0 hb1 hb2 hbR
          have q1 := (hBw.cell (p := ⟨gx, 0, none⟩) lx).trans hgx
          have q2 := (hBw.cell (p := ⟨ga, 0, none⟩) la).trans hga
          have q3 := (hBw.cell (p := ⟨ge, 2, none⟩) le).trans hge
          rw [hT' g]
          clear hT' hS hBw
          go_simp
        · refine gb_op rfl fun D g w' hS => ?_
          have hBw := hS.below hb0 hb1 hb2 hbR
          have q1 := (hBw.cell (p := ⟨gx, 0, none⟩) lx).trans hgx
          have q2 := (hBw.cell (p := ⟨ga, 0, none⟩) la).trans hga
          have q3 := (hBw.cell (p := ⟨ge, 2, none⟩) le).trans hge
          rw [hT' g]
          clear hT' hS hBw
          go_simp
        · refine gb_op rfl fun D g w' hS => ?_
          have hBw := hS.below hb0 hb1 hb2 hbR
          have q1 := (hBw.cell (p := ⟨gx, 0, none⟩) lx).trans hgx
          have q2 := (hBw.cell (p := ⟨ga, 0, none⟩) la).trans hga
          have q3 := (hBw.cell (p := ⟨ge, 2, none⟩) le).trans hge
          rw [hT' g]
          clear hT' hS hBw
          go_simp
        · refine gb_first rfl (by decide) (by decide) (by decide) (fun g => by rw [hT' g]; rfl) (fun g => ?_)
          rw [hT' g]
          clear hT'
          unfold Oper.wp
          go_simp
        · refine gb_op rfl fun D g w' hS => ?_
          have hBw := hS.below hb0 hb1 hb2 hbR
          have q1 := (hBw.cell (p := ⟨gx, 0, none⟩) lx).trans hgx
          have q2 := (hBw.cell (p := ⟨ga, 0, none⟩) la).trans hga
          have q3 := (hBw.cell (p := ⟨ge, 2, none⟩) le).trans hge
          rw [hT' g]
          clear hT' hS hBw
          go_simp
        · refine gb_op rfl fun D g w' hS => ?_
          have hBw := hS.below hb0 hb1 hb2 hbR
          have q1 := (hBw.cell (p := ⟨gx, 0, none⟩) lx).trans hgx
          have q2 := (hBw.cell (p := ⟨ga, 0, none⟩) la).trans hga
          have q3 := (hBw.cell (p := ⟨ge, 2, none⟩) le).trans hge
          rw [hT' g]
          clear hT' hS hBw
          go_simp
        · refine gb_op rfl fun D g w' hS => ?_
          have hBw := hS.below hb0 hb1 hb2 hbR
          have q1 := (hBw.cell (p := ⟨gx, 0, none⟩) lx).trans hgx
          have q2 := (hBw.cell (p := ⟨ga, 0, none⟩) la).trans hga
          have q3 := (hBw.cell (p := ⟨ge, 2, none⟩) le).trans hge
          rw [hT' g]
          clear hT' hS hBw
          go_simp
        · refine gb_second rfl (by decide) (by decide) (by decide) (fun g => by rw [hT' g]; rfl) (by kernel_rfl) (fun g => ?_)
          rw [hT' g]
          clear hT'
          unfold Oper.wp
          go_simp
        · refine gb_call rfl rfl (by decide) (by decide) (by decide) rfl (fun g v => by rw [hT', hT']; rfl) (fun g => by rw [hT' g]; rfl) (by kernel_rfl) (fun g => ?_)
          rw [hT' g]
          clear hT'
          unfold Oper.wp
          go_simp
          refine hC.mono ?_
          rintro e w3 ⟨v, rfl, hv, hB⟩
          exact ⟨own_mono8 hv hb2.size, below_trans hb2 hB⟩
        · refine gb_last rfl rfl (by decide) (by decide) (by decide) rfl (fun g => by rw [hT', hT']; rfl) (fun g => by rw [hT' g]; rfl) (by kernel_rfl) (fun g w' => ?_)
          rw [hT' g]
          clear hT'
          unfold Oper.wp
          go_simp
      case finA =>
        intro T hT' D g WF hall hS
        have hTg := hT' g
        simp only [putAll, Act.put, List.setIfInBounds_toArray, List.set_cons_zero, List.set_cons_succ] at hTg
        obtain ⟨ho, hB⟩ := hS.2.2.2.1 (hall 10 (by decide))
        have hg := hS.1.2 (hall 11 (by decide))
        obtain ⟨g, gg⟩ := g
        simp only at hg
        subst hg
        rw [hTg]
        clear hT' hTg hall hS
        go_wp2_with fail
        go_ret
        exact ⟨_, rfl, ho, hB⟩
    · have hc0 : ¬ (0 : Nat) = c := fun e => hc e.symm
      have hb2 := below_trans hb1 (below_alloc (w.drew.alloc (.cells #[eB y] 5)) (.cells #[.slice (some ad) 0 c, .slice (some ⟨w.heap.size, 0, none⟩) 1 1, (.slice (some (ad.add 0)) 0 c)] 25))
      have hrw : Rowed ((w.drew.alloc (.cells #[eB y] 5)).alloc (.cells #[.slice (some ad) 0 c, .slice (some ⟨w.heap.size, 0, none⟩) 1 1, (.slice (some (ad.add 0)) 0 c)] 25)) (w.heap.size + 1) 25 #[.slice (some ad) 0 c, .slice (some ⟨w.heap.size, 0, none⟩) 1 1, (.slice (some (ad.add 0)) 0 c)] := by
        have h := Rowed.new (w.drew.alloc (.cells #[eB y] 5)) 25 #[.slice (some ad) 0 c, .slice (some ⟨w.heap.size, 0, none⟩) 1 1, (.slice (some (ad.add 0)) 0 c)]
        rw [World.size_alloc] at h
        exact h
      have hC := Concat3_any (w.heap.size + 1) _ _ _ _ _ _ [] [y] [] (by simp) (by simp) (by simp) ((w.drew.alloc (.cells #[eB y] 5)).alloc (.cells #[.slice (some ad) 0 c, .slice (some ⟨w.heap.size, 0, none⟩) 1 1, (.slice (some (ad.add 0)) 0 c)] 25)) (hrw.cell 0) (hrw.cell 1) (hrw.cell 2) (hE _ _ _ _) ((one_sl1 (w.drew.alloc (.cells #[eB y] 5)) w.heap.size y ((Rowed.new w.drew 5 #[eB y]).cell 0)).next (below_alloc (w.drew.alloc (.cells #[eB y] 5)) _)) (hE _ _ _ _) (by simp)
      rw [List.nil_append, List.append_nil] at hC
      go_enter Tryd.func40, Tryd.ntmps40
      go_upto_region 1 with fail
      refine wp_region_ghost (BlkS 5 9 10 11 w.drew (w.drew.alloc (.cells #[eB y] 5)) ((w.drew.alloc (.cells #[eB y] 5)).alloc (.cells #[.slice (some ad) 0 c, .slice (some ⟨w.heap.size, 0, none⟩) 1 1, (.slice (some (ad.add 0)) 0 c)] 25)) (fun w' u => Own8 w.heap.size w' u [y] ∧ Below w.heap.size w w')) (fun g => [(4, .slice (some ad) 0 c), (5, .int .i64 0), (6, .slice (some ad) 0 c), (7, .pointer (some ⟨ge, 2, none⟩)), (8, .int .u8 (y.toNat : Int)), (9, .slice (some ⟨w.heap.size, 0, none⟩) 1 1), (10, .slice (some ad) 0 c), (11, .int .i64 0), (12, (.slice (some (ad.add 0)) 0 c)), (13, .slice (some ⟨w.heap.size + 1, 0, none⟩) 3 3), (14, g.1), (3, g.2)]) (undef, undef)
        (by kernel_rfl) (by kernel_rfl) (by kernel_rfl) (by kernel_rfl) (fun _ => by kernel_rfl) ?startA ?okA ?finA
      case startA => exact fun D hD => BlkS.start (hD _ (by decide)) (hD _ (by decide)) (hD _ (by decide)) (hD _ (by decide))
      case okA =>
        intro T hT'
        simp only [putAll, Act.put, List.setIfInBounds_toArray, List.set_cons_zero, List.set_cons_succ] at hT'
        simp only [ghAll]
        refine ⟨?_, ?_, ?_, ?_, ?_, ?_, ?_, ?_, ?_, ?_, ?_, ?_, trivial⟩
        · refine gb_op rfl fun D g w' hS => ?_
          have hBw := hS.below hb0 hb1 hb2 hbR
          have q1 := (hBw.cell (p := ⟨gx, 0, none⟩) lx).trans hgx
          have q2 := (hBw.cell (p := ⟨ga, 0, none⟩) la).trans hga
          have q3 := (hBw.cell (p := ⟨ge, 2, none⟩) le).trans hge
          rw [hT' g]
          clear hT' hS hBw
          go_simp
        · refine gb_op rfl fun D g w' hS => ?_
          have hBw := hS.below hb0 hb1 hb2 hbR
          have q1 := (hBw.cell (p := ⟨gx, 0, none⟩) lx).trans hgx
          have q2 := (hBw.cell (p := ⟨ga, 0, none⟩) la).trans hga
          have q3 := (hBw.cell (p := ⟨ge, 2, none⟩) le).trans hge
          rw [hT' g]
          clear hT' hS hBw
          go_simp
        · refine gb_op rfl fun D g w' hS => ?_
          have hBw := hS.below hb0 hb1 hb2 hbR
          have q1 := (hBw.cell (p := ⟨gx, 0, none⟩) lx).trans hgx
          have q2 := (hBw.cell (p := ⟨ga, 0, none⟩) la).trans hga
          have q3 := (hBw.cell (p := ⟨ge, 2, none⟩) le).trans hge
          rw [hT' g]
          clear hT' hS hBw
          go_simp
        · refine gb_op rfl fun D g w' hS => ?_
          have hBw := hS.below hb0 hb1 hb2 hbR
          have q1 := (hBw.cell (p := ⟨gx, 0, none⟩) lx).trans hgx
          have q2 := (hBw.cell (p := ⟨ga, 0, none⟩) la).trans hga
          have q3 := (hBw.cell (p := ⟨ge, 2, none⟩) le).trans hge
          rw [hT' g]
          clear hT' hS hBw
          go_simp
        · refine gb_op rfl fun D g w' hS => ?_
          have hBw := hS.below hb0 hb1 hb2 hbR
          have q1 := (hBw.cell (p := ⟨gx, 0, none⟩) lx).trans hgx
          have q2 := (hBw.cell (p := ⟨ga, 0, none⟩) la).trans hga
          have q3 := (hBw.cell (p := ⟨ge, 2, none⟩) le).trans hge
          rw [hT' g]
          clear hT' hS hBw
          go_simp
        · refine gb_first rfl (by decide) (by decide) (by decide) (fun g => by rw [hT' g]; rfl) (fun g => ?_)
          rw [hT' g]
          clear hT'
          unfold Oper.wp
          go_simp
        · refine gb_op rfl fun D g w' hS => ?_
          have hBw := hS.below hb0 hb1 hb2 hbR
          have q1 := (hBw.cell (p := ⟨gx, 0, none⟩) lx).trans hgx
          have q2 := (hBw.cell (p := ⟨ga, 0, none⟩) la).trans hga
          have q3 := (hBw.cell (p := ⟨ge, 2, none⟩) le).trans hge
          rw [hT' g]
          clear hT' hS hBw
          go_simp
        · refine gb_op rfl fun D g w' hS => ?_
          have hBw := hS.below hb0 hb1 hb2 hbR
          have q1 := (hBw.cell (p := ⟨gx, 0, none⟩) lx).trans hgx
          have q2 := (hBw.cell (p := ⟨ga, 0, none⟩) la).trans hga
          have q3 := (hBw.cell (p := ⟨ge, 2, none⟩) le).trans hge
          rw [hT' g]
          clear hT' hS hBw
          go_simp
        · refine gb_op rfl fun D g w' hS => ?_
          have hBw := hS.below hb0 hb1 hb2 hbR
          have q1 := (hBw.cell (p := ⟨gx, 0, none⟩) lx).trans hgx
          have q2 := (hBw.cell (p := ⟨ga, 0, none⟩) la).trans hga
          have q3 := (hBw.cell (p := ⟨ge, 2, none⟩) le).trans hge
          rw [hT' g]
          clear hT' hS hBw
          go_simp
        · refine gb_second rfl (by decide) (by decide) (by decide) (fun g => by rw [hT' g]; rfl) (by kernel_rfl) (fun g => ?_)
          rw [hT' g]
          clear hT'
          unfold Oper.wp
          go_simp
        · refine gb_call rfl rfl (by decide) (by decide) (by decide) rfl (fun g v => by rw [hT', hT']; rfl) (fun g => by rw [hT' g]; rfl) (by kernel_rfl) (fun g => ?_)
          rw [hT' g]
          clear hT'
          unfold Oper.wp
          go_simp
          refine hC.mono ?_
          rintro e w3 ⟨v, rfl, hv, hB⟩
          exact ⟨own_mono8 hv hb2.size, below_trans hb2 hB⟩
        · refine gb_last rfl rfl (by decide) (by decide) (by decide) rfl (fun g => by rw [hT', hT']; rfl) (fun g => by rw [hT' g]; rfl) (by kernel_rfl) (fun g w' => ?_)
          rw [hT' g]
          clear hT'
          unfold Oper.wp
          go_simp
      case finA =>
        intro T hT' D g WF hall hS
        have hTg := hT' g
        simp only [putAll, Act.put, List.setIfInBounds_toArray, List.set_cons_zero, List.set_cons_succ] at hTg
        obtain ⟨ho, hB⟩ := hS.2.2.2.1 (hall 10 (by decide))
        have hg := hS.1.2 (hall 11 (by decide))
        obtain ⟨g, gg⟩ := g
        simp only at hg
        subst hg
        rw [hTg]
        clear hT' hTg hall hS
        go_wp2_with fail
        go_ret
        exact ⟨_, rfl, ho, hB⟩
end Go.Proofs.YtapbfjbjbcpiiaaDoor
