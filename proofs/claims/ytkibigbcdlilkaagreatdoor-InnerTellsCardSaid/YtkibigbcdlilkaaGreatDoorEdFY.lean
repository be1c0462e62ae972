import Derived.Test.YtkibigbcdlilkaaGreatDoorEdCY
import Derived.Test.YtkibigbcdlilkaaGreatDoorEdDY
import Derived.Test.YtkibigbcdlilkaaGreatDoorGBY
namespace Go.Proofs.YtkibigbcdlilkaaGreatDoor.Ed
open Go.RowKit Go.Shelf
attribute [local go_sem] Oper.semAt_some run_store_func
theorem erest_any (z : Int) (L p : Nat) (h0 : 0 < L) (hat : (wrap64 (z.tmod (L : Int) + (L : Int))).tmod (L : Int) = (p : Int)) (w : World) :
    Calls Tryz.prog 49 #[.int .i64 z, .int .i64 L] w fun e w' => e = .returned (.int .i64 p) ∧ w = w' := by
  have hL0 : ¬ (L : Int) = 0 := by omega
  have hL0' : ¬ L = 0 := by omega
  clear h0
  go_enter Tryz.func49, Tryz.ntmps49
  go_wp2_with fail
  go_ret
  exact ⟨rfl, rfl⟩
theorem from_ex2 {B : Nat} {W : World} {bk off c p : Nat} {s : List UInt8} (h : Sl eB B W (.slice (some ⟨bk, off, none⟩) s.length c) s) (hp : p ≤ s.length) :
    (c = p → Sl eB B W (.slice (some ⟨bk, off, none⟩) (s.length - p) 0) (s.drop p)) ∧ (¬ c = p → Sl eB B W (.slice (some ⟨bk, off + p, none⟩) (s.length - p) (c - p)) (s.drop p)) := by
  refine ⟨fun e => ?_, fun e => h.from_ hp _ (fun _ => by simp [Addr.add])⟩
  have := h.from_ hp (some ⟨bk, off, none⟩) (fun hne => absurd e hne)
  rwa [e, Nat.sub_self] at this
theorem own_mono8 {B B' : Nat} {w : World} {v : Value} {bs : List UInt8} (h : Own8 B w v bs) (hb : B' ≤ B) : Own8 B' w v bs := by
 obtain ⟨h1, h2⟩ := h
 refine ⟨h1, ?_⟩
 rcases h2 with ⟨h3, h4⟩ | ⟨g, cap, cur, h3, h4, h5⟩
 · exact .inl ⟨h3, h4⟩
 · exact .inr ⟨g, cap, cur, h3, by omega, h5⟩
theorem deed_none (x : List UInt8) (v : Value) (g : Nat) (hl : x.length ≤ 1000000) (w : World) (hg : w.cell? ⟨g, 0, none⟩ = some v) (hS : Sl eB w.heap.size w v x) :
    Calls Tryz.prog 50 #[.pointer (some ⟨g, 0, none⟩)] w fun e w' => ∃ u, e = .returned u ∧ Own8 w.heap.size w' u x ∧ Below w.heap.size w w' := by
  have hC := BClone_any v x (by omega) w hS
  go_enter Tryz.func50, Tryz.ntmps50
  go_wp2_with fail
  go_at_call 25
  refine hC.mono ?_
  rintro e w1 ⟨u, rfl, hu, hB⟩
  go_wp2_with fail
  go_ret
  exact ⟨u, rfl, hu, hB⟩
set_option maxRecDepth 100000 in
set_option maxHeartbeats 2000000 in
theorem deed_gap (x : List UInt8) (A : Option Addr) (c : Nat) (g ga p : Nat) (hl : x.length ≤ 400) (hp : p < x.length) (w : World) (hg : w.cell? ⟨g, 0, none⟩ = some (.slice A x.length c)) (hga : w.cell? ⟨ga, 0, none⟩ = some (.int .i64 p)) (hS : Sl eB w.heap.size w (.slice A x.length c) x) :
    Calls Tryz.prog 51 #[.pointer (some ⟨g, 0, none⟩), .pointer (some ⟨ga, 0, none⟩)] w fun e w' => ∃ u, e = .returned u ∧ Own8 w.heap.size w' u (x.take p ++ x.drop (p + 1)) ∧ Below w.heap.size w w' := by
  have hE : x ≠ [] := fun e => by rw [e] at hp; simp at hp
  obtain ⟨A', c', e, hcc, hcs⟩ := id hS
  injection e with e1 e2 e3
  subst e1 e3
  obtain ⟨bk, off, rfl, hbk, hcell⟩ := hcs (by omega)
  have s1 := hS.upto (p := p) (by omega)
  have s2 := from_ex2 (p := p + 1) hS (by omega)
  have lt1 : (x.take p).length = p := by rw [List.length_take]; omega
  have ld1 : (x.drop (p + 1)).length = x.length - (p + 1) := List.length_drop
  have e2 : ((p : Int) + 1).toNat = p + 1 := by omega
  have b0 : (p : Int) ≤ (c : Int) := by omega
  have b1 : (0 : Int) ≤ (p : Int) + 1 := by omega
  have b4 : (p : Int) ≤ (p : Int) + 1 := by omega
  have b2 : (p : Int) + 1 ≤ (x.length : Int) := by omega
  have b3 : (x.length : Int) ≤ (c : Int) := by omega
  have w1 := wz ((p : Int) + 1) (by omega) (by omega)
  have w2 := iz ((p : Int) + 1) (by omega) (by omega)
  have q1 : w.drew.cell? ⟨g, 0, none⟩ = some (.slice (some ⟨bk, off, none⟩) x.length c) := hg
  have q2 : w.drew.cell? ⟨ga, 0, none⟩ = some (.int .i64 p) := hga
  have Hl := Lib.hid hl
  have Hp := Lib.hid hp
  clear hcs hcell hcc hE hl hp
  have hB0 : Below w.heap.size w w.drew := ⟨rfl, rfl, rfl, Nat.le_refl _, fun _ _ => rfl⟩
  by_cases hcp : c = p + 1
  · have s3 := s2.1 hcp
    have hxl : x.length - (p + 1) = 0 := by have := Hp.out; omega
    rw [hxl] at s3
    have ld2 : (x.drop (p + 1)).length = 0 := by rw [ld1, hxl]
    subst hcp
    clear s2 ld1
    have hC := Concat2_any w.heap.size _ _ _ _ (x.take p) (x.drop (p + 1)) (by rw [lt1]; have := Hl.out; have := Hp.out; omega) (by rw [ld2]; have := Hl.out; omega) (w.drew.alloc (.cells #[.slice (some ⟨bk, off, none⟩) p (p + 1), .slice (some ⟨bk, off, none⟩) 0 0] 22)) ((Rowed.new w.drew 22 #[.slice (some ⟨bk, off, none⟩) p (p + 1), .slice (some ⟨bk, off, none⟩) 0 0]).cell 0 |>.trans (by rw [lt1]; rfl)) ((Rowed.new w.drew 22 #[.slice (some ⟨bk, off, none⟩) p (p + 1), .slice (some ⟨bk, off, none⟩) 0 0]).cell 1 |>.trans (by rw [ld2]; rfl)) (by rw [lt1]; exact s1.next (below_trans hB0 (below_alloc w.drew _))) (by rw [ld2]; exact s3.next (below_trans hB0 (below_alloc w.drew _))) (by simp)
    have hBA := below_trans hB0 (below_alloc w.drew (.cells #[.slice (some ⟨bk, off, none⟩) p (p + 1), .slice (some ⟨bk, off, none⟩) 0 0] 22))
    clear lt1 ld2 s1 s3 hS
    go_enter Tryz.func51, Tryz.ntmps51
    go_upto_region 1 with fail
    refine (wpIn_wide (n := 5)).1 ?_
    refine wpIn_region_det 7 [(3, .slice (some ⟨bk, off, none⟩) x.length (p + 1)), (4, .int .i64 p), (5, .slice (some ⟨bk, off, none⟩) p (p + 1)), (6, .slice (some ⟨bk, off, none⟩) x.length (p + 1)), (7, .int .i64 p), (8, .int .i64 ((p : Int) + 1)), (9, .slice (some ⟨bk, off, none⟩) 0 0)]
      (by kernel_rfl) (by decide) (by kernel_rfl) (by kernel_rfl) (by kernel_rfl) (by kernel_rfl) (by kernel_rfl) ?ok1 ?tail1
    case ok1 =>
     intro A' hA'
     simp only [putAll, Act.put, List.setIfInBounds_toArray, List.set_cons_zero, List.set_cons_succ] at hA'
     subst hA'
     refine ⟨?_, ?_, ?_, ?_, ?_, ?_, ?_, trivial⟩
     all_goals unfold DetIn
     all_goals go_simp
    case tail1 =>
     intro A' hA'
     simp only [putAll, Act.put, List.setIfInBounds_toArray, List.set_cons_zero, List.set_cons_succ] at hA'
     subst hA'
     simp only [List.drop_succ_cons, List.drop_zero]
     gi_wp2_with fail
     refine ⟨trivial, ?_⟩
     gi_at_call 52
     refine (callsIn_wide.2 hC).mono ?_
     rintro e w3 ⟨u, rfl, hu, hB⟩
     gi_wp2_with fail
     go_wp2_with fail
     go_ret
     exact ⟨u, rfl, own_mono8 hu hBA.size, below_trans hBA hB⟩
  · have s3 := s2.2 hcp
    clear s2
    have hC := Concat2_any w.heap.size _ _ _ _ (x.take p) (x.drop (p + 1)) (by rw [lt1]; have := Hl.out; have := Hp.out; omega) (by rw [ld1]; have := Hl.out; omega) (w.drew.alloc (.cells #[.slice (some ⟨bk, off, none⟩) p c, .slice (some ⟨bk, off + (p + 1), none⟩) (x.length - (p + 1)) (c - (p + 1))] 22)) ((Rowed.new w.drew 22 #[.slice (some ⟨bk, off, none⟩) p c, .slice (some ⟨bk, off + (p + 1), none⟩) (x.length - (p + 1)) (c - (p + 1))]).cell 0 |>.trans (by rw [lt1]; rfl)) ((Rowed.new w.drew 22 #[.slice (some ⟨bk, off, none⟩) p c, .slice (some ⟨bk, off + (p + 1), none⟩) (x.length - (p + 1)) (c - (p + 1))]).cell 1 |>.trans (by rw [ld1]; rfl)) (by rw [lt1]; exact s1.next (below_trans hB0 (below_alloc w.drew _))) (by rw [ld1]; exact s3.next (below_trans hB0 (below_alloc w.drew _))) (by simp)
    have hBA := below_trans hB0 (below_alloc w.drew (.cells #[.slice (some ⟨bk, off, none⟩) p c, .slice (some ⟨bk, off + (p + 1), none⟩) (x.length - (p + 1)) (c - (p + 1))] 22))
    clear lt1 ld1 s1 s3 hS
    go_enter Tryz.func51, Tryz.ntmps51
    go_upto_region 1 with fail
    refine (wpIn_wide (n := 5)).1 ?_
    refine wpIn_region_det 7 [(3, .slice (some ⟨bk, off, none⟩) x.length c), (4, .int .i64 p), (5, .slice (some ⟨bk, off, none⟩) p c), (6, .slice (some ⟨bk, off, none⟩) x.length c), (7, .int .i64 p), (8, .int .i64 ((p : Int) + 1)), (9, .slice (some ⟨bk, off + (p + 1), none⟩) (x.length - (p + 1)) (c - (p + 1)))]
      (by kernel_rfl) (by decide) (by kernel_rfl) (by kernel_rfl) (by kernel_rfl) (by kernel_rfl) (by kernel_rfl) ?ok1 ?tail1
    case ok1 =>
     intro A' hA'
     simp only [putAll, Act.put, List.setIfInBounds_toArray, List.set_cons_zero, List.set_cons_succ] at hA'
     subst hA'
     refine ⟨?_, ?_, ?_, ?_, ?_, ?_, ?_, trivial⟩
     all_goals unfold DetIn
     all_goals go_simp
    case tail1 =>
     intro A' hA'
     simp only [putAll, Act.put, List.setIfInBounds_toArray, List.set_cons_zero, List.set_cons_succ] at hA'
     subst hA'
     simp only [List.drop_succ_cons, List.drop_zero]
     gi_wp2_with fail
     refine ⟨trivial, ?_⟩
     gi_at_call 52
     refine (callsIn_wide.2 hC).mono ?_
     rintro e w3 ⟨u, rfl, hu, hB⟩
     gi_wp2_with fail
     go_wp2_with fail
     go_ret
     exact ⟨u, rfl, own_mono8 hu hBA.size, below_trans hBA hB⟩
end Go.Proofs.YtkibigbcdlilkaaGreatDoor.Ed
namespace Go.Proofs.YtkibigbcdlilkaaGreatDoor.Ed
open Go.RowKit Go.Shelf
attribute [local go_sem] Oper.semAt_some run_store_func
theorem one_sl1 (w : World) (g : Nat) (c : UInt8) (h : w.cell? ⟨g, 0, none⟩ = some (eB c)) : Sl eB w.heap.size w (.slice (some ⟨g, 0, none⟩) 1 1) [c] :=
 ⟨_, 1, rfl, Nat.le_refl _, fun _ => ⟨g, 0, rfl, World.block_lt_of_cell? w _ h, fun j x hx => by
  rcases j with _ | j
  · simp at hx; subst hx; exact h
  · simp at hx⟩⟩
set_option maxRecDepth 100000 in
set_option maxHeartbeats 4000000 in
theorem deed_more (x : List UInt8) (y : UInt8) (bk off c : Nat) (gx ga ge p : Nat) (hl : x.length ≤ 400) (hp : p ≤ x.length) (w : World) (hgx : w.cell? ⟨gx, 0, none⟩ = some (.slice (some ⟨bk, off, none⟩) x.length c)) (hga : w.cell? ⟨ga, 0, none⟩ = some (.int .i64 p)) (hge : w.cell? ⟨ge, 2, none⟩ = some (eB y)) (hS : Sl eB w.heap.size w (.slice (some ⟨bk, off, none⟩) x.length c) x) :
    Calls Tryz.prog 53 #[.pointer (some ⟨gx, 0, none⟩), .pointer (some ⟨ga, 0, none⟩), .pointer (some ⟨ge, 0, none⟩)] w fun e w' => ∃ u, e = .returned u ∧ Own8 w.heap.size w' u (x.take p ++ y :: (x.drop p)) ∧ Below w.heap.size w w' := by
  have lx := World.block_lt_of_cell? w _ hgx
  have la := World.block_lt_of_cell? w _ hga
  have le := World.block_lt_of_cell? w _ hge
  have hcc : x.length ≤ c := by
   obtain ⟨A', c', e, hcc, -⟩ := id hS
   injection e with e1 e2 e3
   omega
  have s1 := hS.upto (p := p) (by omega)
  have s2 := from_ex2 (p := p) hS (by omega)
  have lt1 : (x.take p).length = p := by rw [List.length_take]; omega
  have ld1 : (x.drop p).length = x.length - p := List.length_drop
  have e2 : ((p : Int) + 1).toNat = p + 1 := by omega
  have b0 : (p : Int) ≤ (c : Int) := by omega
  have b1 : (0 : Int) ≤ (p : Int) + 1 := by omega
  have b4 : (p : Int) ≤ (p : Int) + 1 := by omega
  have b2 : (p : Int) ≤ (x.length : Int) := by omega
  have b3 : (x.length : Int) ≤ (c : Int) := by omega
  have n1 : -1000000 ≤ (p : Int) + 1 := by omega
  have n2 : (p : Int) + 1 ≤ 1000000 := by omega
  have Hw := Lib.hid (w_is ((p : Int) + 1) _ rfl n1 n2)
  have Hl := Lib.hid hl
  have Hp := Lib.hid hp
  clear hcc hl hp n1 n2
  have hb0 : Below w.heap.size w w.drew := ⟨rfl, rfl, rfl, Nat.le_refl _, fun _ _ => rfl⟩
  have hb1 := below_trans hb0 (below_alloc w.drew (.cells #[eB y] 5))
  have hbR : ∀ w' g, ((fun w' u => Own8 w.heap.size w' u (x.take p ++ y :: (x.drop p)) ∧ Below w.heap.size w w')) w' g → Below w.heap.size w w' := fun _ _ h => h.2
  by_cases hcp : c = p
  · have s3 := s2.1 hcp
    have hxl : x.length - p = 0 := by have := Hp.out; omega
    rw [hxl] at s3
    have ld2 : (x.drop p).length = 0 := by rw [ld1, hxl]
    have hb2 := below_trans hb1 (below_alloc (w.drew.alloc (.cells #[eB y] 5)) (.cells #[.slice (some ⟨bk, off, none⟩) p c, .slice (some ⟨w.heap.size, 0, none⟩) 1 1, .slice (some ⟨bk, off, none⟩) 0 0] 22))
    have hcp := hcp.symm
    subst hcp
    clear s2 ld1
    have hrw : Rowed ((w.drew.alloc (.cells #[eB y] 5)).alloc (.cells #[.slice (some ⟨bk, off, none⟩) p p, .slice (some ⟨w.heap.size, 0, none⟩) 1 1, (.slice (some ⟨bk, off, none⟩) 0 0)] 22)) (w.heap.size + 1) 22 #[.slice (some ⟨bk, off, none⟩) p p, .slice (some ⟨w.heap.size, 0, none⟩) 1 1, (.slice (some ⟨bk, off, none⟩) 0 0)] := by
     have h := Rowed.new (w.drew.alloc (.cells #[eB y] 5)) 22 #[.slice (some ⟨bk, off, none⟩) p p, .slice (some ⟨w.heap.size, 0, none⟩) 1 1, (.slice (some ⟨bk, off, none⟩) 0 0)]
     rw [World.size_alloc] at h
     exact h
    have hC := Concat3_any (w.heap.size + 1) _ _ _ _ _ _ (x.take p) [y] (x.drop p) (by rw [lt1]; have := Hl.out; have := Hp.out; omega) (by simp) (by rw [ld2]; have := Hl.out; omega) ((w.drew.alloc (.cells #[eB y] 5)).alloc (.cells #[.slice (some ⟨bk, off, none⟩) p p, .slice (some ⟨w.heap.size, 0, none⟩) 1 1, (.slice (some ⟨bk, off, none⟩) 0 0)] 22)) ((hrw.cell 0).trans (by rw [lt1]; rfl)) (hrw.cell 1) ((hrw.cell 2).trans (by rw [ld2]; rfl)) (by rw [lt1]; exact s1.next hb2) ((one_sl1 (w.drew.alloc (.cells #[eB y] 5)) w.heap.size y ((Rowed.new w.drew 5 #[eB y]).cell 0)).next (below_alloc (w.drew.alloc (.cells #[eB y] 5)) _)) (by rw [ld2]; exact s3.next hb2) (by simp)
    rw [List.append_assoc, List.singleton_append] at hC
    clear lt1 ld2 s1 s3 hS
    obtain ⟨w1, w2⟩ := Hw.out
    go_enter Tryz.func53, Tryz.ntmps53
    go_upto_region 1 with fail
    refine wp_region_ghost (BlkS 5 9 10 11 w.drew (w.drew.alloc (.cells #[eB y] 5)) ((w.drew.alloc (.cells #[eB y] 5)).alloc (.cells #[.slice (some ⟨bk, off, none⟩) p p, .slice (some ⟨w.heap.size, 0, none⟩) 1 1, (.slice (some ⟨bk, off, none⟩) 0 0)] 22)) (fun w' u => Own8 w.heap.size w' u (x.take p ++ y :: (x.drop p)) ∧ Below w.heap.size w w')) (fun g => [(4, .slice (some ⟨bk, off, none⟩) x.length p), (5, .int .i64 p), (6, .slice (some ⟨bk, off, none⟩) p p), (7, .pointer (some ⟨ge, 2, none⟩)), (8, .int .u8 (y.toNat : Int)), (9, .slice (some ⟨w.heap.size, 0, none⟩) 1 1), (10, .slice (some ⟨bk, off, none⟩) x.length p), (11, .int .i64 p), (12, (.slice (some ⟨bk, off, none⟩) 0 0)), (13, .slice (some ⟨w.heap.size + 1, 0, none⟩) 3 3), (14, g.1), (3, g.2)]) (undef, undef)
     (by kernel_rfl) (by kernel_rfl) (by kernel_rfl) (by kernel_rfl) (fun _ => by kernel_rfl) ?startA ?okA ?finA
    case startA => exact fun D hD => BlkS.start (hD _ (by decide)) (hD _ (by decide)) (hD _ (by decide)) (hD _ (by decide))
    case okA =>
     intro T hT'
     simp only [putAll, Act.put, List.setIfInBounds_toArray, List.set_cons_zero, List.set_cons_succ] at hT'
     simp only [ghAll]
     refine ⟨?_, ?_, ?_, ?_, ?_, ?_, ?_, ?_, ?_, ?_, ?_, ?_, trivial⟩
     · refine gb_op rfl fun D g w' hS => ?_
       have hBw := hS.below hb0 hb1 hb2 hbR
       have q1 := (hBw.cell (p := ⟨gx, 0, none⟩) lx).trans hgx
       have q2 := (hBw.cell (p := ⟨ga, 0, none⟩) la).trans hga
       have q3 := (hBw.cell (p := ⟨ge, 2, none⟩) le).trans hge
       rw [hT' g]
       clear hT' hS hBw
       go_simp
     · refine gb_op rfl fun D g w' hS => ?_
       have hBw := hS.below hb0 hb1 hb2 hbR
       have q1 := (hBw.cell (p := ⟨gx, 0, none⟩) lx).trans hgx
       have q2 := (hBw.cell (p := ⟨ga, 0, none⟩) la).trans hga
       have q3 := (hBw.cell (p := ⟨ge, 2, none⟩) le).trans hge
       rw [hT' g]
       clear hT' hS hBw
       go_simp
     · refine gb_op rfl fun D g w' hS => ?_
       have hBw := hS.below hb0 hb1 hb2 hbR
       have q1 := (hBw.cell (p := ⟨gx, 0, none⟩) lx).trans hgx
       have q2 := (hBw.cell (p := ⟨ga, 0, none⟩) la).trans hga
       have q3 := (hBw.cell (p := ⟨ge, 2, none⟩) le).trans hge
       rw [hT' g]
       clear hT' hS hBw
       go_simp
     · refine gb_op rfl fun D g w' hS => ?_
       have hBw := hS.below hb0 hb1 hb2 hbR
       have q1 := (hBw.cell (p := ⟨gx, 0, none⟩) lx).trans hgx
       have q2 := (hBw.cell (p := ⟨ga, 0, none⟩) la).trans hga
       have q3 := (hBw.cell (p := ⟨ge, 2, none⟩) le).trans hge
       rw [hT' g]
       clear hT' hS hBw
       go_simp
     · refine gb_op rfl fun D g w' hS => ?_
       have hBw := hS.below hb0 hb1 hb2 hbR
       have q1 := (hBw.cell (p := ⟨gx, 0, none⟩) lx).trans hgx
       have q2 := (hBw.cell (p := ⟨ga, 0, none⟩) la).trans hga
       have q3 := (hBw.cell (p := ⟨ge, 2, none⟩) le).trans hge
       rw [hT' g]
       clear hT' hS hBw
       go_simp
     · refine gb_first rfl (by decide) (by decide) (by decide) (fun g => by rw [hT' g]; rfl) (fun g => ?_)
       rw [hT' g]
       clear hT'
       unfold Oper.wp
       go_simp
     · refine gb_op rfl fun D g w' hS => ?_
       have hBw := hS.below hb0 hb1 hb2 hbR
       have q1 := (hBw.cell (p := ⟨gx, 0, none⟩) lx).trans hgx
       have q2 := (hBw.cell (p := ⟨ga, 0, none⟩) la).trans hga
       have q3 := (hBw.cell (p := ⟨ge, 2, none⟩) le).trans hge
       rw [hT' g]
       clear hT' hS hBw
       go_simp
     · refine gb_op rfl fun D g w' hS => ?_
       have hBw := hS.below hb0 hb1 hb2 hbR
       have q1 := (hBw.cell (p := ⟨gx, 0, none⟩) lx).trans hgx
       have q2 := (hBw.cell (p := ⟨ga, 0, none⟩) la).trans hga
       have q3 := (hBw.cell (p := ⟨ge, 2, none⟩) le).trans hge
       rw [hT' g]
       clear hT' hS hBw
       go_simp
     · refine gb_op rfl fun D g w' hS => ?_
       have hBw := hS.below hb0 hb1 hb2 hbR
       have q1 := (hBw.cell (p := ⟨gx, 0, none⟩) lx).trans hgx
       have q2 := (hBw.cell (p := ⟨ga, 0, none⟩) la).trans hga
       have q3 := (hBw.cell (p := ⟨ge, 2, none⟩) le).trans hge
       rw [hT' g]
       clear hT' hS hBw
       go_simp
     · refine gb_second rfl (by decide) (by decide) (by decide) (fun g => by rw [hT' g]; rfl) (by kernel_rfl) (fun g => ?_)
       rw [hT' g]
       clear hT'
       unfold Oper.wp
       go_simp
     · refine gb_call rfl rfl (by decide) (by decide) (by decide) rfl (fun g v => by rw [hT', hT']; rfl) (fun g => by rw [hT' g]; rfl) (by kernel_rfl) (fun g => ?_)
       rw [hT' g]
       clear hT'
       unfold Oper.wp
       go_simp
       refine hC.mono ?_
       rintro e w3 ⟨v, rfl, hv, hB⟩
       exact ⟨own_mono8 hv hb2.size, below_trans hb2 hB⟩
     · refine gb_last rfl rfl (by decide) (by decide) (by decide) rfl (fun g => by rw [hT', hT']; rfl) (fun g => by rw [hT' g]; rfl) (by kernel_rfl) (fun g w' => ?_)
       rw [hT' g]
       clear hT'
       unfold Oper.wp
       go_simp
    case finA =>
     intro T hT' D g WF hall hS
     have hTg := hT' g
     simp only [putAll, Act.put, List.setIfInBounds_toArray, List.set_cons_zero, List.set_cons_succ] at hTg
     obtain ⟨ho, hB⟩ := hS.2.2.2.1 (hall 10 (by decide))
     have hg := hS.1.2 (hall 11 (by decide))
     obtain ⟨g, gg⟩ := g
     simp only at hg
     subst hg
     rw [hTg]
     clear hT' hTg hall hS
     go_wp2_with fail
     go_ret
     exact ⟨_, rfl, ho, hB⟩
  · have s3 := s2.2 hcp
    have hb2 := below_trans hb1 (below_alloc (w.drew.alloc (.cells #[eB y] 5)) (.cells #[.slice (some ⟨bk, off, none⟩) p c, .slice (some ⟨w.heap.size, 0, none⟩) 1 1, .slice (some ⟨bk, off + p, none⟩) (x.length - p) (c - p)] 22))
    clear s2
    have hrw : Rowed ((w.drew.alloc (.cells #[eB y] 5)).alloc (.cells #[.slice (some ⟨bk, off, none⟩) p c, .slice (some ⟨w.heap.size, 0, none⟩) 1 1, (.slice (some ⟨bk, off + p, none⟩) (x.length - p) (c - p))] 22)) (w.heap.size + 1) 22 #[.slice (some ⟨bk, off, none⟩) p c, .slice (some ⟨w.heap.size, 0, none⟩) 1 1, (.slice (some ⟨bk, off + p, none⟩) (x.length - p) (c - p))] := by
     have h := Rowed.new (w.drew.alloc (.cells #[eB y] 5)) 22 #[.slice (some ⟨bk, off, none⟩) p c, .slice (some ⟨w.heap.size, 0, none⟩) 1 1, (.slice (some ⟨bk, off + p, none⟩) (x.length - p) (c - p))]
     rw [World.size_alloc] at h
     exact h
    have hC := Concat3_any (w.heap.size + 1) _ _ _ _ _ _ (x.take p) [y] (x.drop p) (by rw [lt1]; have := Hl.out; have := Hp.out; omega) (by simp) (by rw [ld1]; have := Hl.out; omega) ((w.drew.alloc (.cells #[eB y] 5)).alloc (.cells #[.slice (some ⟨bk, off, none⟩) p c, .slice (some ⟨w.heap.size, 0, none⟩) 1 1, (.slice (some ⟨bk, off + p, none⟩) (x.length - p) (c - p))] 22)) ((hrw.cell 0).trans (by rw [lt1]; rfl)) (hrw.cell 1) ((hrw.cell 2).trans (by rw [ld1]; rfl)) (by rw [lt1]; exact s1.next hb2) ((one_sl1 (w.drew.alloc (.cells #[eB y] 5)) w.heap.size y ((Rowed.new w.drew 5 #[eB y]).cell 0)).next (below_alloc (w.drew.alloc (.cells #[eB y] 5)) _)) (by rw [ld1]; exact s3.next hb2) (by simp)
    rw [List.append_assoc, List.singleton_append] at hC
    clear lt1 ld1 s1 s3 hS
    obtain ⟨w1, w2⟩ := Hw.out
    go_enter Tryz.func53, Tryz.ntmps53
    go_upto_region 1 with fail
    refine wp_region_ghost (BlkS 5 9 10 11 w.drew (w.drew.alloc (.cells #[eB y] 5)) ((w.drew.alloc (.cells #[eB y] 5)).alloc (.cells #[.slice (some ⟨bk, off, none⟩) p c, .slice (some ⟨w.heap.size, 0, none⟩) 1 1, (.slice (some ⟨bk, off + p, none⟩) (x.length - p) (c - p))] 22)) (fun w' u => Own8 w.heap.size w' u (x.take p ++ y :: (x.drop p)) ∧ Below w.heap.size w w')) (fun g => [(4, .slice (some ⟨bk, off, none⟩) x.length c), (5, .int .i64 p), (6, .slice (some ⟨bk, off, none⟩) p c), (7, .pointer (some ⟨ge, 2, none⟩)), (8, .int .u8 (y.toNat : Int)), (9, .slice (some ⟨w.heap.size, 0, none⟩) 1 1), (10, .slice (some ⟨bk, off, none⟩) x.length c), (11, .int .i64 p), (12, (.slice (some ⟨bk, off + p, none⟩) (x.length - p) (c - p))), (13, .slice (some ⟨w.heap.size + 1, 0, none⟩) 3 3), (14, g.1), (3, g.2)]) (undef, undef)
     (by kernel_rfl) (by kernel_rfl) (by kernel_rfl) (by kernel_rfl) (fun _ => by kernel_rfl) ?startA ?okA ?finA
    case startA => exact fun D hD => BlkS.start (hD _ (by decide)) (hD _ (by decide)) (hD _ (by decide)) (hD _ (by decide))
    case okA =>
     intro T hT'
     simp only [putAll, Act.put, List.setIfInBounds_toArray, List.set_cons_zero, List.set_cons_succ] at hT'
     simp only [ghAll]
     refine ⟨?_, ?_, ?_, ?_, ?_, ?_, ?_, ?_, ?_, ?_, ?_, ?_, trivial⟩
     · refine gb_op rfl fun D g w' hS => ?_
       have hBw := hS.below hb0 hb1 hb2 hbR
       have q1 := (hBw.cell (p := ⟨gx, 0, none⟩) lx).trans hgx
       have q2 := (hBw.cell (p := ⟨ga, 0, none⟩) la).trans hga
       have q3 := (hBw.cell (p := ⟨ge, 2, none⟩) le).trans hge
       rw [hT' g]
       clear hT' hS hBw
       go_simp
     · refine gb_op rfl fun D g w' hS => ?_
       have hBw := hS.below hb0 hb1 hb2 hbR
       have q1 := (hBw.cell (p := ⟨gx, 0, none⟩) lx).trans hgx
       have q2 := (hBw.cell (p := ⟨ga, 0, none⟩) la).trans hga
       have q3 := (hBw.cell (p := ⟨ge, 2, none⟩) le).trans hge
       rw [hT' g]
       clear hT' hS hBw
       go_simp
     · refine gb_op rfl fun D g w' hS => ?_
       have hBw := hS.below hb0 hb1 hb2 hbR
       have q1 := (hBw.cell (p := ⟨gx, 0, none⟩) lx).trans hgx
       have q2 := (hBw.cell (p := ⟨ga, 0, none⟩) la).trans hga
       have q3 := (hBw.cell (p := ⟨ge, 2, none⟩) le).trans hge
       rw [hT' g]
       clear hT' hS hBw
       go_simp
     · refine gb_op rfl fun D g w' hS => ?_
       have hBw := hS.below hb0 hb1 hb2 hbR
       have q1 := (hBw.cell (p := ⟨gx, 0, none⟩) lx).trans hgx
       have q2 := (hBw.cell (p := ⟨ga, 0, none⟩) la).trans hga
       have q3 := (hBw.cell (p := ⟨ge, 2, none⟩) le).trans hge
       rw [hT' g]
       clear hT' hS hBw
       go_simp
     · refine gb_op rfl fun D g w' hS => ?_
       have hBw := hS.below hb0 hb1 hb2 hbR
       have q1 := (hBw.cell (p := ⟨gx, 0, none⟩) lx).trans hgx
       have q2 := (hBw.cell (p := ⟨ga, 0, none⟩) la).trans hga
       have q3 := (hBw.cell (p := ⟨ge, 2, none⟩) le).trans hge
       rw [hT' g]
       clear hT' hS hBw
       go_simp
     · refine gb_first rfl (by decide) (by decide) (by decide) (fun g => by rw [hT' g]; rfl) (fun g => ?_)
       rw [hT' g]
       clear hT'
       unfold Oper.wp
       go_simp
     · refine gb_op rfl fun D g w' hS => ?_
       have hBw := hS.below hb0 hb1 hb2 hbR
       have q1 := (hBw.cell (p := ⟨gx, 0, none⟩) lx).trans hgx
       have q2 := (hBw.cell (p := ⟨ga, 0, none⟩) la).trans hga
       have q3 := (hBw.cell (p := ⟨ge, 2, none⟩) le).trans hge
       rw [hT' g]
       clear hT' hS hBw
       go_simp
     · refine gb_op rfl fun D g w' hS => ?_
       have hBw := hS.below hb0 hb1 hb2 hbR
       have q1 := (hBw.cell (p := ⟨gx, 0, none⟩) lx).trans hgx
       have q2 := (hBw.cell (p := ⟨ga, 0, none⟩) la).trans hga
       have q3 := (hBw.cell (p := ⟨ge, 2, none⟩) le).trans hge
       rw [hT' g]
       clear hT' hS hBw
       go_simp
     · refine gb_op rfl fun D g w' hS => ?_
       have hBw := hS.below hb0 hb1 hb2 hbR
       have q1 := (hBw.cell (p := ⟨gx, 0, none⟩) lx).trans hgx
       have q2 := (hBw.cell (p := ⟨ga, 0, none⟩) la).trans hga
       have q3 := (hBw.cell (p := ⟨ge, 2, none⟩) le).trans hge
       rw [hT' g]
       clear hT' hS hBw
       go_simp
     · refine gb_second rfl (by decide) (by decide) (by decide) (fun g => by rw [hT' g]; rfl) (by kernel_rfl) (fun g => ?_)
       rw [hT' g]
       clear hT'
       unfold Oper.wp
       go_simp
     · refine gb_call rfl rfl (by decide) (by decide) (by decide) rfl (fun g v => by rw [hT', hT']; rfl) (fun g => by rw [hT' g]; rfl) (by kernel_rfl) (fun g => ?_)
       rw [hT' g]
       clear hT'
       unfold Oper.wp
       go_simp
       refine hC.mono ?_
       rintro e w3 ⟨v, rfl, hv, hB⟩
       exact ⟨own_mono8 hv hb2.size, below_trans hb2 hB⟩
     · refine gb_last rfl rfl (by decide) (by decide) (by decide) rfl (fun g => by rw [hT', hT']; rfl) (fun g => by rw [hT' g]; rfl) (by kernel_rfl) (fun g w' => ?_)
       rw [hT' g]
       clear hT'
       unfold Oper.wp
       go_simp
    case finA =>
     intro T hT' D g WF hall hS
     have hTg := hT' g
     simp only [putAll, Act.put, List.setIfInBounds_toArray, List.set_cons_zero, List.set_cons_succ] at hTg
     obtain ⟨ho, hB⟩ := hS.2.2.2.1 (hall 10 (by decide))
     have hg := hS.1.2 (hall 11 (by decide))
     obtain ⟨g, gg⟩ := g
     simp only at hg
     subst hg
     rw [hTg]
     clear hT' hTg hall hS
     go_wp2_with fail
     go_ret
     exact ⟨_, rfl, ho, hB⟩
set_option maxRecDepth 100000 in
set_option maxHeartbeats 4000000 in
theorem deed_swap (x : List UInt8) (y : UInt8) (bk off c : Nat) (gx ga ge p : Nat) (hl : x.length ≤ 400) (hp : p < x.length) (w : World) (hgx : w.cell? ⟨gx, 0, none⟩ = some (.slice (some ⟨bk, off, none⟩) x.length c)) (hga : w.cell? ⟨ga, 0, none⟩ = some (.int .i64 p)) (hge : w.cell? ⟨ge, 2, none⟩ = some (eB y)) (hS : Sl eB w.heap.size w (.slice (some ⟨bk, off, none⟩) x.length c) x) :
    Calls Tryz.prog 54 #[.pointer (some ⟨gx, 0, none⟩), .pointer (some ⟨ga, 0, none⟩), .pointer (some ⟨ge, 0, none⟩)] w fun e w' => ∃ u, e = .returned u ∧ Own8 w.heap.size w' u (x.take p ++ y :: (x.drop (p + 1))) ∧ Below w.heap.size w w' := by
  have lx := World.block_lt_of_cell? w _ hgx
  have la := World.block_lt_of_cell? w _ hga
  have le := World.block_lt_of_cell? w _ hge
  have hcc : x.length ≤ c := by
   obtain ⟨A', c', e, hcc, -⟩ := id hS
   injection e with e1 e2 e3
   omega
  have s1 := hS.upto (p := p) (by omega)
  have s2 := from_ex2 (p := (p + 1)) hS (by omega)
  have lt1 : (x.take p).length = p := by rw [List.length_take]; omega
  have ld1 : (x.drop (p + 1)).length = x.length - (p + 1) := List.length_drop
  have e2 : ((p : Int) + 1).toNat = p + 1 := by omega
  have b0 : (p : Int) ≤ (c : Int) := by omega
  have b1 : (0 : Int) ≤ (p : Int) + 1 := by omega
  have b4 : (p : Int) ≤ (p : Int) + 1 := by omega
  have b2 : (p : Int) + 1 ≤ (x.length : Int) := by omega
  have b3 : (x.length : Int) ≤ (c : Int) := by omega
  have n1 : -1000000 ≤ (p : Int) + 1 := by omega
  have n2 : (p : Int) + 1 ≤ 1000000 := by omega
  have Hw := Lib.hid (w_is ((p : Int) + 1) _ rfl n1 n2)
  have Hl := Lib.hid hl
  have Hp := Lib.hid hp
  clear hcc hl hp n1 n2
  have hb0 : Below w.heap.size w w.drew := ⟨rfl, rfl, rfl, Nat.le_refl _, fun _ _ => rfl⟩
  have hb1 := below_trans hb0 (below_alloc w.drew (.cells #[eB y] 5))
  have hbR : ∀ w' g, ((fun w' u => Own8 w.heap.size w' u (x.take p ++ y :: (x.drop (p + 1))) ∧ Below w.heap.size w w')) w' g → Below w.heap.size w w' := fun _ _ h => h.2
  by_cases hcp : c = (p + 1)
  · have s3 := s2.1 hcp
    have hxl : x.length - (p + 1) = 0 := by have := Hp.out; omega
    rw [hxl] at s3
    have ld2 : (x.drop (p + 1)).length = 0 := by rw [ld1, hxl]
    have hb2 := below_trans hb1 (below_alloc (w.drew.alloc (.cells #[eB y] 5)) (.cells #[.slice (some ⟨bk, off, none⟩) p c, .slice (some ⟨w.heap.size, 0, none⟩) 1 1, .slice (some ⟨bk, off, none⟩) 0 0] 22))
    subst hcp
    clear s2 ld1
    have hrw : Rowed ((w.drew.alloc (.cells #[eB y] 5)).alloc (.cells #[.slice (some ⟨bk, off, none⟩) p (p + 1), .slice (some ⟨w.heap.size, 0, none⟩) 1 1, (.slice (some ⟨bk, off, none⟩) 0 0)] 22)) (w.heap.size + 1) 22 #[.slice (some ⟨bk, off, none⟩) p (p + 1), .slice (some ⟨w.heap.size, 0, none⟩) 1 1, (.slice (some ⟨bk, off, none⟩) 0 0)] := by
     have h := Rowed.new (w.drew.alloc (.cells #[eB y] 5)) 22 #[.slice (some ⟨bk, off, none⟩) p (p + 1), .slice (some ⟨w.heap.size, 0, none⟩) 1 1, (.slice (some ⟨bk, off, none⟩) 0 0)]
     rw [World.size_alloc] at h
     exact h
    have hC := Concat3_any (w.heap.size + 1) _ _ _ _ _ _ (x.take p) [y] (x.drop (p + 1)) (by rw [lt1]; have := Hl.out; have := Hp.out; omega) (by simp) (by rw [ld2]; have := Hl.out; omega) ((w.drew.alloc (.cells #[eB y] 5)).alloc (.cells #[.slice (some ⟨bk, off, none⟩) p (p + 1), .slice (some ⟨w.heap.size, 0, none⟩) 1 1, (.slice (some ⟨bk, off, none⟩) 0 0)] 22)) ((hrw.cell 0).trans (by rw [lt1]; rfl)) (hrw.cell 1) ((hrw.cell 2).trans (by rw [ld2]; rfl)) (by rw [lt1]; exact s1.next hb2) ((one_sl1 (w.drew.alloc (.cells #[eB y] 5)) w.heap.size y ((Rowed.new w.drew 5 #[eB y]).cell 0)).next (below_alloc (w.drew.alloc (.cells #[eB y] 5)) _)) (by rw [ld2]; exact s3.next hb2) (by simp)
    rw [List.append_assoc, List.singleton_append] at hC
    clear lt1 ld2 s1 s3 hS
    obtain ⟨w1, w2⟩ := Hw.out
    go_enter Tryz.func54, Tryz.ntmps54
    go_upto_region 1 with fail
    refine wp_region_ghost (BlkS 5 10 11 12 w.drew (w.drew.alloc (.cells #[eB y] 5)) ((w.drew.alloc (.cells #[eB y] 5)).alloc (.cells #[.slice (some ⟨bk, off, none⟩) p (p + 1), .slice (some ⟨w.heap.size, 0, none⟩) 1 1, (.slice (some ⟨bk, off, none⟩) 0 0)] 22)) (fun w' u => Own8 w.heap.size w' u (x.take p ++ y :: (x.drop (p + 1))) ∧ Below w.heap.size w w')) (fun g => [(4, .slice (some ⟨bk, off, none⟩) x.length (p + 1)), (5, .int .i64 p), (6, .slice (some ⟨bk, off, none⟩) p (p + 1)), (7, .pointer (some ⟨ge, 2, none⟩)), (8, .int .u8 (y.toNat : Int)), (9, .slice (some ⟨w.heap.size, 0, none⟩) 1 1), (10, .slice (some ⟨bk, off, none⟩) x.length (p + 1)), (11, .int .i64 p), (12, .int .i64 ((p : Int) + 1)), (13, (.slice (some ⟨bk, off, none⟩) 0 0)), (14, .slice (some ⟨w.heap.size + 1, 0, none⟩) 3 3), (15, g.1), (3, g.2)]) (undef, undef)
     (by kernel_rfl) (by kernel_rfl) (by kernel_rfl) (by kernel_rfl) (fun _ => by kernel_rfl) ?startA ?okA ?finA
    case startA => exact fun D hD => BlkS.start (hD _ (by decide)) (hD _ (by decide)) (hD _ (by decide)) (hD _ (by decide))
    case okA =>
     intro T hT'
     simp only [putAll, Act.put, List.setIfInBounds_toArray, List.set_cons_zero, List.set_cons_succ] at hT'
     simp only [ghAll]
     refine ⟨?_, ?_, ?_, ?_, ?_, ?_, ?_, ?_, ?_, ?_, ?_, ?_, ?_, trivial⟩
     · refine gb_op rfl fun D g w' hS => ?_
       have hBw := hS.below hb0 hb1 hb2 hbR
       have q1 := (hBw.cell (p := ⟨gx, 0, none⟩) lx).trans hgx
       have q2 := (hBw.cell (p := ⟨ga, 0, none⟩) la).trans hga
       have q3 := (hBw.cell (p := ⟨ge, 2, none⟩) le).trans hge
       rw [hT' g]
       clear hT' hS hBw
       go_simp
     · refine gb_op rfl fun D g w' hS => ?_
       have hBw := hS.below hb0 hb1 hb2 hbR
       have q1 := (hBw.cell (p := ⟨gx, 0, none⟩) lx).trans hgx
       have q2 := (hBw.cell (p := ⟨ga, 0, none⟩) la).trans hga
       have q3 := (hBw.cell (p := ⟨ge, 2, none⟩) le).trans hge
       rw [hT' g]
       clear hT' hS hBw
       go_simp
     · refine gb_op rfl fun D g w' hS => ?_
       have hBw := hS.below hb0 hb1 hb2 hbR
       have q1 := (hBw.cell (p := ⟨gx, 0, none⟩) lx).trans hgx
       have q2 := (hBw.cell (p := ⟨ga, 0, none⟩) la).trans hga
       have q3 := (hBw.cell (p := ⟨ge, 2, none⟩) le).trans hge
       rw [hT' g]
       clear hT' hS hBw
       go_simp
     · refine gb_op rfl fun D g w' hS => ?_
       have hBw := hS.below hb0 hb1 hb2 hbR
       have q1 := (hBw.cell (p := ⟨gx, 0, none⟩) lx).trans hgx
       have q2 := (hBw.cell (p := ⟨ga, 0, none⟩) la).trans hga
       have q3 := (hBw.cell (p := ⟨ge, 2, none⟩) le).trans hge
       rw [hT' g]
       clear hT' hS hBw
       go_simp
     · refine gb_op rfl fun D g w' hS => ?_
       have hBw := hS.below hb0 hb1 hb2 hbR
       have q1 := (hBw.cell (p := ⟨gx, 0, none⟩) lx).trans hgx
       have q2 := (hBw.cell (p := ⟨ga, 0, none⟩) la).trans hga
       have q3 := (hBw.cell (p := ⟨ge, 2, none⟩) le).trans hge
       rw [hT' g]
       clear hT' hS hBw
       go_simp
     · refine gb_first rfl (by decide) (by decide) (by decide) (fun g => by rw [hT' g]; rfl) (fun g => ?_)
       rw [hT' g]
       clear hT'
       unfold Oper.wp
       go_simp
     · refine gb_op rfl fun D g w' hS => ?_
       have hBw := hS.below hb0 hb1 hb2 hbR
       have q1 := (hBw.cell (p := ⟨gx, 0, none⟩) lx).trans hgx
       have q2 := (hBw.cell (p := ⟨ga, 0, none⟩) la).trans hga
       have q3 := (hBw.cell (p := ⟨ge, 2, none⟩) le).trans hge
       rw [hT' g]
       clear hT' hS hBw
       go_simp
     · refine gb_op rfl fun D g w' hS => ?_
       have hBw := hS.below hb0 hb1 hb2 hbR
       have q1 := (hBw.cell (p := ⟨gx, 0, none⟩) lx).trans hgx
       have q2 := (hBw.cell (p := ⟨ga, 0, none⟩) la).trans hga
       have q3 := (hBw.cell (p := ⟨ge, 2, none⟩) le).trans hge
       rw [hT' g]
       clear hT' hS hBw
       go_simp
     · refine gb_op rfl fun D g w' hS => ?_
       have hBw := hS.below hb0 hb1 hb2 hbR
       have q1 := (hBw.cell (p := ⟨gx, 0, none⟩) lx).trans hgx
       have q2 := (hBw.cell (p := ⟨ga, 0, none⟩) la).trans hga
       have q3 := (hBw.cell (p := ⟨ge, 2, none⟩) le).trans hge
       rw [hT' g]
       clear hT' hS hBw
       go_simp
     · refine gb_op rfl fun D g w' hS => ?_
       have hBw := hS.below hb0 hb1 hb2 hbR
       have q1 := (hBw.cell (p := ⟨gx, 0, none⟩) lx).trans hgx
       have q2 := (hBw.cell (p := ⟨ga, 0, none⟩) la).trans hga
       have q3 := (hBw.cell (p := ⟨ge, 2, none⟩) le).trans hge
       rw [hT' g]
       clear hT' hS hBw
       go_simp
     · refine gb_second rfl (by decide) (by decide) (by decide) (fun g => by rw [hT' g]; rfl) (by kernel_rfl) (fun g => ?_)
       rw [hT' g]
       clear hT'
       unfold Oper.wp
       go_simp
     · refine gb_call rfl rfl (by decide) (by decide) (by decide) rfl (fun g v => by rw [hT', hT']; rfl) (fun g => by rw [hT' g]; rfl) (by kernel_rfl) (fun g => ?_)
       rw [hT' g]
       clear hT'
       unfold Oper.wp
       go_simp
       refine hC.mono ?_
       rintro e w3 ⟨v, rfl, hv, hB⟩
       exact ⟨own_mono8 hv hb2.size, below_trans hb2 hB⟩
     · refine gb_last rfl rfl (by decide) (by decide) (by decide) rfl (fun g => by rw [hT', hT']; rfl) (fun g => by rw [hT' g]; rfl) (by kernel_rfl) (fun g w' => ?_)
       rw [hT' g]
       clear hT'
       unfold Oper.wp
       go_simp
    case finA =>
     intro T hT' D g WF hall hS
     have hTg := hT' g
     simp only [putAll, Act.put, List.setIfInBounds_toArray, List.set_cons_zero, List.set_cons_succ] at hTg
     obtain ⟨ho, hB⟩ := hS.2.2.2.1 (hall 11 (by decide))
     have hg := hS.1.2 (hall 12 (by decide))
     obtain ⟨g, gg⟩ := g
     simp only at hg
     subst hg
     rw [hTg]
     clear hT' hTg hall hS
     go_wp2_with fail
     go_ret
     exact ⟨_, rfl, ho, hB⟩
  · have s3 := s2.2 hcp
    have hb2 := below_trans hb1 (below_alloc (w.drew.alloc (.cells #[eB y] 5)) (.cells #[.slice (some ⟨bk, off, none⟩) p c, .slice (some ⟨w.heap.size, 0, none⟩) 1 1, .slice (some ⟨bk, off + (p + 1), none⟩) (x.length - (p + 1)) (c - (p + 1))] 22))
    clear s2
    have hrw : Rowed ((w.drew.alloc (.cells #[eB y] 5)).alloc (.cells #[.slice (some ⟨bk, off, none⟩) p c, .slice (some ⟨w.heap.size, 0, none⟩) 1 1, (.slice (some ⟨bk, off + (p + 1), none⟩) (x.length - (p + 1)) (c - (p + 1)))] 22)) (w.heap.size + 1) 22 #[.slice (some ⟨bk, off, none⟩) p c, .slice (some ⟨w.heap.size, 0, none⟩) 1 1, (.slice (some ⟨bk, off + (p + 1), none⟩) (x.length - (p + 1)) (c - (p + 1)))] := by
     have h := Rowed.new (w.drew.alloc (.cells #[eB y] 5)) 22 #[.slice (some ⟨bk, off, none⟩) p c, .slice (some ⟨w.heap.size, 0, none⟩) 1 1, (.slice (some ⟨bk, off + (p + 1), none⟩) (x.length - (p + 1)) (c - (p + 1)))]
     rw [World.size_alloc] at h
     exact h
    have hC := Concat3_any (w.heap.size + 1) _ _ _ _ _ _ (x.take p) [y] (x.drop (p + 1)) (by rw [lt1]; have := Hl.out; have := Hp.out; omega) (by simp) (by rw [ld1]; have := Hl.out; omega) ((w.drew.alloc (.cells #[eB y] 5)).alloc (.cells #[.slice (some ⟨bk, off, none⟩) p c, .slice (some ⟨w.heap.size, 0, none⟩) 1 1, (.slice (some ⟨bk, off + (p + 1), none⟩) (x.length - (p + 1)) (c - (p + 1)))] 22)) ((hrw.cell 0).trans (by rw [lt1]; rfl)) (hrw.cell 1) ((hrw.cell 2).trans (by rw [ld1]; rfl)) (by rw [lt1]; exact s1.next hb2) ((one_sl1 (w.drew.alloc (.cells #[eB y] 5)) w.heap.size y ((Rowed.new w.drew 5 #[eB y]).cell 0)).next (below_alloc (w.drew.alloc (.cells #[eB y] 5)) _)) (by rw [ld1]; exact s3.next hb2) (by simp)
    rw [List.append_assoc, List.singleton_append] at hC
    clear lt1 ld1 s1 s3 hS
    obtain ⟨w1, w2⟩ := Hw.out
    go_enter Tryz.func54, Tryz.ntmps54
    go_upto_region 1 with fail
    refine wp_region_ghost (BlkS 5 10 11 12 w.drew (w.drew.alloc (.cells #[eB y] 5)) ((w.drew.alloc (.cells #[eB y] 5)).alloc (.cells #[.slice (some ⟨bk, off, none⟩) p c, .slice (some ⟨w.heap.size, 0, none⟩) 1 1, (.slice (some ⟨bk, off + (p + 1), none⟩) (x.length - (p + 1)) (c - (p + 1)))] 22)) (fun w' u => Own8 w.heap.size w' u (x.take p ++ y :: (x.drop (p + 1))) ∧ Below w.heap.size w w')) (fun g => [(4, .slice (some ⟨bk, off, none⟩) x.length c), (5, .int .i64 p), (6, .slice (some ⟨bk, off, none⟩) p c), (7, .pointer (some ⟨ge, 2, none⟩)), (8, .int .u8 (y.toNat : Int)), (9, .slice (some ⟨w.heap.size, 0, none⟩) 1 1), (10, .slice (some ⟨bk, off, none⟩) x.length c), (11, .int .i64 p), (12, .int .i64 ((p : Int) + 1)), (13, (.slice (some ⟨bk, off + (p + 1), none⟩) (x.length - (p + 1)) (c - (p + 1)))), (14, .slice (some ⟨w.heap.size + 1, 0, none⟩) 3 3), (15, g.1), (3, g.2)]) (undef, undef)
     (by kernel_rfl) (by kernel_rfl) (by kernel_rfl) (by kernel_rfl) (fun _ => by kernel_rfl) ?startA ?okA ?finA
    case startA => exact fun D hD => BlkS.start (hD _ (by decide)) (hD _ (by decide)) (hD _ (by decide)) (hD _ (by decide))
    case okA =>
     intro T hT'
     simp only [putAll, Act.put, List.setIfInBounds_toArray, List.set_cons_zero, List.set_cons_succ] at hT'
     simp only [ghAll]
     refine ⟨?_, ?_, ?_, ?_, ?_, ?_, ?_, ?_, ?_, ?_, ?_, ?_, ?_, trivial⟩
     · refine gb_op rfl fun D g w' hS => ?_
       have hBw := hS.below hb0 hb1 hb2 hbR
       have q1 := (hBw.cell (p := ⟨gx, 0, none⟩) lx).trans hgx
       have q2 := (hBw.cell (p := ⟨ga, 0, none⟩) la).trans hga
       have q3 := (hBw.cell (p := ⟨ge, 2, none⟩) le).trans hge
       rw [hT' g]
       clear hT' hS hBw
       go_simp
     · refine gb_op rfl fun D g w' hS => ?_
       have hBw := hS.below hb0 hb1 hb2 hbR
       have q1 := (hBw.cell (p := ⟨gx, 0, none⟩) lx).trans hgx
       have q2 := (hBw.cell (p := ⟨ga, 0, none⟩) la).trans hga
       have q3 := (hBw.cell (p := ⟨ge, 2, none⟩) le).trans hge
       rw [hT' g]
       clear hT' hS hBw
       go_simp
     · refine gb_op rfl fun D g w' hS => ?_
       have hBw := hS.below hb0 hb1 hb2 hbR
       have q1 := (hBw.cell (p := ⟨gx, 0, none⟩) lx).trans hgx
       have q2 := (hBw.cell (p := ⟨ga, 0, none⟩) la).trans hga
       have q3 := (hBw.cell (p := ⟨ge, 2, none⟩) le).trans hge
       rw [hT' g]
       clear hT' hS hBw
       go_simp
     · refine gb_op rfl fun D g w' hS => ?_
       have hBw := hS.below hb0 hb1 hb2 hbR
       have q1 := (hBw.cell (p := ⟨gx, 0, none⟩) lx).trans hgx
       have q2 := (hBw.cell (p := ⟨ga, 0, none⟩) la).trans hga
       have q3 := (hBw.cell (p := ⟨ge, 2, none⟩) le).trans hge
       rw [hT' g]
       clear hT' hS hBw
       go_simp
     · refine gb_op rfl fun D g w' hS => ?_
       have hBw := hS.below hb0 hb1 hb2 hbR
       have q1 := (hBw.cell (p := ⟨gx, 0, none⟩) lx).trans hgx
       have q2 := (hBw.cell (p := ⟨ga, 0, none⟩) la).trans hga
       have q3 := (hBw.cell (p := ⟨ge, 2, none⟩) le).trans hge
       rw [hT' g]
       clear hT' hS hBw
       go_simp
     · refine gb_first rfl (by decide) (by decide) (by decide) (fun g => by rw [hT' g]; rfl) (fun g => ?_)
       rw [hT' g]
       clear hT'
       unfold Oper.wp
       go_simp
     · refine gb_op rfl fun D g w' hS => ?_
       have hBw := hS.below hb0 hb1 hb2 hbR
       have q1 := (hBw.cell (p := ⟨gx, 0, none⟩) lx).trans hgx
       have q2 := (hBw.cell (p := ⟨ga, 0, none⟩) la).trans hga
       have q3 := (hBw.cell (p := ⟨ge, 2, none⟩) le).trans hge
       rw [hT' g]
       clear hT' hS hBw
       go_simp
     · refine gb_op rfl fun D g w' hS => ?_
       have hBw := hS.below hb0 hb1 hb2 hbR
       have q1 := (hBw.cell (p := ⟨gx, 0, none⟩) lx).trans hgx
       have q2 := (hBw.cell (p := ⟨ga, 0, none⟩) la).trans hga
       have q3 := (hBw.cell (p := ⟨ge, 2, none⟩) le).trans hge
       rw [hT' g]
       clear hT' hS hBw
       go_simp
     · refine gb_op rfl fun D g w' hS => ?_
       have hBw := hS.below hb0 hb1 hb2 hbR
       have q1 := (hBw.cell (p := ⟨gx, 0, none⟩) lx).trans hgx
       have q2 := (hBw.cell (p := ⟨ga, 0, none⟩) la).trans hga
       have q3 := (hBw.cell (p := ⟨ge, 2, none⟩) le).trans hge
       rw [hT' g]
       clear hT' hS hBw
       go_simp
     · refine gb_op rfl fun D g w' hS => ?_
       have hBw := hS.below hb0 hb1 hb2 hbR
       have q1 := (hBw.cell (p := ⟨gx, 0, none⟩) lx).trans hgx
       have q2 := (hBw.cell (p := ⟨ga, 0, none⟩) la).trans hga
       have q3 := (hBw.cell (p := ⟨ge, 2, none⟩) le).trans hge
       rw [hT' g]
       clear hT' hS hBw
       go_simp
     · refine gb_second rfl (by decide) (by decide) (by decide) (fun g => by rw [hT' g]; rfl) (by kernel_rfl) (fun g => ?_)
       rw [hT' g]
       clear hT'
       unfold Oper.wp
       go_simp
     · refine gb_call rfl rfl (by decide) (by decide) (by decide) rfl (fun g v => by rw [hT', hT']; rfl) (fun g => by rw [hT' g]; rfl) (by kernel_rfl) (fun g => ?_)
       rw [hT' g]
       clear hT'
       unfold Oper.wp
       go_simp
       refine hC.mono ?_
       rintro e w3 ⟨v, rfl, hv, hB⟩
       exact ⟨own_mono8 hv hb2.size, below_trans hb2 hB⟩
     · refine gb_last rfl rfl (by decide) (by decide) (by decide) rfl (fun g => by rw [hT', hT']; rfl) (fun g => by rw [hT' g]; rfl) (by kernel_rfl) (fun g w' => ?_)
       rw [hT' g]
       clear hT'
       unfold Oper.wp
       go_simp
    case finA =>
     intro T hT' D g WF hall hS
     have hTg := hT' g
     simp only [putAll, Act.put, List.setIfInBounds_toArray, List.set_cons_zero, List.set_cons_succ] at hTg
     obtain ⟨ho, hB⟩ := hS.2.2.2.1 (hall 11 (by decide))
     have hg := hS.1.2 (hall 12 (by decide))
     obtain ⟨g, gg⟩ := g
     simp only at hg
     subst hg
     rw [hTg]
     clear hT' hTg hall hS
     go_wp2_with fail
     go_ret
     exact ⟨_, rfl, ho, hB⟩
end Go.Proofs.YtkibigbcdlilkaaGreatDoor.Ed
