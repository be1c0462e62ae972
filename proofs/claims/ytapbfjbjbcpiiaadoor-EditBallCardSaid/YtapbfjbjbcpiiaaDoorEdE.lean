/- Contracts of edit.rest, the closures of edit.Apply. -/
import Derived.Test.YtapbfjbjbcpiiaaDoorEdD
import Derived.Test.YtapbfjbjbcpiiaaDoorEdC
import Derived.Test.YtapbfjbjbcpiiaaDoorGH
namespace Go.Proofs.YtapbfjbjbcpiiaaDoor
open Go.RowKit Go.Shelf
attribute [local go_sem] Oper.semAt_some run_store_func

theorem erest_any (z : Int) (L p : Nat) (h0 : 0 < L) (hat : (wrap64 (z.tmod (L : Int) + (L : Int))).tmod (L : Int) = (p : Int)) (w : World) :
    Calls Tryd.prog 36 #[.int .i64 z, .int .i64 L] w fun e w' => e = .returned (.int .i64 p) ∧ w = w' := by
  have hL0 : ¬ (L : Int) = 0 := by omega
  have hL0' : ¬ L = 0 := by omega
  clear h0
  go_enter Tryd.func36, Tryd.ntmps36
  go_wp2_with fail
  go_ret
  exact ⟨rfl, rfl⟩
theorem from_ex2 {B : Nat} {W : World} {bk off c p : Nat} {s : List UInt8} (h : Sl eB B W (.slice (some ⟨bk, off, none⟩) s.length c) s) (hp : p ≤ s.length) :
    (c = p → Sl eB B W (.slice (some ⟨bk, off, none⟩) (s.length - p) 0) (s.drop p)) ∧ (¬ c = p → Sl eB B W (.slice (some ⟨bk, off + p, none⟩) (s.length - p) (c - p)) (s.drop p)) := by
  refine ⟨fun e => ?_, fun e => h.from_ hp _ (fun _ => by simp [Addr.add])⟩
  have := h.from_ hp (some ⟨bk, off, none⟩) (fun hne => absurd e hne)
  rwa [e, Nat.sub_self] at this
theorem own_mono8 {B B' : Nat} {w : World} {v : Value} {bs : List UInt8} (h : Own8 B w v bs) (hb : B' ≤ B) : Own8 B' w v bs := by
  obtain ⟨h1, h2⟩ := h
  refine ⟨h1, ?_⟩
  rcases h2 with ⟨h3, h4⟩ | ⟨g, cap, cur, h3, h4, h5⟩
  · exact .inl ⟨h3, h4⟩
  · exact .inr ⟨g, cap, cur, h3, by omega, h5⟩
/-- Apply's first closure: the word as it is. -/
theorem deed_none (x : List UInt8) (v : Value) (g : Nat) (hl : x.length ≤ 1000000) (w : World) (hg : w.cell? ⟨g, 0, none⟩ = some v) (hS : Sl eB w.heap.size w v x) :
    Calls Tryd.prog 37 #[.pointer (some ⟨g, 0, none⟩)] w fun e w' => ∃ u, e = .returned u ∧ Own8 w.heap.size w' u x ∧ Below w.heap.size w w' := by
  have hC := BClone_any v x (by omega) w hS
  go_enter Tryd.func37, Tryd.ntmps37
  go_wp2_with fail
  go_at_call 30
  refine hC.mono ?_
  rintro e w1 ⟨u, rfl, hu, hB⟩
  go_wp2_with fail
  go_ret
  exact ⟨u, rfl, hu, hB⟩
set_option maxRecDepth 100000 in
set_option maxHeartbeats 2000000 in
/-- Apply's second closure: a letter is left out. -/
theorem deed_gap (x : List UInt8) (A : Option Addr) (c : Nat) (g ga p : Nat) (hl : x.length ≤ 400) (hp : p < x.length) (w : World) (hg : w.cell? ⟨g, 0, none⟩ = some (.slice A x.length c)) (hga : w.cell? ⟨ga, 0, none⟩ = some (.int .i64 p)) (hS : Sl eB w.heap.size w (.slice A x.length c) x) :
    Calls Tryd.prog 38 #[.pointer (some ⟨g, 0, none⟩), .pointer (some ⟨ga, 0, none⟩)] w fun e w' => ∃ u, e = .returned u ∧ Own8 w.heap.size w' u (x.take p ++ x.drop (p + 1)) ∧ Below w.heap.size w w' := by
  have hE : x ≠ [] := fun e => by rw [e] at hp; simp at hp
  obtain ⟨A', c', e, hcc, hcs⟩ := id hS
  injection e with e1 e2 e3
  subst e1 e3
  obtain ⟨bk, off, rfl, hbk, hcell⟩ := hcs (by omega)
  have s1 := hS.upto (p := p) (by omega)
  have s2 := from_ex2 (p := p + 1) hS (by omega)
  have lt1 : (x.take p).length = p := by rw [List.length_take]; omega
  have ld1 : (x.drop (p + 1)).length = x.length - (p + 1) := List.length_drop
  have e2 : ((p : Int) + 1).toNat = p + 1 := by omega
  have b0 : (p : Int) ≤ (c : Int) := by omega
  have b1 : (0 : Int) ≤ (p : Int) + 1 := by omega
  have b4 : (p : Int) ≤ (p : Int) + 1 := by omega
  have b2 : (p : Int) + 1 ≤ (x.length : Int) := by omega
  have b3 : (x.length : Int) ≤ (c : Int) := by omega
  have w1 := wz ((p : Int) + 1) (by omega) (by omega)
  have w2 := iz ((p : Int) + 1) (by omega) (by omega)
  have q1 : w.drew.cell? ⟨g, 0, none⟩ = some (.slice (some ⟨bk, off, none⟩) x.length c) := hg
  have q2 : w.drew.cell? ⟨ga, 0, none⟩ = some (.int .i64 p) := hga
  have Hl := Lib.hid hl
  have Hp := Lib.hid hp
  clear hcs hcell hcc hE hl hp
  have hB0 : Below w.heap.size w w.drew := ⟨rfl, rfl, rfl, Nat.le_refl _, fun _ _ => rfl⟩
  by_cases hcp : c = p + 1
  · have s3 := s2.1 hcp
    have hxl : x.length - (p + 1) = 0 := by have := Hp.out; omega
    rw [hxl] at s3
    have ld2 : (x.drop (p + 1)).length = 0 := by rw [ld1, hxl]
    subst hcp
    clear s2 ld1
    have hC := Concat2_any w.heap.size _ _ _ _ (x.take p) (x.drop (p + 1)) (by rw [lt1]; have := Hl.out; have := Hp.out; omega) (by rw [ld2]; have := Hl.out; omega) (w.drew.alloc (.cells #[.slice (some ⟨bk, off, none⟩) p (p + 1), .slice (some ⟨bk, off, none⟩) 0 0] 25)) ((Rowed.new w.drew 25 #[.slice (some ⟨bk, off, none⟩) p (p + 1), .slice (some ⟨bk, off, none⟩) 0 0]).cell 0 |>.trans (by rw [lt1]; rfl)) ((Rowed.new w.drew 25 #[.slice (some ⟨bk, off, none⟩) p (p + 1), .slice (some ⟨bk, off, none⟩) 0 0]).cell 1 |>.trans (by rw [ld2]; rfl)) (by rw [lt1]; exact s1.next (below_trans hB0 (below_alloc w.drew _))) (by rw [ld2]; exact s3.next (below_trans hB0 (below_alloc w.drew _))) (by simp)
    have hBA := below_trans hB0 (below_alloc w.drew (.cells #[.slice (some ⟨bk, off, none⟩) p (p + 1), .slice (some ⟨bk, off, none⟩) 0 0] 25))
    clear lt1 ld2 s1 s3 hS
    go_enter Tryd.func38, Tryd.ntmps38
    go_upto_region 1 with fail
    refine (wpIn_wide (n := 5)).1 ?_
    refine wpIn_region_det 7 [(3, .slice (some ⟨bk, off, none⟩) x.length (p + 1)), (4, .int .i64 p), (5, .slice (some ⟨bk, off, none⟩) p (p + 1)), (6, .slice (some ⟨bk, off, none⟩) x.length (p + 1)), (7, .int .i64 p), (8, .int .i64 ((p : Int) + 1)), (9, .slice (some ⟨bk, off, none⟩) 0 0)]
      (by kernel_rfl) (by decide) (by kernel_rfl) (by kernel_rfl) (by kernel_rfl) (by kernel_rfl) (by kernel_rfl) ?ok1 ?tail1
    case ok1 =>
      intro A' hA'
      simp only [putAll, Act.put, List.setIfInBounds_toArray, List.set_cons_zero, List.set_cons_succ] at hA'
      subst hA'
      refine ⟨?_, ?_, ?_, ?_, ?_, ?_, ?_, trivial⟩
      all_goals unfold DetIn
      all_goals go_simp
    case tail1 =>
      intro A' hA'
      simp only [putAll, Act.put, List.setIfInBounds_toArray, List.set_cons_zero, List.set_cons_succ] at hA'
      subst hA'
      simp only [List.drop_succ_cons, List.drop_zero]
      gi_wp2_with fail
      refine ⟨trivial, ?_⟩
      gi_at_call 39
      refine (callsIn_wide.2 hC).mono ?_
      rintro e w3 ⟨u, rfl, hu, hB⟩
      gi_wp2_with fail
      go_wp2_with fail
      go_ret
      exact ⟨u, rfl, own_mono8 hu hBA.size, below_trans hBA hB⟩
  · have s3 := s2.2 hcp
    clear s2
    have hC := Concat2_any w.heap.size _ _ _ _ (x.take p) (x.drop (p + 1)) (by rw [lt1]; have := Hl.out; have := Hp.out; omega) (by rw [ld1]; have := Hl.out; omega) (w.drew.alloc (.cells #[.slice (some ⟨bk, off, none⟩) p c, .slice (some ⟨bk, off + (p + 1), none⟩) (x.length - (p + 1)) (c - (p + 1))] 25)) ((Rowed.new w.drew 25 #[.slice (some ⟨bk, off, none⟩) p c, .slice (some ⟨bk, off + (p + 1), none⟩) (x.length - (p + 1)) (c - (p + 1))]).cell 0 |>.trans (by rw [lt1]; rfl)) ((Rowed.new w.drew 25 #[.slice (some ⟨bk, off, none⟩) p c, .slice (some ⟨bk, off + (p + 1), none⟩) (x.length - (p + 1)) (c - (p + 1))]).cell 1 |>.trans (by rw [ld1]; rfl)) (by rw [lt1]; exact s1.next (below_trans hB0 (below_alloc w.drew _))) (by rw [ld1]; exact s3.next (below_trans hB0 (below_alloc w.drew _))) (by simp)
    have hBA := below_trans hB0 (below_alloc w.drew (.cells #[.slice (some ⟨bk, off, none⟩) p c, .slice (some ⟨bk, off + (p + 1), none⟩) (x.length - (p + 1)) (c - (p + 1))] 25))
    clear lt1 ld1 s1 s3 hS
    go_enter Tryd.func38, Tryd.ntmps38
    go_upto_region 1 with fail
    refine (wpIn_wide (n := 5)).1 ?_
    refine wpIn_region_det 7 [(3, .slice (some ⟨bk, off, none⟩) x.length c), (4, .int .i64 p), (5, .slice (some ⟨bk, off, none⟩) p c), (6, .slice (some ⟨bk, off, none⟩) x.length c), (7, .int .i64 p), (8, .int .i64 ((p : Int) + 1)), (9, .slice (some ⟨bk, off + (p + 1), none⟩) (x.length - (p + 1)) (c - (p + 1)))]
      (by kernel_rfl) (by decide) (by kernel_rfl) (by kernel_rfl) (by kernel_rfl) (by kernel_rfl) (by kernel_rfl) ?ok1 ?tail1
    case ok1 =>
      intro A' hA'
      simp only [putAll, Act.put, List.setIfInBounds_toArray, List.set_cons_zero, List.set_cons_succ] at hA'
      subst hA'
      refine ⟨?_, ?_, ?_, ?_, ?_, ?_, ?_, trivial⟩
      all_goals unfold DetIn
      all_goals go_simp
    case tail1 =>
      intro A' hA'
      simp only [putAll, Act.put, List.setIfInBounds_toArray, List.set_cons_zero, List.set_cons_succ] at hA'
      subst hA'
      simp only [List.drop_succ_cons, List.drop_zero]
      gi_wp2_with fail
      refine ⟨trivial, ?_⟩
      gi_at_call 39
      refine (callsIn_wide.2 hC).mono ?_
      rintro e w3 ⟨u, rfl, hu, hB⟩
      gi_wp2_with fail
      go_wp2_with fail
      go_ret
      exact ⟨u, rfl, own_mono8 hu hBA.size, below_trans hBA hB⟩
end Go.Proofs.YtapbfjbjbcpiiaaDoor
