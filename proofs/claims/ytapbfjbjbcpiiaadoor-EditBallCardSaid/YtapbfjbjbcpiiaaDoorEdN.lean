/- EditMetric. -/
import Derived.Test.YtapbfjbjbcpiiaaDoorEdM
namespace Go.Proofs.YtapbfjbjbcpiiaaDoor
open Go.RowKit Go.Shelf
attribute [local go_sem] Oper.semAt_some

set_option maxRecDepth 100000 in
set_option maxHeartbeats 2000000 in
theorem EditMetric_any (v0 v1 v2 : Value) (a b c : List UInt8) (w : World) (hP : Sl eB w.heap.size w v0 a) (hQ : Sl eB w.heap.size w v1 b) (hR : Sl eB w.heap.size w v2 c) (hT : TabE w) :
    Calls Tryd.prog 4 #[v0, v1, v2] w fun e w' => e = .returned (.bool true) ∧ Below w.heap.size w w' := by
  obtain ⟨A0, c0, rfl⟩ := hP.len
  obtain ⟨A1, c1, rfl⟩ := hQ.len
  obtain ⟨A2, c2, rfl⟩ := hR.len
  have hA0 := below_alloc w (.cells #[.slice A0 a.length c0, .slice A1 b.length c1, .slice A2 c.length c2] 25)
  have hr0 := Rowed.new w 25 #[.slice A0 a.length c0, .slice A1 b.length c1, .slice A2 c.length c2]
  have g0 := hr0.cell 0
  have g1 := hr0.cell 1
  have g2 := hr0.cell 2
  have g0' : (w.alloc (.cells #[.slice A0 a.length c0, .slice A1 b.length c1, .slice A2 c.length c2] 25)).cell? ⟨w.heap.size, 0, none⟩ = some (.slice A0 a.length c0) := g0
  have g1' : (w.alloc (.cells #[.slice A0 a.length c0, .slice A1 b.length c1, .slice A2 c.length c2] 25)).cell? ⟨w.heap.size, 1, none⟩ = some (.slice A1 b.length c1) := g1
  have g2' : (w.alloc (.cells #[.slice A0 a.length c0, .slice A1 b.length c1, .slice A2 c.length c2] 25)).cell? ⟨w.heap.size, 2, none⟩ = some (.slice A2 c.length c2) := g2
  clear g0 g1 g2 hr0
  have hT := hT.below hA0
  by_cases hbig : 300 < a.length ∨ 300 < b.length ∨ 300 < c.length
  · have hg := great3_yes A0 A1 A2 a.length c0 b.length c1 c.length c2 _ _ g0' g1' g2' hbig
    clear g0' g1' g2' hbig hP hQ hR
    go_enter Tryd.func4, Tryd.ntmps4
    go_wp2_with fail
    generalize w.alloc (.cells #[.slice A0 a.length c0, .slice A1 b.length c1, .slice A2 c.length c2] 25) = w1 at *
    go_at_call 14
    refine hg.mono ?_
    rintro e w' ⟨rfl, rfl⟩
    clear hg
    go_wp2_with fail
    go_at_call 15
    refine (wakes_any _ hT).mono ?_
    rintro e w2 ⟨rfl, hB⟩
    go_wp2
    go_ret
    exact ⟨rfl, below_trans hA0 hB⟩
  · have hg := great3_no A0 A1 A2 a.length c0 b.length c1 c.length c2 _ _ g0' g1' g2' (by omega) (by omega) (by omega)
    have h0 : a.length ≤ 300 := by omega
    have h1 : b.length ≤ 300 := by omega
    have h2 : c.length ≤ 300 := by omega
    clear g0' g1' g2' hbig
    have hP := hP.next hA0
    have hQ := hQ.next hA0
    have hR := hR.next hA0
    have cA : cut a = a := cut_same a (by omega)
    have cB : cut b = b := cut_same b (by omega)
    have cC : cut c = c := cut_same c (by omega)
    have fab := fun w h1 h2 => Distance_any (.slice A0 a.length c0) (.slice A1 b.length c1) a b w h1 h2
    have fba := fun w h1 h2 => Distance_any (.slice A1 b.length c1) (.slice A0 a.length c0) b a w h1 h2
    have fac := fun w h1 h2 => Distance_any (.slice A0 a.length c0) (.slice A2 c.length c2) a c w h1 h2
    have fcb := fun w h1 h2 => Distance_any (.slice A2 c.length c2) (.slice A1 b.length c1) c b w h1 h2
    have fn := fun w h1 h2 => Near_any (.slice A0 a.length c0) (.slice A1 b.length c1) a b w h1 h2
    have fw := fun m w h1 h2 => Within_any (.slice A0 a.length c0) (.slice A1 b.length c1) a b m w h1 h2
    unfold wiN wiB at fw
    rw [cA, cB] at fab fn
    rw [cA, cB] at fba
    rw [cA, cC] at fac
    rw [cC, cB] at fcb
    simp only [cA, cB] at fw
    rw [dist_comm b a] at fba
    have hz0 : (a == b) = decide ((dist a b : Int) = 0) := by
      rw [beq_dec]
      exact decide_eq_decide.2 (by rw [← dist_zero]; omega)
    have htri := dist_tri a c b
    have hap := dist_apart a b
    have hmo := dist_most a b
    have hn : decide (dist a b ≤ 1) = decide ((dist a b : Int) ≤ 1) := decide_eq_decide.2 (by omega)
    rw [hn] at fn
    have hx := dist_most a c
    have hy := dist_most c b
    obtain ⟨z, hz⟩ : ∃ z : Int, (dist a b : Int) = z := ⟨_, rfl⟩
    obtain ⟨x, hxx⟩ : ∃ z : Int, (dist a c : Int) = z := ⟨_, rfl⟩
    obtain ⟨y, hyy⟩ : ∃ z : Int, (dist c b : Int) = z := ⟨_, rfl⟩
    obtain ⟨M, hM⟩ : ∃ M : Int, max (a.length : Int) b.length = M := ⟨_, rfl⟩
    obtain ⟨m, hm⟩ : ∃ M : Int, min (a.length : Int) b.length = M := ⟨_, rfl⟩
    have t1 : (x + y < z) = False := eq_false (by omega)
    have t5 : (M - m ≤ z) = True := eq_true (by omega)
    have t6 : (z ≤ M) = True := eq_true (by omega)
    have t7 : (z ≤ z) = True := eq_true (by omega)
    have t8 : (z ≤ z - 1) = False := eq_false (by omega)
    have t2 := w_is (x + y) (x + y) rfl (by omega) (by omega)
    have t3 := w_is (M - m) (M - m) rfl (by omega) (by omega)
    have t4 := w_is (z - 1) (z - 1) rfl (by omega) (by omega)
    rw [hz] at fab fba fn hz0
    rw [hxx] at fac
    rw [hyy] at fcb
    simp only [hz] at fw
    have fw1 := fw z
    have fw2 := fw (z - 1)
    simp only [t7, t8, if_true, if_false, decide_true, decide_false] at fw1 fw2
    have rM : ∀ (P : Program) (ts : Array TypeId) (t : TypeId) (w : World), (Builtin.max_ ts t #[.int .i64 (a.length : Int), .int .i64 (b.length : Int)]).run P w = .ok (.int .i64 M) w := fun P ts t w => by rw [run_max_i, hM]
    have rm : ∀ (P : Program) (ts : Array TypeId) (t : TypeId) (w : World), (Builtin.min_ ts t #[.int .i64 (a.length : Int), .int .i64 (b.length : Int)]).run P w = .ok (.int .i64 m) w := fun P ts t w => by rw [run_min_i, hm]
    obtain ⟨t2, t2'⟩ := t2
    obtain ⟨t3, t3'⟩ := t3
    obtain ⟨t4, t4'⟩ := t4
    clear fw htri hap hmo hx hy hz hxx hyy hM hm hn cA cB cC h0 h1 h2 t7 t8
    go_enter Tryd.func4, Tryd.ntmps4
    go_wp2_with fail
    generalize w.alloc (.cells #[.slice A0 a.length c0, .slice A1 b.length c1, .slice A2 c.length c2] 25) = w1 at *
    go_at_call 14
    refine hg.mono ?_
    rintro e w' ⟨rfl, rfl⟩
    clear hg
    go_wp2_with fail
    go_at_call 16
    refine (fab _ hP hQ).mono ?_
    rintro e w2 ⟨rfl, hC⟩
    have sa := str_of (hP.next hC)
    have sb := str_of (hQ.next hC)
    have hP := hP.next hC
    have hQ := hQ.next hC
    have hR := hR.next hC
    have hT := hT.below hC
    have hB0 := below_trans hA0 hC
    clear hA0 hC
    go_wp2_with fail
    go_at_call 16
    refine (fba _ hQ hP).mono ?_
    rintro e w3 ⟨rfl, hC⟩
    have hP := hP.next hC
    have hQ := hQ.next hC
    have hR := hR.next hC
    have hT := hT.below hC
    have hB0 := below_trans hB0 hC
    clear hC fba sa sb
    go_wp2_with fail
    go_at_call 16
    refine (fac _ hP hR).mono ?_
    rintro e w4 ⟨rfl, hC⟩
    have hP := hP.next hC
    have hQ := hQ.next hC
    have hR := hR.next hC
    have hT := hT.below hC
    have hB0 := below_trans hB0 hC
    clear hC fac
    go_wp2_with fail
    go_at_call 16
    refine (fcb _ hR hQ).mono ?_
    rintro e w5 ⟨rfl, hC⟩
    have hP := hP.next hC
    have hQ := hQ.next hC
    have hR := hR.next hC
    have hT := hT.below hC
    have hB0 := below_trans hB0 hC
    clear hC fcb
    go_wp2_with fail
    go_at_call 17
    refine (fw1 _ hP hQ).mono ?_
    rintro e w6 ⟨rfl, hC⟩
    have hP := hP.next hC
    have hQ := hQ.next hC
    have hR := hR.next hC
    have hT := hT.below hC
    have hB0 := below_trans hB0 hC
    clear hC fw1
    go_wp2_with fail
    go_at_call 17
    refine (fw2 _ hP hQ).mono ?_
    rintro e w7 ⟨rfl, hC⟩
    have hP := hP.next hC
    have hQ := hQ.next hC
    have hR := hR.next hC
    have hT := hT.below hC
    have hB0 := below_trans hB0 hC
    clear hC fw2
    go_wp2_with fail
    go_at_call 18
    refine (fn _ hP hQ).mono ?_
    rintro e w8 ⟨rfl, hC⟩
    have hP := hP.next hC
    have hQ := hQ.next hC
    have hR := hR.next hC
    have hT := hT.below hC
    have hB0 := below_trans hB0 hC
    clear hC fn
    go_wp2_with fail
    go_at_call 15
    refine (wakes_any _ hT).mono ?_
    rintro e w9 ⟨rfl, hC⟩
    have hB0 := below_trans hB0 hC
    go_wp2_with fail
    go_ret
    exact ⟨rfl, hB0⟩
end Go.Proofs.YtapbfjbjbcpiiaaDoor
