/- SumsSwap. -/
import Derived.Test.YtheealkoooiloaaDoorSuS
namespace Go.Proofs.YtheealkoooiloaaDoor
open Go.RowKit Go.Shelf
attribute [local go_sem] Oper.semAt_some run_store_func

theorem Of_clean (x : List UInt8) (h : CleanP x) (sv : Value) (w : World) (hT : Tab w) (hS : Sl eB w.heap.size w sv x) :
    Calls Tryd.prog 9 #[sv] w fun e w' => e = .returned (.tuple #[v3 (sT x x.length % x.length) (sS x x.length % 4) (sW x x.length % (6 * x.length + 1)), .int .i64 0]) ∧ Below w.heap.size w w' :=
  Of_yes x _ _ _ (clean_sums x h) (by have := h.2.1; omega) sv w hT hS
set_option maxRecDepth 100000 in
set_option maxHeartbeats 4000000 in
theorem SumsSwap_some (v0 : Value) (x : List UInt8) (z1 z2 : Int) (b c : UInt8) (w : World) (hS : Sl eB w.heap.size w v0 x) (hT : Tab w) (hx : CleanP x) :
    Calls Tryd.prog 5 #[v0, .int .i64 z1, .int .i64 z2, eB b, eB c] w fun e w' => e = .returned (.bool true) ∧ Below w.heap.size w w' := by
  have hw := wakes_any
  have hcx := fun w h => clean_any v0 x w h
  rw [decide_eq_true hx] at hcx
  have hOx := Of_clean x hx v0
  obtain ⟨p, hp, hat1⟩ := at_is z1 x.length (by have := hx.1; omega) (by have := hx.2.1; omega)
  obtain ⟨q, hq, hat2⟩ := at_is z2 x.length (by have := hx.1; omega) (by have := hx.2.1; omega)
  have hl1 : (x.set p b).length = x.length := by simp
  have hA1 := fun w h => Apply_swap v0 x z1 b p (by omega) (by have := hx.2.1; omega) hp hat1 w h
  have hA2 := fun v w h => Apply_swap v (x.set p b) z2 c q (by omega) (by rw [hl1]; have := hx.2.1; omega) (by omega) (by rw [hl1]; exact hat2) w h
  have hcy := fun v w h => clean_any v ((x.set p b).set q c) w h
  have hbd : ∀ (z : Int) (b : UInt8) w, (Instr.build 40 #[(0, .int .u8 3), (1, .int .i64 z), (2, eB b)]).run Tryd.prog w = .ok (eD 3 z b) w := fun _ _ _ => by kernel_rfl
  have hsame := swap_same x p q b c hx.1 hp hq hx.2.2
  have hly : ((x.set p b).set q c).length = x.length := by simp
  by_cases hy : CleanP ((x.set p b).set q c)
  · rw [decide_eq_true hy] at hcy
    have hOy := Of_clean _ hy
    rw [hly] at hOy
    have hsame := hsame (fun k hk => hy.2.2 k (by omega))
    generalize (x.set p b).set q c = y at *
    generalize x.set p b = x1 at *
    have Hs := Lib.hid hsame
    clear hsame hly hl1 hat1 hat2 hp hq hx hy
    generalize sT x x.length % (x.length : Int) = t1 at *
    generalize sT y x.length % (x.length : Int) = t2 at *
    generalize sS x x.length % 4 = s1 at *
    generalize sS y x.length % 4 = s2 at *
    generalize sW x x.length % (6 * (x.length : Int) + 1) = u1 at *
    generalize sW y x.length % (6 * (x.length : Int) + 1) = u2 at *
    go_enter Tryd.func5, Tryd.ntmps5
    go_wp2_with fail
    go_at_call 21
    refine (hcx _ hS).mono ?_
    rintro e w' ⟨rfl, rfl⟩
    go_wp2_with fail
    go_at_call 22
    refine (hA1 _ hS).mono ?_
    rintro e w1 ⟨v1, rfl, hv1, hB1⟩
    have hS1 := hS.next hB1
    have hT1 := hT.below hB1
    go_wp2_with fail
    go_at_call 22
    refine (hA2 _ _ hv1).mono ?_
    rintro e w2 ⟨v2, rfl, hv2, hB2⟩
    have hS2 := hS1.next hB2
    have hT2 := hT1.below hB2
    have hB2 := below_trans hB1 hB2
    clear hA1 hA2 hv1 hS1 hT1 hB1 hcx hbd
    go_wp2_with fail
    go_at_call 21
    refine (hcy _ _ hv2).mono ?_
    rintro e w' ⟨rfl, rfl⟩
    clear hcy
    go_wp2_with fail
    go_at_call 9
    refine (hOx _ hT2 hS2).mono ?_
    rintro e w3 ⟨rfl, hB3⟩
    have hA3 := below_alloc w3 (.cells (c3 t1 s1 u1) 24)
    have hr3 := Rowed.new w3 24 (c3 t1 s1 u1)
    have hBx := below_trans hB3 hA3
    have hS3 := hS2.next hBx
    have hv3 := hv2.next hBx
    have hT3 := hT2.below hBx
    have hB3 := below_trans hB2 hBx
    have hlt3 := hr3.lt
    clear hOx hS2 hv2 hT2 hB2 hA3 hBx
    go_upto_region 7 with fail
    generalize w3.alloc (.cells (c3 t1 s1 u1) 24) = w4 at *
    generalize w3.heap.size = g4 at *
    go_wp2_with fail
    go_at_call 9
    refine (hOy _ _ hT3 hv3).mono ?_
    rintro e w5 ⟨rfl, hB5⟩
    have hA5 := below_alloc w5 (.cells (c3 t2 s2 u2) 24)
    have hr5 := Rowed.new w5 24 (c3 t2 s2 u2)
    have hBx := below_trans hB5 hA5
    have hr4 := hr3.below hBx hlt3
    have hS5 := hS3.next hBx
    have hv5 := hv3.next hBx
    have hT5 := hT3.below hBx
    have hB5 := below_trans hB3 hBx
    clear hOy hS3 hv3 hT3 hB3 hA5 hBx hr3
    go_upto_region 8 with fail
    generalize w5.alloc (.cells (c3 t2 s2 u2) 24) = w6 at *
    generalize w5.heap.size = g6 at *
    have k0 := hr4.cell 0
    have k1 := hr4.cell 1
    have k2 := hr4.cell 2
    have m0 := hr5.cell 0
    have m1 := hr5.cell 1
    have m2 := hr5.cell 2
    simp at k0 k1 k2 m0 m1 m2
    have hEq := fun w => eqS t1 s1 u1 t2 s2 u2 w
    cases hq : (t1 == t2 && (s1 == s2 && u1 == u2)) with
    | false =>
      rw [hq] at hEq
      clear hq
      go_wp2_with (go_at_call 8; refine (hw _ hT5).mono ?_; rintro e w' ⟨rfl, hB⟩)
      go_ret
      exact ⟨rfl, below_trans hB5 hB⟩
    | true =>
      rw [hq] at hEq
      simp only [Bool.and_eq_true, beq_iff_eq] at hq
      obtain rfl : y = x := Hs.out hq.2.1.symm hq.2.2.symm
      have e1 := run_str (P := Tryd.prog) hS5 22 9 5 Tryd.underlying22 Tryd.underlying5 Tryd.underlying9
      have e2 := run_str (P := Tryd.prog) hv5 22 9 5 Tryd.underlying22 Tryd.underlying5 Tryd.underlying9
      obtain ⟨Aa, ca, rfl⟩ := hS5.len
      obtain ⟨Ab, cb, rfl⟩ := hv5.len
      have e3 : ((⟨y.toArray⟩ : ByteArray) == ⟨y.toArray⟩) = true := by rw [str_eq]; simp
      clear hq hS5 hv5 Hs hS
      go_wp2_with (go_at_call 8; refine (hw _ hT5).mono ?_; rintro e w' ⟨rfl, hB⟩)
      go_ret
      exact ⟨rfl, below_trans hB5 hB⟩
  · rw [decide_eq_false hy] at hcy
    clear hy hsame hly hOx
    generalize (x.set p b).set q c = y at *
    generalize x.set p b = x1 at *
    clear hl1 hat1 hat2 hp hq hx
    go_enter Tryd.func5, Tryd.ntmps5
    go_wp2_with fail
    go_at_call 21
    refine (hcx _ hS).mono ?_
    rintro e w' ⟨rfl, rfl⟩
    go_wp2_with fail
    go_at_call 22
    refine (hA1 _ hS).mono ?_
    rintro e w1 ⟨v1, rfl, hv1, hB1⟩
    have hT1 := hT.below hB1
    go_wp2_with fail
    go_at_call 22
    refine (hA2 _ _ hv1).mono ?_
    rintro e w2 ⟨v2, rfl, hv2, hB2⟩
    have hT2 := hT1.below hB2
    have hB2 := below_trans hB1 hB2
    clear hA1 hA2 hv1 hT1 hB1 hcx hbd
    go_wp2_with fail
    go_at_call 21
    refine (hcy _ _ hv2).mono ?_
    rintro e w' ⟨rfl, rfl⟩
    go_wp2_with (go_at_call 8; refine (hw _ hT2).mono ?_; rintro e w' ⟨rfl, hB⟩)
    go_ret
    exact ⟨rfl, below_trans hB2 hB⟩
set_option maxRecDepth 100000 in
set_option maxHeartbeats 4000000 in
theorem SumsSwap_any (v0 : Value) (x : List UInt8) (z1 z2 : Int) (b c : UInt8) (w : World) (hS : Sl eB w.heap.size w v0 x) (hT : Tab w) :
    Calls Tryd.prog 5 #[v0, .int .i64 z1, .int .i64 z2, eB b, eB c] w fun e w' => e = .returned (.bool true) ∧ Below w.heap.size w w' := by
  by_cases hx : CleanP x
  · exact SumsSwap_some v0 x z1 z2 b c w hS hT hx
  · have hw := wakes_any
    have hcx := fun w h => clean_any v0 x w h
    rw [decide_eq_false hx] at hcx
    clear hx
    go_enter Tryd.func5, Tryd.ntmps5
    go_wp2_with fail
    go_at_call 21
    refine (hcx _ hS).mono ?_
    rintro e w' ⟨rfl, rfl⟩
    go_wp2_with (go_at_call 8; refine (hw _ hT).mono ?_; rintro e w' ⟨rfl, hB⟩)
    go_ret
    exact ⟨rfl, hB⟩
end Go.Proofs.YtheealkoooiloaaDoor
