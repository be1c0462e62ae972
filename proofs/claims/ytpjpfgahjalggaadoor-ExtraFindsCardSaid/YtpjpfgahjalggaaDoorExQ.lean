/- ExtraFinds: where it only wakes; whole. -/
import Derived.Test.YtpjpfgahjalggaaDoorExP
namespace Go.Proofs.YtpjpfgahjalggaaDoor
open Go.RowKit Go.Shelf
attribute [local go_sem] Oper.semAt_some run_store_func

set_option maxRecDepth 100000 in
set_option maxHeartbeats 4000000 in
theorem ExtraFinds_out (v0 : Value) (x y : List UInt8) (z : Int) (b : UInt8) (a1 a2 a3 e1 : Int) (w : World) (hS : Sl eB w.heap.size w v0 x) (hT : Tab w)
    (hO : ∀ v w, Sl eB w.heap.size w v x → Calls Tryd.prog 14 #[v] w fun e w' => e = .returned (.tuple #[v3 a1 a2 a3, .int .i64 e1]) ∧ Below w.heap.size w w')
    (b1 b2 b3 e2 : Int) (hP : ∀ v w, Sl eB w.heap.size w v y → Calls Tryd.prog 14 #[v] w fun e w' => e = .returned (.tuple #[v3 b1 b2 b3, .int .i64 e2]) ∧ Below w.heap.size w w')
    (hA : ∀ v w, Sl eB w.heap.size w v x → Calls Tryd.prog 15 #[v, eD 2 z b] w fun e w' => ∃ v, e = .returned v ∧ Sl eB w'.heap.size w' v y ∧ Below w.heap.size w w')
    (hc : (e1 != 0) = true ∨ ((e1 != 0) = false ∧ (e2 != 0) = true) ∨ ((e1 != 0) = false ∧ (e2 != 0) = false ∧ decide ((200 : Int) < (x.length : Int)) = true)) :
    Calls Tryd.prog 4 #[v0, .int .i64 z, .int .u8 (b.toNat : Int)] w fun e w' => e = .returned (.bool true) ∧ Below w.heap.size w w' := by
  have hw := ewakes_any
  have hcl : (v3 a1 a2 a3).cells = c3 a1 a2 a3 := rfl
  have hcl2 : (v3 b1 b2 b3).cells = c3 b1 b2 b3 := rfl
  have hB0 := Below.refl w.heap.size w
  obtain ⟨A0, c0, rfl⟩ := hS.len
  go_enter Tryd.func4, Tryd.ntmps4
  go_wp2_with fail
  go_at_call 14
  refine (hO _ _ hS).mono ?_
  rintro e w1 ⟨rfl, hC⟩
  have hC := below_trans hC (below_alloc w1 (.cells (c3 a1 a2 a3) 24))
  have hS := hS.next hC
  have hT := hT.below hC
  have hB0 := below_trans hB0 hC
  clear hC
  go_wp2_with fail
  go_at_call 15
  refine (hA _ _ hS).mono ?_
  rintro e w2 ⟨u, rfl, hu, hC⟩
  have hT := hT.below hC
  have hB0 := below_trans hB0 hC
  clear hC hO hA
  go_wp2_with fail
  go_at_call 14
  refine (hP _ _ hu).mono ?_
  rintro e w3 ⟨rfl, hC⟩
  have hC := below_trans hC (below_alloc w3 (.cells (c3 b1 b2 b3) 24))
  have hT := hT.below hC
  have hB0 := below_trans hB0 hC
  clear hC hP hS hu
  rcases hc with g1 | ⟨g1, g2⟩ | ⟨g1, g2, g3⟩
  all_goals
    go_wp2_with fail
    go_at_call 7
    refine (hw _ hT).mono ?_
    rintro e w4 ⟨rfl, hC⟩
    go_wp2_with fail
    go_ret
    exact ⟨rfl, below_trans hB0 hC⟩
theorem ExtraFinds_any (v0 : Value) (x : List UInt8) (z : Int) (b : UInt8) (w : World) (hS : Sl eB w.heap.size w v0 x) (hl : x.length ≤ 140737488351232) (hT : Tab w) :
    Calls Tryd.prog 4 #[v0, .int .i64 z, .int .u8 (b.toNat : Int)] w fun e w' => e = .returned (.bool true) ∧ Below w.heap.size w w' := by
  obtain ⟨p, hp, hA⟩ := Apply_put x z b hl
  by_cases he : (sE x).2.2.2 = 0
  · by_cases hf : (sE (insW x p b)).2.2.2 = 0
    · by_cases h2 : x.length ≤ 200
      · have hx := sE_zero he
        have hy := sE_zero hf
        obtain ⟨k, h1, h3, h4⟩ := find_put x p b _ _ _ _ hx hy hp
        have hln := insW_length x p b hp
        refine ExtraFinds_main v0 x (insW x p b) z b _ _ _ k w hS hT (fun v w hv => ?_) (sE (insW x p b)).1 (sE (insW x p b)).2.1 (sE (insW x p b)).2.2.1 (fun v w hv => ?_) hA h2 (by omega) h3 h4 h1
        · have := rOf_all v x w hv
          rwa [he] at this
        · have := rOf_all v (insW x p b) w hv
          rwa [hf] at this
      · exact ExtraFinds_out v0 x (insW x p b) z b _ _ _ _ w hS hT (fun v w hv => rOf_all v x w hv) _ _ _ _ (fun v w hv => rOf_all v _ w hv) hA (.inr (.inr ⟨by rw [he]; rfl, by rw [hf]; rfl, decide_eq_true (by omega)⟩))
    · exact ExtraFinds_out v0 x (insW x p b) z b _ _ _ _ w hS hT (fun v w hv => rOf_all v x w hv) _ _ _ _ (fun v w hv => rOf_all v _ w hv) hA (.inr (.inl ⟨by rw [he]; rfl, by simpa using hf⟩))
  · exact ExtraFinds_out v0 x (insW x p b) z b _ _ _ _ w hS hT (fun v w hv => rOf_all v x w hv) _ _ _ _ (fun v w hv => rOf_all v _ w hv) hA (.inl (by simpa using he))
end Go.Proofs.YtpjpfgahjalggaaDoor
