/- EditApplies. -/
import Derived.Test.YtapbfjbjbcpiiaaDoorEdQ
namespace Go.Proofs.YtapbfjbjbcpiiaaDoor
open Go.RowKit Go.Shelf
attribute [local go_sem] Oper.semAt_some run_store_func

theorem near_ap (s : List UInt8) (k : UInt8) (z : Int) (b : UInt8) (hl : s.length ≤ 200) (v0 v1 : Value) (w : World) (h0 : Sl eB w.heap.size w v0 s) (h1 : Sl eB w.heap.size w v1 (apG s k z b)) :
    Calls Tryd.prog 18 #[v0, v1] w fun e w' => e = .returned (.bool true) ∧ Below w.heap.size w w' := by
  have h := Near_any v0 v1 s (apG s k z b) w h0 h1
  have hd := dist_ap s k z b (by omega)
  have hm := apG_len s k z b (by omega)
  rw [cut_same s (by omega), cut_same _ (by omega), decide_eq_true hd] at h
  exact h
theorem two_ap (s : List UInt8) (k : UInt8) (z : Int) (b : UInt8) (k2 : UInt8) (z2 : Int) (b2 : UInt8) (hl : s.length ≤ 200) (v0 v1 : Value) (w : World) (h0 : Sl eB w.heap.size w v0 s) (h1 : Sl eB w.heap.size w v1 (apG (apG s k z b) k2 z2 b2)) :
    Calls Tryd.prog 16 #[v0, v1] w fun e w' => ∃ n : Nat, n ≤ 2 ∧ e = .returned (.int .i64 n) ∧ Below w.heap.size w w' := by
  have h := Distance_any v0 v1 s _ w h0 h1
  have hd := dist_ap s k z b (by omega)
  have hm := apG_len s k z b (by omega)
  have hd2 := dist_ap (apG s k z b) k2 z2 b2 (by omega)
  have hm2 := apG_len (apG s k z b) k2 z2 b2 (by omega)
  have ht := dist_tri s (apG s k z b) (apG (apG s k z b) k2 z2 b2)
  rw [cut_same s (by omega), cut_same (apG (apG s k z b) k2 z2 b2) (by omega)] at h
  exact h.mono fun e w' ⟨h2, h3⟩ => ⟨_, by omega, h2, h3⟩
theorem ed_facts (s : List UInt8) (h : s.length ≤ 60) : (edG s).length ≤ 600 ∧
    (wrap64 ((s.length : Int) + 1) = (s.length : Int) + 1 ∧ IntKind.i64.wrap ((s.length : Int) + 1) = (s.length : Int) + 1) ∧
    (wrap64 (4 * ((s.length : Int) + 1)) = 4 * ((s.length : Int) + 1) ∧ IntKind.i64.wrap (4 * ((s.length : Int) + 1)) = 4 * ((s.length : Int) + 1)) ∧
    (wrap64 (1 + 4 * ((s.length : Int) + 1)) = 1 + 4 * ((s.length : Int) + 1) ∧ IntKind.i64.wrap (1 + 4 * ((s.length : Int) + 1)) = 1 + 4 * ((s.length : Int) + 1)) ∧
    (wrap64 (1 + 4 * ((s.length : Int) + 1) + (s.length : Int)) = 1 + 4 * ((s.length : Int) + 1) + (s.length : Int) ∧ IntKind.i64.wrap (1 + 4 * ((s.length : Int) + 1) + (s.length : Int)) = 1 + 4 * ((s.length : Int) + 1) + (s.length : Int)) ∧
    wrap64 (1 + 4 * ((s.length : Int) + 1) + (s.length : Int) + (oG s s.length : Nat)) = ((edG s).length : Nat) ∧ IntKind.i64.wrap (1 + 4 * ((s.length : Int) + 1) + (s.length : Int) + (oG s s.length : Nat)) = ((edG s).length : Nat) := by
  have hcn := edG_count s
  have hog := oG_le s s.length
  generalize (edG s).length = m at *
  generalize oG s s.length = o at *
  generalize s.length = n at *
  refine ⟨?_, w_is _ _ rfl ?_ ?_, w_is _ _ rfl ?_ ?_, w_is _ _ rfl ?_ ?_, w_is _ _ rfl ?_ ?_, w_is _ _ ?_ ?_ ?_⟩ <;> omega
set_option maxRecDepth 100000 in
set_option maxHeartbeats 4000000 in
theorem EditApplies_any (v0 : Value) (s : List UInt8) (k1 : UInt8) (z1 : Int) (b1 : UInt8) (k2 : UInt8) (z2 : Int) (b2 : UInt8) (w : World) (hS : Sl eB w.heap.size w v0 s) (hT : TabE w) :
    Calls Tryd.prog 5 #[v0, eE k1 z1 b1, eE k2 z2 b2] w fun e w' => e = .returned (.bool true) ∧ Below w.heap.size w w' := by
  obtain ⟨A, c, rfl⟩ := hS.len
  have hA1 := below_alloc w (.cells (cE k1 z1 b1) 36)
  have hr1 := Rowed.new w 36 (cE k1 z1 b1)
  have hA2 := below_alloc (w.alloc (.cells (cE k1 z1 b1) 36)) (.cells (cE k2 z2 b2) 36)
  have hr2 := Rowed.new (w.alloc (.cells (cE k1 z1 b1) 36)) 36 (cE k2 z2 b2)
  have hr1 := hr1.below hA2 hr1.lt
  have hA := below_trans hA1 hA2
  have hS := hS.next hA
  have hT := hT.below hA
  clear hA1 hA2
  simp only [World.size_alloc] at hr2
  by_cases hbig : 60 < s.length
  · have d0 : decide ((60 : Int) < (s.length : Int)) = true := by simp; omega
    clear hbig hr1 hr2 hS
    go_enter Tryd.func5, Tryd.ntmps5
    go_upto_region 1 with fail
    generalize (w.alloc (.cells (cE k1 z1 b1) 36)).alloc (.cells (cE k2 z2 b2) 36) = w0 at *
    go_wp2_with fail
    go_at_call 15
    refine (wakes_any _ hT).mono ?_
    rintro e w2 ⟨rfl, hB⟩
    go_wp2
    go_ret
    exact ⟨rfl, below_trans hA hB⟩
  · have d0 : decide ((60 : Int) < (s.length : Int)) = false := by simp; omega
    have fE := fun v w h h2 => Edits_any v s (by omega) w h h2
    have fO := fun v w h => others_any v s (by omega) w h
    have fA1 := fun v w h => Apply_any v s k1 z1 b1 (by omega) w h
    have fA2 := fun v w h => Apply_any v (apG s k1 z1 b1) k2 z2 b2 (by have := apG_len s k1 z1 b1 (by omega); omega) w h
    have fA := fun (d : Edt) v w h => Apply_any v s d.k d.z d.b (by omega) w h
    have fN1 := fun v0 v1 w h0 h1 => near_ap s k1 z1 b1 (by omega) v0 v1 w h0 h1
    have fN := fun (d : Edt) v0 v1 w h0 h1 => near_ap s d.k d.z d.b (by omega) v0 v1 w h0 h1
    have fD := fun v0 v1 w h0 h1 => two_ap s k1 z1 b1 k2 z2 b2 (by omega) v0 v1 w h0 h1
    have fS : ∀ (k : Nat) (d : Edt), (edG s)[k]? = some d → (apG s d.k d.z d.b == s) = ((k : Int) == 0) := fun k d h => (edG_same s k d (by omega) h).trans (by by_cases h0 : k = 0 <;> simp [h0])
    obtain ⟨hl600, hqq⟩ := ed_facts s (by omega)
    have Hq := Lib.hid hqq
    clear hqq
    clear hbig
    go_enter Tryd.func5, Tryd.ntmps5
    go_upto_region 1 with fail
    generalize (w.alloc (.cells (cE k1 z1 b1) 36)).alloc (.cells (cE k2 z2 b2) 36) = w0 at *
    generalize w.heap.size = g1 at hr1 hr2
    have sa := str_of hS
    have c0 := hr1.cell 0
    have c1 := hr1.cell 1
    have c2 := hr1.cell 2
    go_wp2_with fail
    go_at_call 19
    refine (fA1 _ _ hS).mono ?_
    rintro e w1 ⟨u1, rfl, hu1, hC⟩
    have hr2 := hr2.below hC hr2.lt
    have hS := hS.next hC
    have hT := hT.below hC
    have hA := below_trans hA hC
    clear c0 c1 c2 sa hr1 hC fA1
    have c0 := hr2.cell 0
    have c1 := hr2.cell 1
    have c2 := hr2.cell 2
    go_wp2_with fail
    go_at_call 19
    refine (fA2 _ _ hu1.sl).mono ?_
    rintro e w2 ⟨u2, rfl, hu2, hC⟩
    have hu1 := hu1.sl.next hC
    have hu2 := hu2.sl
    have hS := hS.next hC
    have hT := hT.below hC
    have hA := below_trans hA hC
    clear c0 c1 c2 hr2 hC fA2
    go_wp2_with fail
    go_at_call 18
    refine (fN1 _ _ _ hS hu1).mono ?_
    rintro e w3 ⟨rfl, hC⟩
    have hu2 := hu2.next hC
    have hS := hS.next hC
    have hT := hT.below hC
    have hA := below_trans hA hC
    clear hC hu1 fN1
    go_wp2_with fail
    go_at_call 16
    refine (fD _ _ _ hS hu2).mono ?_
    rintro e w4 ⟨n, hn, rfl, hC⟩
    have hn2 : ¬ (2 : Int) < (n : Int) := by omega
    have hn3 : ¬ 2 < n := by omega
    have hS := hS.next hC
    have hT := hT.below hC
    have hA := below_trans hA hC
    have sb := str_of hS
    clear hC hu2 fD hn
    go_wp2_with fail
    go_at_call 20
    refine (fE _ _ hS hT).mono ?_
    rintro e w5 ⟨v5, rfl, hv5, hC⟩
    have hS := hS.next hC
    have hT := hT.below hC
    have hA := below_trans hA hC
    obtain ⟨g5, c5, rfl, hcl⟩ := ed_open hv5
    clear hC fE sb hv5
    go_wp2_with fail
    go_loopw [11] (fun i wr => ∃ k : Nat, k ≤ (edG s).length ∧ i = .int .i64 k ∧ Below w5.heap.size w5 wr) (fun i _ => (edG s).length - (intOf i).toNat)
    case atStart => exact ⟨0, Nat.zero_le _, rfl, Below.refl _ _⟩
    case round =>
      obtain ⟨k, hk, rfl, hB⟩ := hrel
      have hS := (hS.below hB).more hB.size
      by_cases hlt : k < (edG s).length
      · obtain ⟨d, hd⟩ : ∃ d, (edG s)[k]? = some d := ⟨(edG s)[k], by simp [hlt]⟩
        obtain ⟨hg, p0, p1, p2⟩ := hcl k d hd
        have r0 := (hB.cell (p := ⟨g5, k * 3, none⟩) hg).trans p0
        have r1 := (hB.cell (p := ⟨g5, k * 3 + 1, none⟩) hg).trans p1
        have r2 := (hB.cell (p := ⟨g5, k * 3 + 2, none⟩) hg).trans p2
        have hsame := fS k d hd
        have hkl : (k : Int) < (edG s).length := by omega
        have hk9 : k ≤ 600 := by omega
        have Hk := Lib.hid hlt
        have H0 := Lib.hid hB
        have H1 := Lib.hid p0
        have H2 := Lib.hid p1
        have H3 := Lib.hid p2
        have Hg := Lib.hid hg
        clear hcl hd p0 p1 p2 hg hB fS hk hlt hT
        go_wp2_with fail
        go_at_call 19
        refine (fA d _ _ hS).mono ?_
        rintro e w6 ⟨u6, rfl, hu6, hC⟩
        have hS := hS.next hC
        have hB := Lib.hid (below_trans H0.out hC)
        clear r0 r1 r2 hC H0
        go_wp2_with fail
        go_at_call 18
        refine (fN d _ _ _ hS hu6.sl).mono ?_
        rintro e w7 ⟨rfl, hC⟩
        have hS := hS.next hC
        have hB := Lib.hid (below_trans hB.out hC)
        have r0 := (hB.out.cell (p := ⟨g5, k * 3, none⟩) Hg.out).trans H1.out
        have r1 := (hB.out.cell (p := ⟨g5, k * 3 + 1, none⟩) Hg.out).trans H2.out
        have r2 := (hB.out.cell (p := ⟨g5, k * 3 + 2, none⟩) Hg.out).trans H3.out
        clear hu6 hC
        go_wp2_with fail
        go_at_call 19
        refine (fA d _ _ hS).mono ?_
        rintro e w8 ⟨u8, rfl, hu8, hC⟩
        have hB := below_trans hB.out hC
        have s8 := str_of hu8.sl
        clear r0 r1 r2 hC hu8 hS
        go_wp2_with fail
        go_roundw
        case rel => exact ⟨k + 1, Hk.out, by go_num, hB⟩
        case measure => have := Hk.out; simp [intOf]; omega
      · obtain rfl : k = (edG s).length := by omega
        have d3 : ¬ ((edG s).length : Int) < ((edG s).length : Int) := by omega
        have d4 : ¬ (edG s).length < (edG s).length := by omega
        have hT := hT.below hB
        have hA := below_trans hA hB
        clear hk hlt hB hcl
        go_wp2_with fail
        go_at_call 21
        refine (fO _ _ hS).mono ?_
        rintro e w6 ⟨rfl, rfl⟩
        obtain ⟨⟨q1, q1'⟩, ⟨q2, q2'⟩, ⟨q3, q3'⟩, ⟨q4, q4'⟩, q5, q5'⟩ := Hq.out
        clear fO d3 d4 hl600
        go_wp2_with fail
        go_at_call 15
        refine (wakes_any _ hT).mono ?_
        rintro e w7 ⟨rfl, hC⟩
        have hA := below_trans hA hC
        go_wp2_with fail
        go_ret
        exact ⟨rfl, hA⟩
end Go.Proofs.YtapbfjbjbcpiiaaDoor
