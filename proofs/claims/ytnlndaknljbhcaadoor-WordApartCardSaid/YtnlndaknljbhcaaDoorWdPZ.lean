/- WordApart. -/
import Derived.Test.YtnlndaknljbhcaaDoorGCZ
import Derived.Test.YtnlndaknljbhcaaDoorTgHaZ
import Derived.Test.YtnlndaknljbhcaaDoorWdOZ
namespace Go.Proofs.YtnlndaknljbhcaaDoor
open Go.RowKit Go.Shelf
attribute [local go_sem] Oper.semAt_some run_store_func

theorem below_drew_w' (w : World) : Below w.heap.size w w.drew := ⟨rfl, rfl, rfl, Nat.le_refl _, fun _ _ => rfl⟩
set_option maxRecDepth 100000 in
set_option maxHeartbeats 4000000 in
theorem Apply_other (sv : Value) (s : List UInt8) (k : Int) (hk : k ≠ 1 ∧ k ≠ 2 ∧ k ≠ 3) (z : Int) (b : UInt8) (h0 : 0 < s.length) (hl : s.length ≤ 1000) (w : World) (hS : Sl eB w.heap.size w sv s) :
    Calls Tryd.prog 25 #[sv, eD k z b] w fun e w' => ∃ v, e = .returned v ∧ Sl eB w'.heap.size w' v s ∧ Below w.heap.size w w' := by
  obtain ⟨i0, hi, hz0, hz1, hz2⟩ := info_parts info_u8
  obtain ⟨A, c, rfl⟩ := hS.len
  have e1 : (k == 1) = false := by simpa using hk.1
  have e2 : (k == 2) = false := by simpa using hk.2.1
  have e3 : (k == 3) = false := by simpa using hk.2.2
  clear hk
  have hcl : (eD k z b).cells = cD k z b := rfl
  have hr := Rowed.new w 38 (cD k z b)
  have hA := below_alloc w (.cells (cD k z b) 38)
  have hS0 := hS.below hA
  have hlt := hr.lt
  have hne0 : ((s.length : Int) == 0) = false := by rw [beq_eq_false_iff_ne]; omega
  have Hl := Lib.hid hl
  clear hl h0
  go_enter Tryd.func25, Tryd.ntmps25
  go_upto_region 1 with fail
  generalize w.alloc (.cells (cD k z b) 38) = w0 at *
  have hrow := row_made w0
  have hA1 := hA.alloc hA.size (.cells #[] 5)
  have hS1 : Sl eB w.heap.size (w0.alloc (.cells #[] 5)) (.slice A s.length c) s := hS0.below ((Below.refl _ w0).alloc hA.size _)
  have hr1 := hr.alloc (.cells #[] 5)
  have hlt1 := hr1.lt
  go_wp2_with
    (at_builtin
     refine wpList_append_sl _ rfl (.tmp 8) (.tmp 9) _ rfl w0.heap.size 5 i0 (.int .u8 0) 1 Tryd.underlying22 hi hz0 hz1 hz2 rfl _ 0 [] hrow rfl w.heap.size _ s hS1 rfl (fun _ => rfl) (by have := Hl.out; unfold maxLen; omega) (by have := Hl.out; omega) (by simp) ?_
     intro v1 w1 hown1 hg1 hat1
     have hr2 : Rowed w1 w.heap.size 38 (cD k z b) := (hg1.block _ hlt1 (by simp [Value.ownBlock]; omega)).trans hr1
     have k0 := hr2.cell 0
     have k1 := hr2.cell 1)
  go_ret
  exact ⟨_, rfl, Sl.of_own (n := s.length) (by simpa using hown1), hA1.trans (below_grown hrow hg1 hA1.size (by have := hA.size; omega))⟩
theorem Apply_all (s : List UInt8) (k : UInt8) (z : Int) (b : UInt8) (h0 : 0 < s.length) (hl : s.length ≤ 150) :
    ∃ y : List UInt8, (y.length ≤ s.length + 1 ∧ s.length ≤ y.length + 1) ∧ ∀ sv w, Sl eB w.heap.size w sv s → Calls Tryd.prog 25 #[sv, eD k.toNat z b] w fun e w' => ∃ v, e = .returned v ∧ Sl eB w'.heap.size w' v y ∧ Below w.heap.size w w' := by
  rcases (show k.toNat = 1 ∨ k.toNat = 2 ∨ k.toNat = 3 ∨ ((k.toNat : Int) ≠ 1 ∧ (k.toNat : Int) ≠ 2 ∧ (k.toNat : Int) ≠ 3) by omega) with e | e | e | e
  · rw [e]
    obtain ⟨p, hp, hat⟩ := at_is z s.length h0 (by omega)
    exact ⟨delW s p, by have := delW_length s p hp; omega, fun sv w h => Apply_gap sv s z b p h0 (by omega) hp hat w h⟩
  · rw [e]
    obtain ⟨p, hp, hat⟩ := at_is z (s.length + 1) (by omega) (by omega)
    exact ⟨insW s p b, by have := insW_length s p b (by omega); omega, fun sv w h => Apply_more sv s z b p h0 (by omega) (by omega) hat w h⟩
  · rw [e]
    obtain ⟨p, hp, hat⟩ := at_is z s.length h0 (by omega)
    exact ⟨s.set p b, by rw [List.length_set]; omega, fun sv w h => Apply_swap sv s z b p h0 (by omega) hp hat w h⟩
  · exact ⟨s, by omega, fun sv w h => Apply_other sv s _ e z b h0 (by omega) w h⟩
set_option maxRecDepth 100000 in
set_option maxHeartbeats 4000000 in
theorem WordApart_any (v0 : Value) (x : List UInt8) (k : UInt8) (z : Int) (b : UInt8) (k' : UInt8) (z' : Int) (b' : UInt8) (w : World) (h0 : Sl eB w.heap.size w v0 x) (hT : Tab w) (hTB : TabB w) :
    Calls Tryd.prog 4 #[v0, .agg #[.int .u8 k.toNat, .int .i64 z, .int .u8 b.toNat], .agg #[.int .u8 k'.toNat, .int .i64 z', .int .u8 b'.toNat]] w fun e w' => e = .returned (.bool true) ∧ Below w.heap.size w w' := by
  show Calls Tryd.prog 4 #[v0, eD k.toNat z b, eD k'.toNat z' b'] w fun e w' => e = .returned (.bool true) ∧ Below w.heap.size w w'
  have hcl : (eD k.toNat z b).cells = cD k.toNat z b := rfl
  have hcl' : (eD k'.toNat z' b').cells = cD k'.toNat z' b' := rfl
  have hr4 := (Rowed.new w 38 (cD k.toNat z b)).alloc (.cells (cD k'.toNat z' b') 38)
  have hr5 := Rowed.new (w.alloc (.cells (cD k.toNat z b) 38)) 38 (cD k'.toNat z' b')
  rw [World.size_alloc] at hr5
  have hA : Below w.heap.size w ((w.alloc (.cells (cD k.toNat z b) 38)).alloc (.cells (cD k'.toNat z' b') 38)) := ((Below.refl _ w).alloc (Nat.le_refl _) _).alloc (by simp) _
  have hcx := fun w h => wclean_any v0 x w h
  have hwk := wwakes_any
  obtain ⟨A, c, rfl⟩ := h0.len
  by_cases hx : CleanW x
  · rw [decide_eq_true hx] at hcx
    have hMx := fun w h1 h2 h3 => Make_clean x hx (.slice A x.length c) w h1 h2 h3
    have hlx := wordC_len hx
    have hle := wordC_le hx
    obtain ⟨wx, hwx⟩ : ∃ wx, wordC x = wx := ⟨_, rfl⟩
    rw [hwx] at hMx hlx hle
    have Hwx := Lib.hid hwx
    have Hx := Lib.hid hx
    have hn2 := hx.1
    have hn60 := hx.2.1
    have hL := fun w => WLong_yes x.length hn2 (by omega) (by
      have := tb_le x.length (by omega)
      have := wb_le x.length (by omega)
      unfold longN zb
      omega) w
    rw [← hlx] at hL
    have hw3 : x.length + 3 ≤ wx.length := by
      rw [hlx]
      unfold wlongN longN
      omega
    obtain ⟨y1, hy1, hA1⟩ := Apply_all wx k z b (by omega) (by omega)
    obtain ⟨y2, hy2, hA2⟩ := Apply_all y1 k' z' b' (by omega) (by omega)
    have Hy := Lib.hid (show x.length ≤ y2.length by omega)
    have p1 : IntKind.i64.wrap ((x.length : Int) + 3) = (x.length : Int) + 3 := IntWalk.i64_in _ (by omega)
    have p1' : wrap64 ((x.length : Int) + 3) = (x.length : Int) + 3 := IntWalk.wrap64_in _ (by omega)
    have p2 : decide ((wx.length : Int) < (x.length : Int) + 3) = false := decide_eq_false (by omega)
    have p2' : ¬ (wx.length : Int) < (x.length : Int) + 3 := by omega
    have p3 : ((wx.length : Int) != (wx.length : Int)) = false := by simp
    have p4 : ((wx.length : Int) == (wx.length : Int)) = true := by simp
    have p5 : ¬ wx.length < x.length + 3 := by omega
    have p6 : decide (wx.length < x.length + 3) = false := decide_eq_false p5
    clear hwx hx hlx hle hn2 hn60 hw3 hy1 hy2
    go_enter Tryd.func4, Tryd.ntmps4
    go_wp2_with fail
    generalize (w.alloc (.cells (cD k.toNat z b) 38)).alloc (.cells (cD k'.toNat z' b') 38) = w1 at *
    have h1 := h0.next hA
    have hT1 := hT.below hA
    have hTB1 := hTB.below hA
    have hl4 := hr4.lt
    have hl5 := hr5.lt
    clear h0 hT hTB
    go_at_call 24
    refine (hcx _ h1).mono ?_
    rintro e w' ⟨rfl, rfl⟩
    go_wp2_with fail
    go_at_call 9
    refine (hMx _ hT1 hTB1 h1).mono ?_
    rintro e wm ⟨hB, u, rfl, hu⟩
    have hr4 := hr4.below hB hl4
    have hr5 := hr5.below hB hl5
    have hTm := hT1.below hB
    have hTBm := hTB1.below hB
    have hB1 := below_trans hA hB
    obtain ⟨Aw, cw, rfl⟩ := hu.len
    clear hMx hcx h1 hT1 hTB1 hA hB hl4 hl5
    go_wp2_with fail
    go_at_call 20
    refine (hL _).mono ?_
    rintro e w2 ⟨rfl, hB⟩
    have hl4 := hr4.lt
    have hl5 := hr5.lt
    have hr4 := hr4.below hB hl4
    have hr5 := hr5.below hB hl5
    have hu2 := hu.next hB
    have hT2 := hTm.below hB
    have hTB2 := hTBm.below hB
    have hB3 := below_trans hB1 hB
    have hl4 := hr4.lt
    have hl5 := hr5.lt
    have k0 : w2.drew.cell? ⟨w.heap.size, 0, none⟩ = some (.int .u8 k.toNat) := hr4.cell 0
    have k1 : w2.drew.cell? ⟨w.heap.size, 1, none⟩ = some (.int .i64 z) := hr4.cell 1
    have k2 : w2.drew.cell? ⟨w.heap.size, 2, none⟩ = some (eB b) := hr4.cell 2
    have m0 : w2.drew.cell? ⟨w.heap.size + 1, 0, none⟩ = some (.int .u8 k'.toNat) := hr5.cell 0
    have m1 : w2.drew.cell? ⟨w.heap.size + 1, 1, none⟩ = some (.int .i64 z') := hr5.cell 1
    have m2 : w2.drew.cell? ⟨w.heap.size + 1, 2, none⟩ = some (eB b') := hr5.cell 2
    have hl4 : w.heap.size < w2.drew.heap.size := hl4
    have hl5 : w.heap.size + 1 < w2.drew.heap.size := hl5
    have hSd : Sl eB w2.drew.heap.size w2.drew (.slice Aw wx.length cw) wx := hu2
    have hu := hSd
    have hT3 := hT2.below (below_drew_w' w2)
    have hTB3 := hTB2.below (below_drew_w' w2)
    have hq3 := hB3
    clear hr4 hr5 hTm hTBm hB1 hu2 hT2 hTB2 hB hL
    go_wp2_with fail
    refine wp_region_ghost (CallS [(2, .b y1), (4, .b y2), (5, .b y2)] w2.drew) (fun g => [(40, .slice Aw wx.length cw), (41, eD k.toNat z b), (42, g 2), (43, eD k'.toNat z' b'), (44, g 4), (10, g 5)]) (fun _ => undef)
      (by kernel_rfl) (by kernel_rfl) (by kernel_rfl) (by kernel_rfl) (fun _ => by kernel_rfl) ?startA ?okA ?finA
    case startA =>
      intro D hD
      refine CallS.start fun c hc => ?_
      simp only [List.mem_cons, List.not_mem_nil, or_false] at hc
      rcases hc with rfl | rfl | rfl <;> exact hD _ (by simp)
    case okA =>
      intro T hT'
      simp only [putAll, Act.put, List.setIfInBounds_toArray, List.set_cons_zero, List.set_cons_succ] at hT'
      simp only [ghAll]
      refine ⟨?_, ?_, ?_, ?_, ?_, ?_, trivial⟩
      · refine gc_op rfl fun D g w' hdp h => ?_
        rw [hT' g]
        clear hT'
        go_simp
        exact Below.refl _ _
      · refine gc_op rfl fun D g w' hdp h => ?_
        have q0 := (h.1.cell (p := ⟨w.heap.size, 0, none⟩) hl4).trans k0
        have q1 := (h.1.cell (p := ⟨w.heap.size, 1, none⟩) hl4).trans k1
        have q2 := (h.1.cell (p := ⟨w.heap.size, 2, none⟩) hl4).trans k2
        rw [hT' g]
        clear hT'
        go_simp
        exact Below.refl _ _
      · refine gc_call (r := .b y1) rfl rfl (by simp) (fun g v => by rw [hT', hT']; rfl) (fun g => by rw [hT' g]; rfl) (fun D g w' hdp h => by
          rw [hT' g]
          unfold Oper.wp
          go_simp
          refine (hA1 _ _ (hSd.next h.1)).mono ?_
          rintro e w3 ⟨v, rfl, hv, hC⟩
          exact ⟨hv, hC⟩)
      · refine gc_op rfl fun D g w' hdp h => ?_
        have q0 := (h.1.cell (p := ⟨w.heap.size + 1, 0, none⟩) hl5).trans m0
        have q1 := (h.1.cell (p := ⟨w.heap.size + 1, 1, none⟩) hl5).trans m1
        have q2 := (h.1.cell (p := ⟨w.heap.size + 1, 2, none⟩) hl5).trans m2
        rw [hT' g]
        clear hT'
        go_simp
        exact Below.refl _ _
      · refine gc_call (r := .b y2) rfl rfl (by simp) (fun g v => by rw [hT', hT']; rfl) (fun g => by rw [hT' g]; rfl) (fun D g w' hdp h => by
          rw [hT' g]
          unfold Oper.wp
          go_simp
          refine (hA2 _ _ (show Sl eB w'.heap.size w' (g 2) y1 from h.2 (2, .b y1) (by simp) (dep_on hdp (by kernel_rfl)))).mono ?_
          rintro e w3 ⟨v, rfl, hv, hC⟩
          exact ⟨hv, hC⟩)
      · refine gc_call (r := .b y2) rfl rfl (by simp) (fun g v => by rw [hT', hT']; rfl) (fun g => by rw [hT' g]; rfl) (fun D g w' hdp h => by
          rw [hT' g]
          unfold Oper.wp
          go_simp
          exact ⟨h.2 (4, .b y2) (by simp) (dep_on hdp (by kernel_rfl)), Below.refl _ _⟩)
    case finA =>
      intro T hT' D g WF hall ⟨s1, s2⟩
      have hTg := hT' g
      simp only [putAll, Act.put, List.setIfInBounds_toArray, List.set_cons_zero, List.set_cons_succ] at hTg
      rw [hTg]
      have hv := show Sl eB WF.heap.size WF (g 5) y2 from s2 (5, .b y2) (by simp) (hall 5 (by decide))
      clear hT' hTg hall s2
      generalize g 5 = gv at *
      obtain ⟨Ay, cy, rfl, hcy, -⟩ := id hv
      have hup := hv.upto (show x.length ≤ y2.length from Hy.out)
      have hB4 := below_trans hB3 (below_trans (below_drew_w' w2) s1)
      have hT4 := hT3.below s1
      have hTB4 := hTB3.below s1
      have hw4 := hu.next s1
      have d8 : decide ((y2.length : Int) < (x.length : Int)) = false := decide_eq_false (by have := Hy.out; omega)
      have d8' : ¬ (y2.length : Int) < (x.length : Int) := by have := Hy.out; omega
      have d9 : (x.length : Int) ≤ (cy : Int) := by have := Hy.out; omega
      have d9' : x.length ≤ cy := by have := Hy.out; omega
      have hxl : (y2.take x.length).length = x.length := by rw [List.length_take]; have := Hy.out; omega
      have hcx2 := wclean_any (.slice Ay x.length cy) (y2.take x.length) WF hup
      have hMy := fun h => Make_clean (y2.take x.length) h (.slice Ay x.length cy) WF hT4 hTB4 hup
      have hDy := fun (h : CleanW (y2.take x.length)) (hne : x ≠ y2.take x.length) va vb w h1 h2 => RDist_words Hx.out h hxl.symm hne va vb w h1 h2
      clear s1 hv hcy hq3 hT3 hTB3 hB3
      by_cases hy : CleanW (y2.take x.length)
      · rw [decide_eq_true hy] at hcx2
        have hM := hMy hy
        have hD := hDy hy
        have He : Hid (x = y2.take x.length → wordC (y2.take x.length) = wordC x) := Lib.hid fun h => by rw [← h]
        have hwx := Hwx.out
        rw [hwx] at He
        generalize y2.take x.length = x2 at *
        generalize wordC x2 = wy at *
        clear hy hup hMy hDy hxl
        go_wp2_with fail
        go_at_call 24
        refine hcx2.mono ?_
        rintro e w' ⟨rfl, rfl⟩
        go_wp2_with fail
        go_at_call 9
        refine hM.mono ?_
        rintro e w5 ⟨hB5, v, rfl, hv⟩
        have hT5 := hT4.below hB5
        have hTB5 := hTB4.below hB5
        have hw5 := hw4.next hB5
        have hB6 := below_trans hB4 hB5
        have hsm := same_any v _ wy wx w5.heap.size w5 hv hw5
        by_cases he : x = x2
        · rw [decide_eq_true (He.out he)] at hsm
          obtain ⟨Av, cv, rfl⟩ := hv.len
          clear he hD hM hcx2 hB5 hT4 hTB4 hw4 hB4 hv hw5
          go_wp2_with fail
          go_at_call 17
          refine hsm.mono ?_
          rintro e w' ⟨rfl, rfl⟩
          go_wp2_with fail
          go_at_call 8
          refine (hwk _ hT5 hTB5).mono ?_
          rintro e w7 ⟨rfl, hB7⟩
          go_wp2_with fail
          go_ret
          exact ⟨rfl, below_trans hB6 hB7⟩
        · rw [hwx] at hD
          obtain ⟨d, hd, hDd⟩ := hD he v _ w5 hv hw5
          have g2 : (2 : Int) < (d : Int) := by omega
          have hsm : ∃ r, Calls Tryd.prog 17 #[v, .slice Aw wx.length cw] w5 fun e w' => e = .returned (.bool r) ∧ w5 = w' := ⟨_, hsm⟩
          obtain ⟨r, hsm⟩ := hsm
          obtain ⟨Av, cv, rfl⟩ := hv.len
          clear he hD hM hcx2 hB5 hT4 hTB4 hw4 hB4 hv hw5
          cases r
          · go_wp2_with fail
            go_at_call 17
            refine hsm.mono ?_
            rintro e w' ⟨rfl, rfl⟩
            go_wp2_with fail
            go_at_call 26
            refine hDd.mono ?_
            rintro e w6 ⟨rfl, hB7⟩
            go_wp2_with fail
            go_at_call 8
            refine (hwk _ (hT5.below hB7) (hTB5.below hB7)).mono ?_
            rintro e w7 ⟨rfl, hB8⟩
            go_wp2_with fail
            go_ret
            exact ⟨rfl, below_trans (below_trans hB6 hB7) hB8⟩
          · go_wp2_with fail
            go_at_call 17
            refine hsm.mono ?_
            rintro e w' ⟨rfl, rfl⟩
            go_wp2_with fail
            go_at_call 8
            refine (hwk _ hT5 hTB5).mono ?_
            rintro e w7 ⟨rfl, hB7⟩
            go_wp2_with fail
            go_ret
            exact ⟨rfl, below_trans hB6 hB7⟩
      · rw [decide_eq_false hy] at hcx2
        clear hy hMy hDy hxl hup hw4
        go_wp2_with fail
        go_at_call 24
        refine hcx2.mono ?_
        rintro e w' ⟨rfl, rfl⟩
        go_wp2_with fail
        go_at_call 8
        refine (hwk _ hT4 hTB4).mono ?_
        rintro e w7 ⟨rfl, hB7⟩
        go_wp2_with fail
        go_ret
        exact ⟨rfl, below_trans hB4 hB7⟩
  · rw [decide_eq_false hx] at hcx
    clear hx hr4 hr5
    go_enter Tryd.func4, Tryd.ntmps4
    go_wp2_with fail
    generalize (w.alloc (.cells (cD k.toNat z b) 38)).alloc (.cells (cD k'.toNat z' b') 38) = w1 at *
    go_at_call 24
    refine (hcx _ (h0.next hA)).mono ?_
    rintro e w' ⟨rfl, rfl⟩
    go_wp2_with fail
    go_at_call 8
    refine (hwk _ (hT.below hA) (hTB.below hA)).mono ?_
    rintro e w7 ⟨rfl, hB7⟩
    go_wp2_with fail
    go_ret
    exact ⟨rfl, below_trans hA hB7⟩
end Go.Proofs.YtnlndaknljbhcaaDoor
