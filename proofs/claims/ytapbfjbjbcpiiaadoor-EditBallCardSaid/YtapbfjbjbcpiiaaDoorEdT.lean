/- EditBall. -/
import Derived.Test.YtapbfjbjbcpiiaaDoorEdS
namespace Go.Proofs.YtapbfjbjbcpiiaaDoor
open Go.RowKit Go.Shelf
attribute [local go_sem] Oper.semAt_some run_store_func

theorem letters_all {x : List UInt8} (h : ∀ j (hj : j < x.length), isL x[j] = true) : ∀ y ∈ x, isL y = true := fun y hy => by
  obtain ⟨j, hj, rfl⟩ := List.getElem_of_mem hy
  exact h j hj
set_option maxRecDepth 100000 in
set_option maxHeartbeats 4000000 in
theorem EditBall_any (v0 v1 : Value) (a b : List UInt8) (w : World) (hP : Sl eB w.heap.size w v0 a) (hQ : Sl eB w.heap.size w v1 b) (hT : TabE w) :
    Calls Tryd.prog 6 #[v0, v1] w fun e w' => e = .returned (.bool true) ∧ Below w.heap.size w w' := by
  obtain ⟨A0, c0, rfl⟩ := hP.len
  obtain ⟨A1, c1, rfl⟩ := hQ.len
  by_cases hbig : 10 < a.length ∨ 10 < b.length
  · have hw := wakes_any w hT
    clear hP hQ hT
    by_cases k0 : 10 < a.length
    · have d0 : decide ((10 : Int) < (a.length : Int)) = true := by simp; omega
      clear hbig
      go_enter Tryd.func6, Tryd.ntmps6
      go_wp2_with (go_at_call 15; refine hw.mono ?_; rintro e w' ⟨rfl, hB⟩)
      go_ret
      exact ⟨rfl, hB⟩
    · have d0 : decide ((10 : Int) < (a.length : Int)) = false := by simp; omega
      have k1 : 10 < b.length := by omega
      have d1 : decide ((10 : Int) < (b.length : Int)) = true := by simp; omega
      clear hbig
      go_enter Tryd.func6, Tryd.ntmps6
      go_wp2_with (go_at_call 15; refine hw.mono ?_; rintro e w' ⟨rfl, hB⟩)
      go_ret
      exact ⟨rfl, hB⟩
  · have k0 : ¬ 10 < a.length := by omega
    have k1 : ¬ 10 < b.length := by omega
    have d0 : decide ((10 : Int) < (a.length : Int)) = false := by simp; omega
    have d1 : decide ((10 : Int) < (b.length : Int)) = false := by simp; omega
    clear hbig
    have H0 := Lib.hid k0
    have H1 := Lib.hid k1
    have hA0 := below_alloc w (.cells #[.slice A0 a.length c0, .slice A1 b.length c1] 25)
    have hr0 := Rowed.new w 25 #[.slice A0 a.length c0, .slice A1 b.length c1]
    have g0 := hr0.cell 0
    have g1 := hr0.cell 1
    have g0' : (w.alloc (.cells #[.slice A0 a.length c0, .slice A1 b.length c1] 25)).cell? ⟨w.heap.size, 0, none⟩ = some (.slice A0 a.length c0) := g0
    have g1' : (w.alloc (.cells #[.slice A0 a.length c0, .slice A1 b.length c1] 25)).cell? ⟨w.heap.size, 1, none⟩ = some (.slice A1 b.length c1) := g1
    clear g0 g1 hr0
    have hP := hP.next hA0
    have hQ := hQ.next hA0
    have hT := hT.below hA0
    go_enter Tryd.func6, Tryd.ntmps6
    go_upto_region 3 with fail
    clear d0 d1 k0 k1
    go_wp2_with fail
    generalize w.alloc (.cells #[.slice A0 a.length c0, .slice A1 b.length c1] 25) = w0 at *
    go_loopw [24] (fun t wr => ∃ i : Nat, i ≤ 2 ∧ t = .int .i64 i ∧ wr = w0 ∧ (1 ≤ i → ∀ y ∈ a, isL y = true) ∧ (2 ≤ i → ∀ y ∈ b, isL y = true)) (fun t _ => 2 - (intOf t).toNat)
    case atStart => exact ⟨0, by omega, rfl, rfl, fun h => absurd h (by omega), fun h => absurd h (by omega)⟩
    case round =>
      obtain ⟨i, hi, rfl, rfl, hLa, hLb⟩ := hrel
      by_cases hi2 : i < 2
      · obtain ⟨A, c, x, hcx, hSx, hx, hnext⟩ : ∃ (A : Option Addr) (c : Nat) (x : List UInt8), wr.cell? ⟨w.heap.size, i, none⟩ = some (.slice A x.length c) ∧ Sl eB wr.heap.size wr (.slice A x.length c) x ∧ x.length ≤ 10 ∧ ((∀ y ∈ x, isL y = true) → (1 ≤ i + 1 → ∀ y ∈ a, isL y = true) ∧ (2 ≤ i + 1 → ∀ y ∈ b, isL y = true)) := by
          by_cases h0 : i = 0
          · subst h0
            exact ⟨A0, c0, a, g0', hP, by have := H0.out; omega, fun h => ⟨fun _ => h, fun h2 => absurd h2 (by omega)⟩⟩
          · obtain rfl : i = 1 := by omega
            exact ⟨A1, c1, b, g1', hQ, by have := H1.out; omega, fun h => ⟨fun _ => hLa (by omega), fun _ => h⟩⟩
        have Hn := Lib.hid hnext
        have hi3 : (i : Int) < 2 := by omega
        have Hi := Lib.hid hi2
        obtain ⟨Ax, cx, hvx, -, hcs⟩ := hSx
        cases hvx
        clear hnext hLa hLb g0' g1' hP hQ hi hi2
        go_wp2_with fail
        go_loopw [7] (fun t wq => ∃ k : Nat, k ≤ x.length ∧ t = .int .i64 k ∧ wq = wr ∧ ∀ j (hj : j < x.length), j < k → isL x[j] = true) (fun t _ => x.length - (intOf t).toNat)
        case atStart => exact ⟨0, Nat.zero_le _, rfl, rfl, fun j _ h => absurd h (by omega)⟩
        case round =>
          obtain ⟨k, hk, rfl, rfl, hLk⟩ := hrel
          by_cases hlt : k < x.length
          · obtain ⟨bb, off, rfl, -, hcell⟩ := hcs (by omega)
            have hc := hcell k x[k] (List.getElem?_eq_getElem hlt)
            have h3 : (k : Int) < (x.length : Int) := by omega
            have hk9 : k ≤ 10 := by omega
            have hlt' := Lib.hid hlt
            have HL : Hid (isL x[k] = true → ∀ j (hj : j < x.length), j < k + 1 → isL x[j] = true) := Lib.hid fun h j hj hjk => by
              by_cases he : j = k
              · subst he; exact h
              · exact hLk j hj (by omega)
            generalize x[k] = y at hc HL
            clear hcell hcs hLk hlt hk
            by_cases h0 : isL y = true
            · have HM2 := Lib.hid (HL.out h0)
              clear HL
              have h4 : y = 65 ∨ y = 67 ∨ y = 71 ∨ y = 84 := by
                unfold isL at h0
                simp only [Bool.or_eq_true, beq_iff_eq] at h0
                rcases h0 with ((h0 | h0) | h0) | h0
                · exact .inl h0
                · exact .inr (.inl h0)
                · exact .inr (.inr (.inl h0))
                · exact .inr (.inr (.inr h0))
              clear h0
              rcases h4 with rfl | rfl | rfl | rfl <;>
              · go_wp2_with fail
                go_roundw
                case rel => exact ⟨k + 1, hlt'.out, by go_num, trivial, HM2.out⟩
                case measure => have := hlt'.out; simp [intOf]; omega
            · have e0 : ¬ (y.toNat : Int) = 65 := u8_ne y 65 (by rintro rfl; exact h0 rfl)
              have e1 : ¬ (y.toNat : Int) = 67 := u8_ne y 67 (by rintro rfl; exact h0 rfl)
              have e2 : ¬ (y.toNat : Int) = 71 := u8_ne y 71 (by rintro rfl; exact h0 rfl)
              have e3 : ¬ (y.toNat : Int) = 84 := u8_ne y 84 (by rintro rfl; exact h0 rfl)
              have m0 : ((y.toNat : Int) != 65) = true := bne_iff_ne.2 e0
              have m1 : ((y.toNat : Int) != 67) = true := bne_iff_ne.2 e1
              have m2 : ((y.toNat : Int) != 71) = true := bne_iff_ne.2 e2
              have m3 : ((y.toNat : Int) != 84) = true := bne_iff_ne.2 e3
              clear h0 e0 e1 e2 e3 HL
              go_wp2_with fail
              go_at_call 15
              refine (wakes_any _ hT).mono ?_
              rintro e w7 ⟨rfl, hC⟩
              go_wp2_with fail
              go_ret
              exact ⟨rfl, below_trans hA0 hC⟩
          · obtain rfl : k = x.length := by omega
            have h3 : ¬ (x.length : Int) < (x.length : Int) := by omega
            have h4 : ¬ x.length < x.length := by omega
            have Hx := Lib.hid (Hn.out (letters_all fun j hj => hLk j hj hj))
            clear hlt hk hLk hcs
            go_wp2_with fail
            go_roundw
            case rel => exact ⟨i + 1, Hi.out, by go_num, trivial, Hx.out.1, Hx.out.2⟩
            case measure => have := Hi.out; simp [intOf]; omega
      · obtain rfl : i = 2 := by omega
        have hLb := Lib.hid (hLb (Nat.le_refl _))
        clear hLa hi2 hi g0' g1'
        have fE := fun v w h h2 => Edits_any v a (by have := H0.out; omega) w h h2
        have fA := fun (d : Edt) v w h => Apply_any v a d.k d.z d.b (by have := H0.out; omega) w h
        have fN : ∀ (d : Edt) (u v : Value) (w : World), Sl eB w.heap.size w u (apG a d.k d.z d.b) → Sl eB w.heap.size w v b → Calls Tryd.prog 18 #[u, v] w fun e w' => e = .returned (.bool (decide (dist (apG a d.k d.z d.b) b ≤ 1))) ∧ Below w.heap.size w w' := fun d u v w h1 h2 => by
          have h := Near_any u v (apG a d.k d.z d.b) b w h1 h2
          have := apG_len a d.k d.z d.b (by have := H0.out; omega)
          rw [cut_same _ (by have := H0.out; omega), cut_same b (by have := H1.out; omega)] at h
          exact h
        have fD := fun u v w h1 h2 => Distance_any u v a b w h1 h2
        rw [cut_same a (by have := H0.out; omega), cut_same b (by have := H1.out; omega)] at fD
        have hl : (edG a).length ≤ 600 := (ed_facts a (by have := H0.out; omega)).1
        have hm := meetG_all a b (by have := H0.out; omega) hLb.out
        have hdd : decide (dist a b ≤ 2) = decide ((dist a b : Int) ≤ 2) := decide_eq_decide.2 (by omega)
        rw [hdd] at hm
        obtain ⟨z, hz⟩ : ∃ z : Int, (dist a b : Int) = z := ⟨_, rfl⟩
        rw [hz] at fD hm
        have HM := Lib.hid hm
        clear hm hz hdd hLb
        go_wp2_with fail
        go_at_call 20
        refine (fE _ _ hP hT).mono ?_
        rintro e w5 ⟨v5, rfl, hv5, hC⟩
        have hP := hP.next hC
        have hQ := hQ.next hC
        have hT := hT.below hC
        have hA := below_trans hA0 hC
        obtain ⟨g5, c5, rfl, hcl⟩ := ed_open hv5
        clear hC fE hv5
        go_wp2_with fail
        go_loopw [8, 10] (fun m t wr => ∃ k : Nat, k ≤ (edG a).length ∧ t = .int .i64 k ∧ m = .bool (meetG a b k) ∧ Below w5.heap.size w5 wr) (fun _ t _ => (edG a).length - (intOf t).toNat)
        case atStart => exact ⟨0, Nat.zero_le _, rfl, rfl, Below.refl _ _⟩
        case round =>
          obtain ⟨k, hk, rfl, rfl, hB⟩ := hrel
          have hP := (hP.below hB).more hB.size
          have hQ := (hQ.below hB).more hB.size
          by_cases hlt : k < (edG a).length
          · obtain ⟨d, hd⟩ : ∃ d, (edG a)[k]? = some d := ⟨(edG a)[k], by simp [hlt]⟩
            obtain ⟨hg, p0, p1, p2⟩ := hcl k d hd
            have r0 := (hB.cell (p := ⟨g5, k * 3, none⟩) hg).trans p0
            have r1 := (hB.cell (p := ⟨g5, k * 3 + 1, none⟩) hg).trans p1
            have r2 := (hB.cell (p := ⟨g5, k * 3 + 2, none⟩) hg).trans p2
            have hsucc := meetG_succ a b k d hd
            have hkl : (k : Int) < (edG a).length := by omega
            have hk9 : k ≤ 600 := by omega
            have Hk := Lib.hid hlt
            clear hcl hd p0 p1 p2 hg hk hlt hT HM fD
            by_cases hmk : meetG a b k = true
            · rw [hmk] at hsucc ⊢
              rw [Bool.true_or] at hsucc
              have HS := Lib.hid hsucc
              clear hsucc fA fN hmk
              go_wp2_with fail
              go_roundw
              case rel => exact ⟨k + 1, Hk.out, by go_num, by rw [HS.out], hB⟩
              case measure => have := Hk.out; simp [intOf]; omega
            · rw [Bool.eq_false_iff.2 hmk] at hsucc ⊢
              rw [Bool.false_or] at hsucc
              have HS := Lib.hid hsucc
              have H5 := Lib.hid hB
              clear hsucc hmk hB
              go_wp2_with fail
              go_at_call 19
              refine (fA d _ _ hP).mono ?_
              rintro e w6 ⟨u6, rfl, hu6, hC⟩
              have hQ := hQ.next hC
              have hB := Lib.hid (below_trans H5.out hC)
              clear r0 r1 r2 hC H5
              go_wp2_with fail
              go_at_call 18
              refine (fN d _ _ _ hu6.sl hQ).mono ?_
              rintro e w7 ⟨rfl, hC⟩
              have hB := below_trans hB.out hC
              clear hu6 hC hQ
              generalize decide (dist (apG a d.k d.z d.b) b ≤ 1) = q at *
              go_wp2_with fail
              go_roundw
              case rel => exact ⟨k + 1, Hk.out, by go_num, by rw [HS.out], hB⟩
              case measure => have := Hk.out; simp [intOf]; omega
          · obtain rfl : k = (edG a).length := by omega
            have d3 : ¬ ((edG a).length : Int) < ((edG a).length : Int) := by omega
            have d4 : ¬ (edG a).length < (edG a).length := by omega
            have hT := hT.below hB
            have hA := below_trans hA hB
            rw [HM.out]
            clear hk hlt hB hcl HM
            go_wp2_with fail
            go_at_call 16
            refine (fD _ _ _ hP hQ).mono ?_
            rintro e w6 ⟨rfl, hC⟩
            have hT := hT.below hC
            have hA := below_trans hA hC
            clear fD d3 d4 hl hC
            go_wp2_with fail
            go_at_call 15
            refine (wakes_any _ hT).mono ?_
            rintro e w7 ⟨rfl, hC⟩
            have hA := below_trans hA hC
            go_wp2_with fail
            go_ret
            exact ⟨rfl, hA⟩
end Go.Proofs.YtapbfjbjbcpiiaaDoor
