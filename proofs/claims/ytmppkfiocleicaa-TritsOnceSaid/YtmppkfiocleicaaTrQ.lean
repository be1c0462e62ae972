/- TritsOnce. -/
import Derived.Test.YtmppkfiocleicaaTrP
namespace Go.Proofs.Ytmppkfiocleicaa
open Go.RowKit Go.Shelf
attribute [local go_sem] Oper.semAt_some run_store_func

set_option maxRecDepth 100000 in
set_option maxHeartbeats 4000000 in
theorem TritsOnce_any (L : List UInt8) (hL : L.length = 26) (at_ : Int) (c : UInt8) (w : World) :
    Calls Try.prog 5 #[aB L, .int .i64 at_, eB c] w fun e w' => e = .returned (.bool true) ∧ Below w.heap.size w w' := by
  have hw := wakes_any
  obtain ⟨hz, hsz⟩ := zero_of_info info5
  rw [z5_eq] at hz
  have hc0 := cells_aB (List.replicate 5 0)
  have hcL := cells_aB L
  obtain ⟨x, e0, hbi, hbk⟩ := Back_both L hL
  have hx5 := hbi.1
  have sL := size26 L hL
  have sx := size5 x hx5
  have sz5 : ((List.replicate 5 (0 : UInt8)).map eB).toArray.size = (x.map eB).toArray.size := by simp [hx5]
  have ox := one_map x
  obtain ⟨Z, hZ⟩ : ∃ Z : List UInt8, List.replicate 5 (0 : UInt8) = Z := ⟨_, rfl⟩
  rw [hZ] at hz hc0 sz5
  clear hZ
  have hr0 := Rowed.new w 23 (L.map eB).toArray
  have hA0 := below_alloc w (.cells (L.map eB).toArray 23)
  go_enter Try.func5, Try.ntmps5
  go_wp2_with (refine wpList_load_row rfl 23 (.tmp 3) rfl w.heap.size rfl _ (L.map eB).toArray _ _ hr0 Try.underlying23 rfl sL ?_)
  have hl0 := hr0.lt
  generalize w.alloc (.cells (L.map eB).toArray 23) = w0 at *
  go_at_call 8
  refine (hbk _).mono ?_
  rintro e w1 ⟨rfl, hB1⟩
  have hr1 := hr0.below hB1 hl0
  have hA1 := below_trans hA0 hB1
  have hlt1 := hr1.lt
  have hr2 := Rowed.new w1 22 (Z.map eB).toArray
  have hr1 := (hr1.alloc (.cells (Z.map eB).toArray 22)).put_other (g' := w1.heap.size) (cs' := (x.map eB).toArray) (by omega)
  have hA2 := below_setRow (hA1.alloc hA1.size (.cells (Z.map eB).toArray 22)) w1.heap.size (x.map eB).toArray hA1.size
  have hr3 := Row8.put hr2 x
  clear hbk hB1 hA1 hr0 hA0
  go_wp2_with (refine wpList_store_row rfl 22 (.tmp 7) (.tmp 17) rfl w1.heap.size (x.map eB).toArray rfl rfl _ _ hr2 sx sz5 ox ?_)
  generalize hw2 : (w1.alloc (.cells (Z.map eB).toArray 22)).setRow w1.heap.size (x.map eB).toArray = w2 at *
  generalize w1.heap.size = g at *
  clear hw2 hr2
  have hcell : ∀ k (h : k < L.length), w2.cell? ⟨w.heap.size, k, none⟩ = some (eB L[k]) := fun k h => by
    rw [hr1.cell k]
    simp [h]
  go_loop [9, 10] (fun b i => ∃ k : Nat, k ≤ 26 ∧ i = .int .i64 k ∧ b = .bool (fB L k)) (fun _ i => 26 - (intOf i).toNat)
  case atStart => exact ⟨0, by omega, rfl, rfl⟩
  case round =>
    obtain ⟨k, hk, rfl, rfl⟩ := hrel
    by_cases hlt : k < 26
    · have hck := hcell k (by omega)
      have hs := fB_succ L k (by omega)
      have dk : decide ((k : Int) < 26) = true := decide_eq_true (by omega)
      generalize L[k]'(by omega) = y at *
      cases hf : fB L k with
      | true =>
        rw [hf, Bool.true_and] at hs
        have Hs := Lib.hid hs
        clear hs hf hbi sx hcell sL sz5 ox
        go_wp2_with fail
        go_round
        case rel => exact ⟨k + 1, by omega, by go_num, by rw [Hs.out]⟩
        case measure => simp [intOf]; omega
      | false =>
        rw [hf, Bool.false_and] at hs
        have Hs := Lib.hid hs
        clear hs hf hbi sx hcell sL sz5 ox
        go_wp2_with fail
        go_round
        case rel => exact ⟨k + 1, by omega, by go_num, by rw [Hs.out]⟩
        case measure => simp [intOf]; omega
    · obtain rfl : k = 26 := by omega
      have hr1l := hr1.lt
      cases hf : fB L 26 with
      | false =>
        obtain ⟨rfl, rfl⟩ := back_not hL hf hbi
        have b1 : ∀ w, (Instr.build 22 #[]).run Try.prog w = .ok (aB (List.replicate 5 0)) w := fun _ => by kernel_rfl
        have q2 := eql5 (List.replicate 5 0) (List.replicate 5 0) rfl rfl
        rw [decide_eq_true rfl] at q2
        have g2 := guard_agg .eql 22 ((List.replicate 5 (0 : UInt8)).map eB).toArray ((List.replicate 5 (0 : UInt8)).map eB).toArray (by kernel_rfl)
        generalize List.replicate 5 (0 : UInt8) = Z' at *
        clear hf hbi hcell
        go_wp2_with (first
          | (refine wpList_load_rowg rfl 22 (.tmp 7) rfl g rfl _ (Z'.map eB).toArray _ _ hr3 Try.underlying22 rfl sx ?_)
          | (refine wpList_build rfl 22 _ rfl _ _ (b1 _) (by kernel_rfl) ?_))
        go_at_call 7
        refine (hw _).mono ?_
        rintro e w3 ⟨rfl, hB3⟩
        go_wp2_with fail
        go_ret
        exact ⟨rfl, below_trans hA2 hB3⟩
      | true =>
        rcases back_fine hL hf hbi with ⟨rfl, rfl, h1⟩ | ⟨rfl, rfl, hn⟩
        · have b1 : ∀ w, (Instr.build 22 #[]).run Try.prog w = .ok (aB (List.replicate 5 0)) w := fun _ => by kernel_rfl
          have q2 := eql5 (List.replicate 5 0) (List.replicate 5 0) rfl rfl
          rw [decide_eq_true rfl] at q2
          have g2 := guard_agg .eql 22 ((List.replicate 5 (0 : UInt8)).map eB).toArray ((List.replicate 5 (0 : UInt8)).map eB).toArray (by kernel_rfl)
          have hc1 := hcell 0 (by omega)
          rw [C8_at L 0 (by omega)] at h1
          generalize L[0]'(by omega) = y at *
          have d1 : decide ((1 : Int) ≤ (y.toNat : Int)) = true := decide_eq_true (by omega)
          generalize List.replicate 5 (0 : UInt8) = Z' at *
          clear hf hbi hcell h1
          go_wp2_with (first
            | (refine wpList_load_rowg rfl 22 (.tmp 7) rfl g rfl _ (Z'.map eB).toArray _ _ hr3 Try.underlying22 rfl sx ?_)
            | (refine wpList_build rfl 22 _ rfl _ _ (b1 _) (by kernel_rfl) ?_))
          go_at_call 7
          refine (hw _).mono ?_
          rintro e w3 ⟨rfl, hB3⟩
          go_wp2_with fail
          go_ret
          exact ⟨rfl, below_trans hA2 hB3⟩
        · obtain ⟨k, hk, hke⟩ : ∃ k : Nat, k < 26 ∧ (wrap64 (at_.tmod 26 + 26)).tmod 26 = (k : Int) := by
            have h1 : at_.tmod 26 < 26 := Int.tmod_lt_of_pos _ (by omega)
            have h2 : -26 < at_.tmod 26 := Int.lt_tmod_of_pos _ (by omega)
            generalize at_.tmod 26 = t at *
            rw [IntWalk.wrap64_in (t + 26) (by omega), Int.tmod_eq_emod_of_nonneg (by omega)]
            exact ⟨((t + 26) % 26).toNat, by omega, by omega⟩
          obtain ⟨hz', hsz'⟩ := zero_of_info info26
          rw [z26_eq] at hz'
          have hc1 := cells_aB (List.replicate 26 0)
          have zL : ((List.replicate 26 (0 : UInt8)).map eB).toArray.size = (L.map eB).toArray.size := by simp [hL]
          generalize List.replicate 26 (0 : UInt8) = Z26 at *
          have oL := one_map L
          have hkL : k < L.length := by omega
          have hck := hcell k hkL
          obtain ⟨y, e1, hbi2, hbk2⟩ := Back_both (L.set k c) (by simpa using hL)
          have hset := back_set hL hf hn k hk c hbi2
          have hFv := Five_L (byL (nt3 L 26)) (byL_length _)
          have hnt : trL (nb (byL (nt3 L 26)) 5) = L := by
            have h1 := nb_byL (nt3 L 26) (by omega) 5 (by omega)
            rw [Nat.sub_self, Nat.pow_zero, Nat.div_one] at h1
            rw [h1]
            exact trL_nt3 L hL ((fB_all L hL).1 hf)
          rw [hnt] at hFv
          have hy5 := hbi2.1
          have sU := size26 (L.set k c) (by simpa using hL)
          have sy := size5 y hy5
          have oy := one_map y
          have hxl := byL_length (nt3 L 26)
          generalize byL (nt3 L 26) = x at *
          have hr4 := Rowed.new w2 23 (Z26.map eB).toArray
          have hA3 := hA2.alloc hA2.size (.cells (Z26.map eB).toArray 23)
          have hr5 := Row8.put hr4 L
          have hA4 := below_setRow hA3 w2.heap.size (L.map eB).toArray hA2.size
          have hs2 := hA2.size
          have hr1a := (hr1.alloc (.cells (Z26.map eB).toArray 23)).put_other (g' := w2.heap.size) (cs' := (L.map eB).toArray) (by omega)
          have hg2 := hr3.lt
          have hr3a := (hr3.alloc (.cells (Z26.map eB).toArray 23)).put_other (g' := w2.heap.size) (cs' := (L.map eB).toArray) (by omega)
          have hc5 : ((w2.alloc (.cells (Z26.map eB).toArray 23)).setRow w2.heap.size (L.map eB).toArray).cell? ⟨w2.heap.size, k, none⟩ = some (eB L[k]) := by
            rw [hr5.cell k]; simp [hkL]
          have hf5 := hr5.frozen k
          have hr6 := hr5.set k (eB c)
          have hse : (L.map eB).toArray.setIfInBounds k (eB c) = ((L.set k c).map eB).toArray := by simp
          rw [hse] at hr6
          have hr1b := hr1a.other w2.heap.size k (eB c) (by omega)
          have hr3b := hr3a.other w2.heap.size k (eB c) (by omega)
          have hA5 := hA4.setCell (p := ⟨w2.heap.size, k, none⟩) (by show w.heap.size ≤ w2.heap.size; omega) (eB c)
          have k1 : (k : Int) < 26 := by omega
          generalize hU : L.set k c = U at *
          clear hbi hcell hnt hse hbi2 hr5 hr1a hr3a hA3 hA4 hn hxl hU
          go_wp2_with (first
            | (refine wpList_load_row rfl 23 (.tmp 3) rfl w.heap.size rfl _ (L.map eB).toArray _ _ hr1 Try.underlying23 rfl sL ?_)
            | (refine wpList_store_row rfl 23 (.tmp 11) (.tmp 63) rfl w2.heap.size (L.map eB).toArray rfl rfl _ _ hr4 sL zL oL ?_)
            | (refine wpList_load_row rfl 23 (.tmp 11) rfl w2.heap.size rfl _ (U.map eB).toArray _ _ hr6 Try.underlying23 rfl sU ?_))
          have hl6 := hr6.lt
          have hl1 := hr1b.lt
          have hl3 := hr3b.lt
          have hs5 := hA5.size
          generalize ((w2.alloc (.cells (Z26.map eB).toArray 23)).setRow w2.heap.size (L.map eB).toArray).setCell ⟨w2.heap.size, k, none⟩ (eB c) = w3 at *
          generalize w2.heap.size = g2 at *
          go_at_call 8
          refine (hbk2 _).mono ?_
          rintro e w4 ⟨rfl, hB4⟩
          have hr1c := hr1b.below hB4 hl1
          have hr3c := hr3b.below hB4 hl3
          have hA6 := below_trans hA5 hB4
          have hl1c := hr1c.lt
          have hl3c := hr3c.lt
          have zy : (Z.map eB).toArray.size = (y.map eB).toArray.size := by rw [sz5]; simp [hy5, hx5]
          have hr7 := Rowed.new w4 22 (Z.map eB).toArray
          have hA7 := below_setRow (hA6.alloc hA6.size (.cells (Z.map eB).toArray 22)) w4.heap.size (y.map eB).toArray hA6.size
          have hr8 := Row8.put hr7 y
          have hr1d := (hr1c.alloc (.cells (Z.map eB).toArray 22)).put_other (g' := w4.heap.size) (cs' := (y.map eB).toArray) (by omega)
          have hr3d := (hr3c.alloc (.cells (Z.map eB).toArray 22)).put_other (g' := w4.heap.size) (cs' := (y.map eB).toArray) (by omega)
          clear hbk2 hB4 hA5 hA6 hr1b hr3b hr1c hr3c hr6 hr4 sU sz5 zL
          go_wp2_with (refine wpList_store_row rfl 22 (.tmp 12) (.tmp 70) rfl w4.heap.size (y.map eB).toArray rfl rfl _ _ hr7 sy zy oy ?_)
          have hl1 := hr1d.lt
          have hl3 := hr3d.lt
          have hl8 := hr8.lt
          generalize (w4.alloc (.cells (Z.map eB).toArray 22)).setRow w4.heap.size (y.map eB).toArray = w5 at *
          generalize w4.heap.size = g4 at *
          clear hr7 hcL hc0 hc1 hz hz' hr1 hr3 hA2 hs2 hck hc5 hf5
          have ld1 : ∀ w', Below w5.heap.size w5 w' → (Instr.loadAt 22 (.pointer (some ⟨g, 0, none⟩))).run Try.prog w' = .ok (aB x) w' := fun w' hB => run_loadAt_row w' g _ 22 _ _ _ (hr3d.below hB hl3) Try.underlying22 rfl sx
          have ld2 : ∀ w', Below w5.heap.size w5 w' → (Instr.loadAt 23 (.pointer (some ⟨w.heap.size, 0, none⟩))).run Try.prog w' = .ok (aB L) w' := fun w' hB => run_loadAt_row w' w.heap.size _ 23 _ _ _ (hr1d.below hB hl1) Try.underlying23 rfl sL
          have ld3 : ∀ w', Below w5.heap.size w5 w' → (Instr.loadAt 22 (.pointer (some ⟨g4, 0, none⟩))).run Try.prog w' = .ok (aB y) w' := fun w' hB => run_loadAt_row w' g4 _ 22 _ _ _ (hr8.below hB hl8) Try.underlying22 rfl sy
          have ck : ∀ w', Below w5.heap.size w5 w' → w'.cell? ⟨w.heap.size, k, none⟩ = some (eB L[k]) := fun w' hB => by
            rw [(hr1d.below hB hl1).cell k]; simp [hkL]
          have qL := eql26 L L hL hL
          rw [decide_eq_true rfl] at qL
          have qx := eql5 y x hy5 hx5
          have gL := guard_agg .eql 23 (L.map eB).toArray (L.map eB).toArray (by kernel_rfl)
          have gx := guard_agg .neq 22 (y.map eB).toArray (x.map eB).toArray (by kernel_rfl)
          have hdr : Below w5.heap.size w5 w5.drew := ⟨rfl, rfl, rfl, Nat.le_refl _, fun _ _ => rfl⟩
          clear hr1d hr3d hr8 sy oy hf hx5 hy5 sx sL ox oL
          go_wp2_with fail
          by_cases hcl : c = L[k]
          · have hb1 : (((c.toNat : Int)) == (L[k].toNat : Int)) = true := by rw [hcl]; simp
            refine wp_region_det (Below w5.heap.size w5) [(72, aB x), (73, aB L), (74, aB L), (75, .bool true), (76, .bool true), (77, eB c), (78, .int .i64 k), (79, .pointer (some ⟨w.heap.size, k, none⟩)), (80, eB L[k]), (81, .bool true), (82, .bool true), (83, undef), (84, undef), (85, .bool true), (86, .bool true), (87, undef), (88, undef), (89, undef), (90, .bool true), (91, .bool true), (92, .bool true), (93, .bool true), (94, .bool true), (6, .bool true)]
              (by kernel_rfl) (by kernel_rfl) (by kernel_rfl) (by kernel_rfl) (by kernel_rfl) hdr ?ok1 ?fin1
            case ok1 =>
              intro A hA
              simp only [putAll, Act.put, List.setIfInBounds_toArray, List.set_cons_zero, List.set_cons_succ] at hA
              subst hA
              simp only [detAll]
              refine ⟨?_, ?_, ?_, ?_, ?_, ?_, ?_, ?_, ?_, ?_, ?_, ?_, ?_, ?_, ?_, ?_, ?_, ?_, ?_, ?_, ?_, ?_, ?_, ?_, trivial⟩
              all_goals first
                | exact det_load 22 (.tmp 7) rfl rfl _ ld1 rfl
                | exact det_load 22 (.tmp 12) rfl rfl _ ld3 rfl
                | exact det_load 23 (.tmp 3) rfl rfl _ ld2 rfl
                | (intro w' hS'
                   have cc := ck w' hS'
                   clear ld1 ld2 ld3 ck
                   go_simp
                   first
                     | exact hS'
                     | exact ⟨rfl, hS'⟩
                     | (refine (hFv _).mono ?_; rintro e w'' ⟨rfl, hB⟩; exact ⟨rfl, below_trans hS' hB⟩)
                     | (refine (hw _).mono ?_; rintro e w'' ⟨rfl, hB⟩; exact ⟨rfl, below_trans hS' hB⟩)
                     | done)
            case fin1 =>
              intro A hA w6 hS6
              simp only [putAll, Act.put, List.setIfInBounds_toArray, List.set_cons_zero, List.set_cons_succ] at hA
              subst hA
              clear ld1 ld2 ld3 ck
              go_wp2_with fail
              go_ret
              exact ⟨rfl, below_trans hA7 hS6⟩
          · have hb1 : (((c.toNat : Int)) == (L[k].toNat : Int)) = false := by
              rw [beq_eq_false_iff_ne]
              intro h
              exact hcl (UInt8.toNat_inj.1 (by omega))
            by_cases he1 : e1 = 0
            · have hyx := hset hcl he1
              rw [decide_eq_false hyx] at qx
              subst he1
              clear hset hyx
              refine wp_region_det (Below w5.heap.size w5) [(72, aB x), (73, aB L), (74, aB L), (75, .bool true), (76, .bool true), (77, eB c), (78, .int .i64 k), (79, .pointer (some ⟨w.heap.size, k, none⟩)), (80, eB L[k]), (81, .bool false), (82, .bool false), (83, .int .i64 0), (84, .bool false), (85, .bool false), (86, .bool false), (87, aB y), (88, aB x), (89, .bool true), (90, .bool true), (91, .bool true), (92, .bool true), (93, .bool true), (94, .bool true), (6, .bool true)]
                (by kernel_rfl) (by kernel_rfl) (by kernel_rfl) (by kernel_rfl) (by kernel_rfl) hdr ?ok2 ?fin2
              case ok2 =>
                intro A hA
                simp only [putAll, Act.put, List.setIfInBounds_toArray, List.set_cons_zero, List.set_cons_succ] at hA
                subst hA
                simp only [detAll]
                refine ⟨?_, ?_, ?_, ?_, ?_, ?_, ?_, ?_, ?_, ?_, ?_, ?_, ?_, ?_, ?_, ?_, ?_, ?_, ?_, ?_, ?_, ?_, ?_, ?_, trivial⟩
                all_goals first
                  | exact det_load 22 (.tmp 7) rfl rfl _ ld1 rfl
                  | exact det_load 22 (.tmp 12) rfl rfl _ ld3 rfl
                  | exact det_load 23 (.tmp 3) rfl rfl _ ld2 rfl
                  | (intro w' hS'
                     have cc := ck w' hS'
                     clear ld1 ld2 ld3 ck
                     go_simp
                     first
                       | exact hS'
                       | exact ⟨rfl, hS'⟩
                       | (refine (hFv _).mono ?_; rintro e w'' ⟨rfl, hB⟩; exact ⟨rfl, below_trans hS' hB⟩)
                       | (refine (hw _).mono ?_; rintro e w'' ⟨rfl, hB⟩; exact ⟨rfl, below_trans hS' hB⟩)
                       | done)
              case fin2 =>
                intro A hA w6 hS6
                simp only [putAll, Act.put, List.setIfInBounds_toArray, List.set_cons_zero, List.set_cons_succ] at hA
                subst hA
                clear ld1 ld2 ld3 ck
                go_wp2_with fail
                go_ret
                exact ⟨rfl, below_trans hA7 hS6⟩
            · have hb2 : (e1 == 0) = false := by simpa using he1
              have hb3 : (e1 != 0) = true := by simpa using he1
              clear hset
              refine wp_region_det (Below w5.heap.size w5) [(72, aB x), (73, aB L), (74, aB L), (75, .bool true), (76, .bool true), (77, eB c), (78, .int .i64 k), (79, .pointer (some ⟨w.heap.size, k, none⟩)), (80, eB L[k]), (81, .bool false), (82, .bool false), (83, .int .i64 e1), (84, .bool true), (85, .bool true), (86, .bool true), (87, undef), (88, undef), (89, undef), (90, .bool true), (91, .bool true), (92, .bool true), (93, .bool true), (94, .bool true), (6, .bool true)]
                (by kernel_rfl) (by kernel_rfl) (by kernel_rfl) (by kernel_rfl) (by kernel_rfl) hdr ?ok3 ?fin3
              case ok3 =>
                intro A hA
                simp only [putAll, Act.put, List.setIfInBounds_toArray, List.set_cons_zero, List.set_cons_succ] at hA
                subst hA
                simp only [detAll]
                refine ⟨?_, ?_, ?_, ?_, ?_, ?_, ?_, ?_, ?_, ?_, ?_, ?_, ?_, ?_, ?_, ?_, ?_, ?_, ?_, ?_, ?_, ?_, ?_, ?_, trivial⟩
                all_goals first
                  | exact det_load 22 (.tmp 7) rfl rfl _ ld1 rfl
                  | exact det_load 22 (.tmp 12) rfl rfl _ ld3 rfl
                  | exact det_load 23 (.tmp 3) rfl rfl _ ld2 rfl
                  | (intro w' hS'
                     have cc := ck w' hS'
                     clear ld1 ld2 ld3 ck
                     go_simp
                     first
                       | exact hS'
                       | exact ⟨rfl, hS'⟩
                       | (refine (hFv _).mono ?_; rintro e w'' ⟨rfl, hB⟩; exact ⟨rfl, below_trans hS' hB⟩)
                       | (refine (hw _).mono ?_; rintro e w'' ⟨rfl, hB⟩; exact ⟨rfl, below_trans hS' hB⟩)
                       | done)
              case fin3 =>
                intro A hA w6 hS6
                simp only [putAll, Act.put, List.setIfInBounds_toArray, List.set_cons_zero, List.set_cons_succ] at hA
                subst hA
                clear ld1 ld2 ld3 ck
                go_wp2_with fail
                go_ret
                exact ⟨rfl, below_trans hA7 hS6⟩
end Go.Proofs.Ytmppkfiocleicaa
