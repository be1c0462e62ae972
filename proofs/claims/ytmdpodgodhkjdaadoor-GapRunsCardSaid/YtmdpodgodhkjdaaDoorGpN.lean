/- GapRuns. -/
import Derived.Test.YtmdpodgodhkjdaaDoorGpV
import Derived.Test.YtmdpodgodhkjdaaDoorDT
import Derived.Deep.QuietTactic
namespace Go.Proofs.YtmdpodgodhkjdaaDoor
open Go.RowKit Go.Shelf
attribute [local go_sem] Oper.semAt_some run_store_func

set_option maxRecDepth 100000 in
set_option maxHeartbeats 4000000 in
theorem GapRuns_main (v0 : Value) (l : List Int) (zc zp zq : Int) (w : World) (hS : Sl eI w.heap.size w v0 l) (hT : Tab w) (h1 : 1 ≤ l.length) (h2 : l.length ≤ 120) :
    Calls Tryd.prog 6 #[v0, .int .i64 zc, .int .i64 zp, .int .i64 zq] w fun e w' => e = .returned (.bool true) ∧ Below w.heap.size w w' := by
  have hw := gwakes_any
  have hrw := row_any v0 l (by omega) w hS
  obtain ⟨A0, c0, rfl⟩ := hS.len
  have hxl := textL_length l
  have hx4 : FourG (textL l) := textL_four l
  obtain ⟨p, hp, hat1⟩ := at_isG zp l.length (by omega)
  obtain ⟨q, hq, hat2⟩ := at_isG zq l.length (by omega)
  have d1 : decide ((l.length : Int) < 1) = false := decide_eq_false (by omega)
  have d2 : decide ((120 : Int) < (l.length : Int)) = false := decide_eq_false (by omega)
  have hby := letterOf_ok zc
  have hri := fun v w => GRises_yes (textL l) (letterOf zc) _ (rises_four (textL l) (letterOf zc) (by omega) (by omega) hx4 hby) (by omega) v w
  have hkey := gap_runs (textL l) (letterOf zc) p q (by omega) (by omega) hx4 hby
  have hin := places_in (textL l) (letterOf zc) p
  have hc3 := bits_and3 zc
  have hic := run_acgt zc
  have hc0 : 0 ≤ zc % 4 := by omega
  have hc4 : zc % 4 < 4 := by omega
  have n0 : ¬ (l.length : Int) + 1 = 0 := by omega
  have Hxl := Lib.hid hxl
  have Hpq := Lib.hid (And.intro hp hq)
  generalize textL l = x at *
  generalize letterOf zc = by_ at *
  clear hS hx4 h1 hby hxl
  go_enter Tryd.func6, Tryd.ntmps6
  go_wp2_with fail
  go_at_call 21
  refine hrw.mono ?_
  rintro e w1 ⟨vx, rfl, hx, hB⟩
  have hx := hx.sl
  have hT := hT.below hB
  obtain ⟨A, cx, rfl⟩ := hx.len
  have hcx : x.length ≤ cx := by
    obtain ⟨A', c', e, hc, _⟩ := id hx
    injection e with _ _ e
    omega
  rw [← Hxl.out] at hat1 hat2 hp hq n0 h2
  clear hrw d1 d2
  go_wp2_with fail
  go_quiet (fail)
  have hD : Below w1.heap.size w1 (w1.drewN nq) := ⟨rfl, rfl, rfl, Nat.le_refl _, fun _ _ => rfl⟩
  have hx := hx.next hD
  have hT := hT.below hD
  have hB := below_trans hB hD
  clear hD hat1 hat2
  generalize w1.drewN nq = w2 at *
  go_wp2_with fail
  go_at_call 16
  refine (hri _ _ hT hx).mono ?_
  rintro e w3 ⟨vs, rfl, hs, hC⟩
  have hx := hx.next hC
  have hT := hT.below hC
  have hB := below_trans hB hC
  obtain ⟨b, off, cs, rfl, hb, hcell⟩ := sl_row hs
  have k1 := hcell p hp
  have k2 := hcell q hq
  generalize placesG x by_ p = sp at *
  generalize placesG x by_ q = sq at *
  clear hC hri hs hcell hc3 hic hc0 hc4
  go_wp2_with fail
  refine wp_region_ghost (CutS 5 w3.drew by_) (fun g => [(61, .slice A x.length cx), (62, .int .i64 p), (63, sliced A 0 p cx 1), (64, .string ⟨(x.take p).toArray⟩), (65, eB by_), (66, .slice (some ⟨g, 0, none⟩) 1 1), (67, .string ⟨#[by_]⟩), (68, .string (⟨(x.take p).toArray⟩ ++ ⟨#[by_]⟩)), (69, .slice A x.length cx), (70, .int .i64 p), (71, sliced A p x.length cx 1), (72, .string ⟨(x.drop p).toArray⟩), (73, .string (⟨(x.take p).toArray⟩ ++ ⟨#[by_]⟩ ++ ⟨(x.drop p).toArray⟩)), (14, .string (⟨(x.take p).toArray⟩ ++ ⟨#[by_]⟩ ++ ⟨(x.drop p).toArray⟩))]) 0
    (by kernel_rfl) (by kernel_rfl) (by kernel_rfl) (by kernel_rfl) (fun _ => by kernel_rfl) ?startA ?okA ?finA
  case startA =>
    intro D hD
    refine ⟨Below.refl _ _, fun h => ?_⟩
    rw [hD 5 (by decide)] at h; cases h
  case okA =>
    intro T hT
    simp only [putAll, Act.put, List.setIfInBounds_toArray, List.set_cons_zero, List.set_cons_succ] at hT
    have hxd : Sl eB w3.drew.heap.size w3.drew (.slice A x.length cx) x := hx
    have c1 : ∀ w', Below w3.drew.heap.size w3.drew w' → (convert 22 9 (sliced A 0 p cx 1)).run Tryd.prog w' = .ok (.string ⟨(x.take p).toArray⟩) w' := fun w' hB => run_str (P := Tryd.prog) (sliced_take (hxd.below hB) p (by omega)) 22 9 5 Tryd.underlying22 Tryd.underlying5 Tryd.underlying9
    have c2 : ∀ w', Below w3.drew.heap.size w3.drew w' → (convert 22 9 (sliced A p x.length cx 1)).run Tryd.prog w' = .ok (.string ⟨(x.drop p).toArray⟩) w' := fun w' hB => run_str (P := Tryd.prog) (sliced_drop (hxd.below hB) p (by omega)) 22 9 5 Tryd.underlying22 Tryd.underlying5 Tryd.underlying9
    have s1 := run_to A x.length cx p (by omega) hcx
    have s2 := run_from A x.length cx p (by omega)
    have hz1 : (((⟨(x.take p).toArray⟩ : ByteArray).size : Nat) : Int) ≤ 8388608 := by simp [ByteArray.size]; omega
    have hz2 : (((⟨#[by_]⟩ : ByteArray).size : Nat) : Int) ≤ 8388608 := by simp [ByteArray.size]
    have hz3 : ((((⟨(x.take p).toArray⟩ : ByteArray) ++ ⟨#[by_]⟩).size : Nat) : Int) ≤ 8388608 := by rw [ByteArray.size_append]; simp [ByteArray.size]; omega
    have hz4 : (((⟨(x.drop p).toArray⟩ : ByteArray).size : Nat) : Int) ≤ 8388608 := by simp [ByteArray.size]; omega
    simp only [ghAll]
    refine ⟨?_, ?_, ?_, ?_, ?_, ?_, ?_, ?_, ?_, ?_, ?_, ?_, ?_, ?_, trivial⟩
    all_goals first
      | (refine gh_slice 22 _ _ _ _ rfl rfl _ (fun g w' => by rw [hT g]; first | exact s1 w' | exact s2 w') (fun g => by rw [hT g]; rfl) (fun D g w' h => h.keep (by decide) (Below.refl _ _)))
      | (refine gh_conv 22 9 _ rfl rfl _ (fun D g w' _ h => by rw [hT g]; first | exact c1 w' h.1 | exact c2 w' h.1) (fun g => by rw [hT g]; rfl) (fun D g w' h => h.keep (by decide) (Below.refl _ _)))
      | (refine gh_conv 22 9 _ rfl rfl _ (fun D g w' hdp h => by
           simp [Region.binds] at hdp
           obtain ⟨-, h4, h5⟩ := h.2 hdp
           rw [hT g]
           exact run_str (P := Tryd.prog) (sl_cell h4 h5) 22 9 5 Tryd.underlying22 Tryd.underlying5 Tryd.underlying9) (fun g => by rw [hT g]; rfl) (fun D g w' h => h.keep (by decide) (Below.refl _ _)))
      | (refine gh_add _ _ rfl rfl _ _ hz1 hz2 (fun g => by rw [hT g]; rfl) (fun g => by rw [hT g]; rfl) (fun g => by rw [hT g]; rfl) (fun D g w' h => h.keep (by decide) (Below.refl _ _)))
      | (refine gh_add _ _ rfl rfl _ _ hz3 hz4 (fun g => by rw [hT g]; rfl) (fun g => by rw [hT g]; rfl) (fun g => by rw [hT g]; rfl) (fun D g w' h => h.keep (by decide) (Below.refl _ _)))
      | (refine gh_same fun D g w' hD hdp hS => ?_
         rw [hT g]
         clear hT
         go_simp
         first
           | exact hS.keep (by decide) (Below.refl _ _)
           | exact ⟨rfl, hS.keep (by decide) (Below.refl _ _)⟩)
      | skip
    · intro D g w' hD hdp ⟨s1, s2⟩
      refine ready_wp rfl ?_
      rw [hT g]
      go_simp
      refine show GhPost _ _ _ _ _ _ _ _ _ from ⟨w'.heap.size, by rw [hT], ?_, ?_, below_trans s1 (below_alloc _ _), fun _ => ⟨s1.size, by simp, (Boxed.new w' 5 (eB by_)).cell⟩⟩
      · intro s hs
        cases hs
        rw [hT]
        rfl
      · intro s hs
        by_cases h6 : s = 66
        · subst h6
          have := hs 5 _ rfl rfl
          rw [hD] at this
          cases this
        · have e : (T w'.heap.size).tmps = (T g).tmps.setIfInBounds 66 (.slice (some ⟨w'.heap.size, 0, none⟩) 1 1) := by rw [hT, hT]; rfl
          rw [e, Array.getElem?_setIfInBounds_ne (fun e => h6 e.symm)]
  case finA =>
    intro T hT D g WF hall ⟨s1, _⟩
    have hTg := hT g
    simp only [putAll, Act.put, List.setIfInBounds_toArray, List.set_cons_zero, List.set_cons_succ] at hTg
    rw [hTg]
    clear hT hTg
    rw [arr_ins]
    have s1 : Below w3.heap.size w3 WF := below_trans (below_drew_w w3) s1
    have hx := hx.next s1
    have hT := hT.below s1
    have hB := below_trans hB s1
    have k1 := (s1.cell (p := ⟨b, off + p, none⟩) hb).trans k1
    have k2 := (s1.cell (p := ⟨b, off + q, none⟩) hb).trans k2
    have hb := Nat.lt_of_lt_of_le hb s1.size
    clear s1 hall
    generalize hst1 : (⟨(insW x p by_).toArray⟩ : ByteArray) = st1
    go_wp2_with fail
    refine wp_region_ghost (CutS 5 WF.drew by_) (fun g => [(74, .slice A x.length cx), (75, .int .i64 q), (76, sliced A 0 q cx 1), (77, .string ⟨(x.take q).toArray⟩), (78, eB by_), (79, .slice (some ⟨g, 0, none⟩) 1 1), (80, .string ⟨#[by_]⟩), (81, .string (⟨(x.take q).toArray⟩ ++ ⟨#[by_]⟩)), (82, .slice A x.length cx), (83, .int .i64 q), (84, sliced A q x.length cx 1), (85, .string ⟨(x.drop q).toArray⟩), (86, .string (⟨(x.take q).toArray⟩ ++ ⟨#[by_]⟩ ++ ⟨(x.drop q).toArray⟩)), (15, .string (⟨(x.take q).toArray⟩ ++ ⟨#[by_]⟩ ++ ⟨(x.drop q).toArray⟩))]) 0
      (by kernel_rfl) (by kernel_rfl) (by kernel_rfl) (by kernel_rfl) (fun _ => by kernel_rfl) ?startB ?okB ?finB
    case startB =>
      intro D hD
      refine ⟨Below.refl _ _, fun h => ?_⟩
      rw [hD 5 (by decide)] at h; cases h
    case okB =>
      intro T hT
      simp only [putAll, Act.put, List.setIfInBounds_toArray, List.set_cons_zero, List.set_cons_succ] at hT
      have hxd : Sl eB WF.drew.heap.size WF.drew (.slice A x.length cx) x := hx
      have c1 : ∀ w', Below WF.drew.heap.size WF.drew w' → (convert 22 9 (sliced A 0 q cx 1)).run Tryd.prog w' = .ok (.string ⟨(x.take q).toArray⟩) w' := fun w' hB => run_str (P := Tryd.prog) (sliced_take (hxd.below hB) q (by omega)) 22 9 5 Tryd.underlying22 Tryd.underlying5 Tryd.underlying9
      have c2 : ∀ w', Below WF.drew.heap.size WF.drew w' → (convert 22 9 (sliced A q x.length cx 1)).run Tryd.prog w' = .ok (.string ⟨(x.drop q).toArray⟩) w' := fun w' hB => run_str (P := Tryd.prog) (sliced_drop (hxd.below hB) q (by omega)) 22 9 5 Tryd.underlying22 Tryd.underlying5 Tryd.underlying9
      have s1 := run_to A x.length cx q (by omega) hcx
      have s2 := run_from A x.length cx q (by omega)
      have hz1 : (((⟨(x.take q).toArray⟩ : ByteArray).size : Nat) : Int) ≤ 8388608 := by simp [ByteArray.size]; omega
      have hz2 : (((⟨#[by_]⟩ : ByteArray).size : Nat) : Int) ≤ 8388608 := by simp [ByteArray.size]
      have hz3 : ((((⟨(x.take q).toArray⟩ : ByteArray) ++ ⟨#[by_]⟩).size : Nat) : Int) ≤ 8388608 := by rw [ByteArray.size_append]; simp [ByteArray.size]; omega
      have hz4 : (((⟨(x.drop q).toArray⟩ : ByteArray).size : Nat) : Int) ≤ 8388608 := by simp [ByteArray.size]; omega
      simp only [ghAll]
      refine ⟨?_, ?_, ?_, ?_, ?_, ?_, ?_, ?_, ?_, ?_, ?_, ?_, ?_, ?_, trivial⟩
      all_goals first
        | (refine gh_slice 22 _ _ _ _ rfl rfl _ (fun g w' => by rw [hT g]; first | exact s1 w' | exact s2 w') (fun g => by rw [hT g]; rfl) (fun D g w' h => h.keep (by decide) (Below.refl _ _)))
        | (refine gh_conv 22 9 _ rfl rfl _ (fun D g w' _ h => by rw [hT g]; first | exact c1 w' h.1 | exact c2 w' h.1) (fun g => by rw [hT g]; rfl) (fun D g w' h => h.keep (by decide) (Below.refl _ _)))
        | (refine gh_conv 22 9 _ rfl rfl _ (fun D g w' hdp h => by
             simp [Region.binds] at hdp
             obtain ⟨-, h4, h5⟩ := h.2 hdp
             rw [hT g]
             exact run_str (P := Tryd.prog) (sl_cell h4 h5) 22 9 5 Tryd.underlying22 Tryd.underlying5 Tryd.underlying9) (fun g => by rw [hT g]; rfl) (fun D g w' h => h.keep (by decide) (Below.refl _ _)))
        | (refine gh_add _ _ rfl rfl _ _ hz1 hz2 (fun g => by rw [hT g]; rfl) (fun g => by rw [hT g]; rfl) (fun g => by rw [hT g]; rfl) (fun D g w' h => h.keep (by decide) (Below.refl _ _)))
        | (refine gh_add _ _ rfl rfl _ _ hz3 hz4 (fun g => by rw [hT g]; rfl) (fun g => by rw [hT g]; rfl) (fun g => by rw [hT g]; rfl) (fun D g w' h => h.keep (by decide) (Below.refl _ _)))
        | (refine gh_same fun D g w' hD hdp hS => ?_
           rw [hT g]
           clear hT
           go_simp
           first
             | exact hS.keep (by decide) (Below.refl _ _)
             | exact ⟨rfl, hS.keep (by decide) (Below.refl _ _)⟩)
        | skip
      · intro D g w' hD hdp ⟨s1, s2⟩
        refine ready_wp rfl ?_
        rw [hT g]
        go_simp
        refine show GhPost _ _ _ _ _ _ _ _ _ from ⟨w'.heap.size, by rw [hT], ?_, ?_, below_trans s1 (below_alloc _ _), fun _ => ⟨s1.size, by simp, (Boxed.new w' 5 (eB by_)).cell⟩⟩
        · intro s hs
          cases hs
          rw [hT]
          rfl
        · intro s hs
          by_cases h6 : s = 79
          · subst h6
            have := hs 5 _ rfl rfl
            rw [hD] at this
            cases this
          · have e : (T w'.heap.size).tmps = (T g).tmps.setIfInBounds 79 (.slice (some ⟨w'.heap.size, 0, none⟩) 1 1) := by rw [hT, hT]; rfl
            rw [e, Array.getElem?_setIfInBounds_ne (fun e => h6 e.symm)]
    case finB =>
      intro T hT D g WG hall ⟨s1, _⟩
      have hTg := hT g
      simp only [putAll, Act.put, List.setIfInBounds_toArray, List.set_cons_zero, List.set_cons_succ] at hTg
      rw [hTg]
      clear hT hTg
      rw [arr_ins]
      have s1 : Below WF.heap.size WF WG := below_trans (below_drew_w WF) s1
      have hx := hx.next s1
      have hT := hT.below s1
      have hB := below_trans hB s1
      have k1 := (s1.cell (p := ⟨b, off + p, none⟩) hb).trans k1
      have k2 := (s1.cell (p := ⟨b, off + q, none⟩) hb).trans k2
      have hb := Nat.lt_of_lt_of_le hb s1.size
      clear s1 hall
      generalize hst2 : (⟨(insW x q by_).toArray⟩ : ByteArray) = st2
      have e1 : (sp == sq) = (st1.toList == st2.toList) := by
        rw [hkey, ← hst1, ← hst2]
        exact (ins_beq (insW x p by_) (insW x q by_)).symm
      have e2 : ∀ b0 : Bool, (b0 == b0) = true := fun b0 => by cases b0 <;> rfl
      have pI : (p : Int) < (x.length : Int) + 1 := by omega
      have qI : (q : Int) < (x.length : Int) + 1 := by omega
      have p1 : decide (0 ≤ sp) = true := decide_eq_true hin.1
      have p2 : decide (sp < (x.length : Int) + 1) = true := decide_eq_true hin.2
      have Hhid := Lib.hid hkey
      clear hkey hst1 hst2 hin
      generalize hbb : (st1.toList == st2.toList) = bb at *
      have hS0 : Below w.heap.size w WG.drew := below_trans hB (below_drew_w WG)
      have hBG : Below WG.drew.heap.size WG.drew WG.drew := Below.refl _ _
      go_wp2_with fail
      refine wp_region_det (fun w' => Below WG.drew.heap.size WG.drew w') [(87, .slice (some ⟨b, off, none⟩) (x.length + 1) cs), (88, .int .i64 p), (89, .pointer (some ⟨b, off + p, none⟩)), (90, .int .i64 sp), (91, .slice (some ⟨b, off, none⟩) (x.length + 1) cs), (92, .int .i64 q), (93, .pointer (some ⟨b, off + q, none⟩)), (94, .int .i64 sq), (95, .bool bb), (96, .string st1), (97, .string st2), (98, .bool bb), (99, .bool true), (100, .bool true), (101, .slice (some ⟨b, off, none⟩) (x.length + 1) cs), (102, .int .i64 p), (103, .pointer (some ⟨b, off + p, none⟩)), (104, .int .i64 sp), (105, .bool true), (106, .bool true), (107, .bool true), (108, .slice (some ⟨b, off, none⟩) (x.length + 1) cs), (109, .int .i64 p), (110, .pointer (some ⟨b, off + p, none⟩)), (111, .int .i64 sp), (112, .int .i64 ((x.length : Int) + 1)), (113, .bool true), (114, .bool true), (115, .bool true), (116, .bool true), (117, .bool true), (8, .bool true)]
        (by kernel_rfl) (by kernel_rfl) (by kernel_rfl) (by kernel_rfl) (by kernel_rfl) hBG ?okC ?finC
      case okC =>
        intro A hA
        simp only [putAll, Act.put, List.setIfInBounds_toArray, List.set_cons_zero, List.set_cons_succ] at hA
        subst hA
        simp only [detAll]
        refine ⟨?_, ?_, ?_, ?_, ?_, ?_, ?_, ?_, ?_, ?_, ?_, ?_, ?_, ?_, ?_, ?_, ?_, ?_, ?_, ?_, ?_, ?_, ?_, ?_, ?_, ?_, ?_, ?_, ?_, ?_, ?_, ?_, trivial⟩
        all_goals first
          | (intro w' hS'
             have kp : w'.cell? ⟨b, off + p, none⟩ = some (.int .i64 sp) := (hS'.cell (p := ⟨b, off + p, none⟩) hb).trans k1
             have kq : w'.cell? ⟨b, off + q, none⟩ = some (.int .i64 sq) := (hS'.cell (p := ⟨b, off + q, none⟩) hb).trans k2
             have hTw := hT.below (below_trans (below_drew_w WG) hS')
             clear k1 k2 hB hS0 hBG
             go_simp
             first
               | exact hS'
               | exact ⟨rfl, hS'⟩
               | (go_at_call 13; refine (hw _ hTw).mono ?_; rintro e w'' ⟨rfl, hB⟩; exact ⟨rfl, below_trans hS' hB⟩)
               | done)
          | skip
      case finC =>
        intro A hA w6 hS6
        simp only [putAll, Act.put, List.setIfInBounds_toArray, List.set_cons_zero, List.set_cons_succ] at hA
        subst hA
        go_wp2_with fail
        go_ret
        exact ⟨rfl, below_trans hS0 hS6⟩
end Go.Proofs.YtmdpodgodhkjdaaDoor
