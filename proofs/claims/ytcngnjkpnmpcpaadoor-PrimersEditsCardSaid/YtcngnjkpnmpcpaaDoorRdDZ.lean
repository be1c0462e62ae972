import Derived.Test.YtcngnjkpnmpcpaaDoorCIZ
import Derived.Test.YtcngnjkpnmpcpaaDoorDTIZ
import Derived.Test.YtcngnjkpnmpcpaaDoorIVZ
import Derived.Test.YtcngnjkpnmpcpaaDoorLvAZ
namespace Go.Proofs.YtcngnjkpnmpcpaaDoor
open Go.RowKit Go.Shelf
attribute [local go_sem] Oper.semAt_some run_store_func
theorem rw_is (z v : Int) (h : v = z) (h0 : -1000000 ≤ z) (h1 : z ≤ 1000000) : wrap64 z = v ∧ IntKind.i64.wrap z = v :=
 ⟨by rw [IntWalk.wrap64_in _ (by omega), h], by rw [IntWalk.i64_in _ (by omega), h]⟩
theorem row_facts (L M k i : Nat) (h1 : L ≤ max i (k + 1)) (h2 : M ≤ max (i + 1) k) (hi : i ≤ 1000) (hk : k ≤ 1000) :
    (0 : Int) ≤ (k : Int) + 1 ∧ IntKind.i64.wrap ((L : Int) + 1) = (L : Int) + 1 ∧ IntKind.i64.wrap ((M : Int) + 1) = (M : Int) + 1 ∧ IntKind.i64.wrap (k : Int) = k :=
  ⟨by omega, (rw_is _ _ rfl (by omega) (by omega)).2, (rw_is _ _ rfl (by omega) (by omega)).2, (rw_is _ _ rfl (by omega) (by omega)).2⟩
theorem u8_neR (c k : UInt8) (h : c ≠ k) : (c.toNat : Int) ≠ (k.toNat : Int) := fun he => h (UInt8.toNat_inj.1 (by omega))
theorem below_setR {B g : Nat} {w W : World} (h : Below B w W) (hg : B ≤ g) (j : Nat) (v : Value) : Below B w (W.setCell ⟨g, j, none⟩ v) := h.trans ⟨rfl, rfl, rfl, by simp [World.setCell], fun k hk => Below.heap_setCell _ _ _ _ (by show k ≠ g; omega)⟩
set_option maxRecDepth 100000 in
set_option maxHeartbeats 4000000 in
theorem row_any (va vb : Value) (a b : List UInt8) (hla : a.length ≤ 1000) (hlb : b.length ≤ 1000) (w : World) (hSa : Sl eB w.heap.size w va a) (hSb : Sl eB w.heap.size w vb b) :
    Calls Tryd.prog 45 #[va, vb] w fun e w' => ∃ g, e = .returned (.slice (some ⟨g, 0, none⟩) (b.length + 1) (b.length + 1)) ∧ Rowed w' g 3 (cellsI (fun k => (lev (sameAt a b) a.length k : Nat)) (b.length + 1)) ∧ w.heap.size ≤ g ∧ Below w.heap.size w w' := by
  obtain ⟨A0, c0, rfl, -, hca⟩ := hSa
  obtain ⟨A1, c1, rfl, -, hcb⟩ := hSb
  obtain ⟨N, hN⟩ : ∃ N, b.length + 1 = N := ⟨_, rfl⟩
  have hmk := fun w => make_ints N (by omega) ((b.length : Int) + 1) (by omega) w
  have hA := below_alloc w (.cells (cellsI (fun _ => 0) N) 3)
  have hr := Rowed.new w 3 (cellsI (fun _ => 0) N)
  have hr0 : Rowed (w.alloc (.cells (cellsI (fun _ => 0) N) 3)) w.heap.size 3 (cellsI (fun j => if j < 0 then (j : Int) else 0) N) := by
   rw [cellsI_congr _ (fun _ => (0 : Int)) N fun j _ => by simp]; exact hr
  rw [hN]
  have HN := Lib.hid hN
  clear hN hr
  go_enter Tryd.func45, Tryd.ntmps45
  go_wp2_with fail
  generalize w.alloc (.cells (cellsI (fun _ => 0) N) 3) = w0 at *
  go_loopw [6] (fun t wr => ∃ k : Nat, k ≤ N ∧ t = .int .i64 k ∧ Rowed wr w.heap.size 3 (cellsI (fun j => if j < k then (j : Int) else 0) N) ∧ Below w.heap.size w wr) (fun t _ => N - (intOf t).toNat)
  case atStart => exact ⟨0, Nat.zero_le _, rfl, hr0, hA⟩
  case round =>
   obtain ⟨k, hk, rfl, hrk, hB⟩ := hrel
   by_cases hlt : k < N
   · have ck := hrk.cell k
     rw [cellsI_get _ _ _ hlt] at ck
     have fk := hrk.frozen k
     have hset := hrk.set k (eI (k : Int))
     rw [cellsI_set, cellsI_congr _ (fun j => if j < k + 1 then (j : Int) else 0) N fun j hj => by
      by_cases h : j = k
      · subst h; simp
      · by_cases h2 : j < k
        · rw [if_neg h, if_pos h2, if_pos (by omega)]
        · rw [if_neg h, if_neg h2, if_neg (by omega)]] at hset
     have hBn := below_setR hB (Nat.le_refl _) k (eI (k : Int))
     have h3 : (k : Int) ≤ (b.length : Int) := by have := HN.out; omega
     have h4 : (k : Int) < (N : Int) := by omega
     have Hk := Lib.hid hlt
     have hk9 : k ≤ 1001 := by have := HN.out; omega
     have Hr := Lib.hid hset
     have HB := Lib.hid hBn
     clear hrk hB hset hBn hr0 hA hk hca hcb
     go_wp2_with fail
     go_roundw
     case rel => exact ⟨k + 1, Hk.out, by go_num, Hr.out, HB.out⟩
     case measure => have := Hk.out; simp [intOf]; omega
   · have hkN : k = N := by omega
     have h3 : ¬ (k : Int) ≤ (b.length : Int) := by have := HN.out; omega
     have hr1 : Rowed wr w.heap.size 3 (cellsI (fun j => (lev (sameAt a b) 0 j : Nat)) N) := by
      rw [hkN, cellsI_congr _ (fun j => ((lev (sameAt a b) 0 j : Nat) : Int)) N fun j hj => by rw [if_pos hj, lev_zero]] at hrk
      exact hrk
     have hB0 := hB
     clear hlt hk hrk hr0 hA hkN hB
     go_wp2_with fail
     clear h3
     go_loopw [5, 7] (fun l t wr => ∃ i g : Nat, i ≤ a.length ∧ t = .int .i64 ((i : Int) + 1) ∧ l = .slice (some ⟨g, 0, none⟩) N N ∧ w.heap.size ≤ g ∧ Rowed wr g 3 (cellsI (fun j => (lev (sameAt a b) i j : Nat)) N) ∧ Below w.heap.size w wr) (fun _ t _ => a.length + 1 - (intOf t).toNat)
     case atStart => exact ⟨0, w.heap.size, Nat.zero_le _, rfl, rfl, Nat.le_refl _, hr1, hB0⟩
     case round =>
      obtain ⟨i, g, hi, rfl, rfl, hg, hrg, hB⟩ := hrel
      clear hr1 hB0
      by_cases hlt : i < a.length
      · have hA2 := below_alloc wr (.cells (cellsI (fun _ => 0) N) 3)
        have hn0 := Rowed.new wr 3 (cellsI (fun _ => 0) N)
        have hrg2 := hrg.below hA2 hrg.lt
        have hBa := below_trans hB hA2
        have hlg := hrg.lt
        have hgw := hB.size
        have h3 : (i : Int) + 1 ≤ (a.length : Int) := by omega
        have hi9 : i ≤ 1000 := by omega
        have hN0 : (0 : Int) < (N : Int) := by have := HN.out; omega
        have hN1 : 0 < N := by have := HN.out; omega
        obtain ⟨G, hG⟩ : ∃ G, wr.heap.size = G := ⟨_, rfl⟩
        have c0 := hn0.cell 0
        rw [cellsI_get _ _ _ hN1] at c0
        have f0 := hn0.frozen 0
        have hset := Rowed.new wr 3 ((cellsI (fun _ => 0) N).setIfInBounds 0 (eI ((i : Int) + 1)))
        have hAs := below_alloc wr (.cells ((cellsI (fun _ => 0) N).setIfInBounds 0 (eI ((i : Int) + 1))) 3)
        have hsg := hrg.below hAs hrg.lt
        have hBs := below_trans hB hAs
        have hEq : cellsI (fun j => if j = 0 then (i : Int) + 1 else 0) N = cellsI (fun j => if j ≤ 0 then ((lev (sameAt a b) (i + 1) j : Nat) : Int) else 0) N := cellsI_congr _ _ N fun j _ => by
         by_cases h : j = 0
         · subst h; rw [if_pos rfl, if_pos (Nat.le_refl _), lev_left]; rfl
         · rw [if_neg h, if_neg (by omega)]
        have hset : Rowed (wr.alloc (.cells ((cellsI (fun _ => 0) N).setIfInBounds 0 (eI ((i : Int) + 1))) 3)) wr.heap.size 3 (cellsI (fun j => if j ≤ 0 then ((lev (sameAt a b) (i + 1) j : Nat) : Int) else 0) N) := by
         have h9 := hset
         unfold Rowed at h9 ⊢
         rw [h9, cellsI_set, hEq]
        clear hEq hAs
        have Hi := Lib.hid hlt
        have Hs := Lib.hid (And.intro hset (And.intro hsg hBs))
        have Hgw := Lib.hid (And.intro hg hgw)
        clear hsg hBs hset hn0 hrg hrg2 hA2 hB hBa hi hgw hg
        rw [hG] at c0 f0 Hs hlg Hgw
        go_wp2_with fail
        go_loopw [9] (fun t wq => ∃ k : Nat, k ≤ b.length ∧ t = .int .i64 ((k : Int) + 1) ∧ Rowed wq G 3 (cellsI (fun j => if j ≤ k then ((lev (sameAt a b) (i + 1) j : Nat) : Int) else 0) N) ∧ Rowed wq g 3 (cellsI (fun j => (lev (sameAt a b) i j : Nat)) N) ∧ Below w.heap.size w wq) (fun t _ => b.length + 1 - (intOf t).toNat)
        case atStart => exact ⟨0, Nat.zero_le _, rfl, Hs.out.1, Hs.out.2.1, Hs.out.2.2⟩
        case round =>
         obtain ⟨k, hk, rfl, hrn, hrg, hB⟩ := hrel
         clear c0 f0 Hs hG
         by_cases hkl : k < b.length
         · obtain ⟨ba, oa, rfl, la1, hcell1⟩ := hca (by omega)
           obtain ⟨bb, ob, rfl, lb1, hcell2⟩ := hcb (by omega)
           have m1 := (hB.cell (p := ⟨ba, oa + i, none⟩) la1).trans (hcell1 i a[i] (List.getElem?_eq_getElem hlt))
           have m2 := (hB.cell (p := ⟨bb, ob + k, none⟩) lb1).trans (hcell2 k b[k] (List.getElem?_eq_getElem hkl))
           have hNN := HN.out
           have q0 := hrg.cell k
           rw [cellsI_get _ _ _ (by omega)] at q0
           have q1 := hrg.cell (k + 1)
           rw [cellsI_get _ _ _ (by omega)] at q1
           have q2 := hrn.cell k
           rw [cellsI_get _ _ _ (by omega), if_pos (Nat.le_refl _)] at q2
           have q3 := hrn.cell (k + 1)
           rw [cellsI_get _ _ _ (by omega), if_neg (by omega)] at q3
           have hst := lev_step (sameAt a b) i k
           have hsame : sameAt a b i k = decide (a[i] = b[k]) := by
            unfold sameAt
            rw [List.getElem?_eq_getElem hlt, List.getElem?_eq_getElem hkl]
            exact decide_eq_decide.2 ⟨Option.some.inj, fun h => congrArg some h⟩
           rw [hsame] at hst
           have b0 := lev_most (sameAt a b) i k
           have b1 := lev_most (sameAt a b) i (k + 1)
           have b2 := lev_most (sameAt a b) (i + 1) k
           have f3 := hrn.frozen (k + 1)
           have Hput : Hid (∀ (W : World) (v : Nat), v = lev (sameAt a b) (i + 1) (k + 1) → Rowed W G 3 (cellsI (fun j => if j ≤ k then ((lev (sameAt a b) (i + 1) j : Nat) : Int) else 0) N) → Rowed (W.setCell ⟨G, k + 1, none⟩ (eI (v : Nat))) G 3 (cellsI (fun j => if j ≤ k + 1 then ((lev (sameAt a b) (i + 1) j : Nat) : Int) else 0) N)) := Lib.hid fun W v hv hrn => by
            have h := hrn.set (k + 1) (eI (v : Nat))
            rw [cellsI_set] at h
            rw [cellsI_congr _ (fun j => if j ≤ k + 1 then ((lev (sameAt a b) (i + 1) j : Nat) : Int) else 0) N fun j _ => by
             by_cases h1 : j = k + 1
             · subst h1; rw [if_pos rfl, if_pos (Nat.le_refl _), hv]
             · rw [if_neg h1]
               by_cases h2 : j ≤ k
               · rw [if_pos h2, if_pos (by omega)]
               · rw [if_neg h2, if_neg (by omega)]] at h
            exact h
           generalize a[i] = x at *
           generalize b[k] = y at *
           generalize lev (sameAt a b) i k = L0 at *
           generalize lev (sameAt a b) i (k + 1) = L1 at *
           generalize lev (sameAt a b) (i + 1) k = M0 at *
           have em := rw_is ((k : Int) + 1 - 1) (k : Int) (by omega) (by omega) (by omega)
           have ei := rw_is ((i : Int) + 1 - 1) (i : Int) (by omega) (by omega) (by omega)
           obtain ⟨em, em'⟩ := em
           obtain ⟨ei, ei'⟩ := ei
           have Hkl := Lib.hid hkl
           have h4 : (k : Int) + 1 ≤ (b.length : Int) := by have := Hkl.out; omega
           have h5 : (k : Int) + 1 < (N : Int) := by have := Hkl.out; have := HN.out; omega
           have h6 : (k : Int) < (N : Int) := by have := Hkl.out; have := HN.out; omega
           have h7 : (k : Int) < (b.length : Int) := by have := Hkl.out; omega
           have h8 : (i : Int) < (a.length : Int) := by have := Hi.out; omega
           have hk9 : k ≤ 1000 := by have := Hkl.out; omega
           clear hk hkl hca hcb hcell1 hcell2 hNN hset hsame
           by_cases hxy : x = y
           · have hne : ((x.toNat : Int) != (y.toNat : Int)) = false := by rw [hxy]; simp
             rw [decide_eq_true hxy] at hst
             obtain ⟨M1, hM1⟩ : ∃ M1 : Nat, min (L1 + 1) (M0 + 1) = M1 := ⟨_, rfl⟩
             obtain ⟨V, hV⟩ : ∃ V : Nat, min M1 (L0) = V := ⟨_, rfl⟩
             have hVl : V = lev (sameAt a b) (i + 1) (k + 1) := by rw [hst, hM1, ← hV]; simp
             have r1 : ∀ (P : Program) (ts : Array TypeId) (t : TypeId) (w : World), (Builtin.min_ ts t #[.int .i64 ((L1 : Int) + 1), .int .i64 ((M0 : Int) + 1)]).run P w = .ok (.int .i64 (M1 : Nat)) w := fun P ts t w => by rw [run_min_i]; congr 2; omega
             have r2 : ∀ (P : Program) (ts : Array TypeId) (t : TypeId) (w : World), (Builtin.min_ ts t #[.int .i64 (M1 : Nat), .int .i64 ((L0 : Int))]).run P w = .ok (.int .i64 (V : Nat)) w := fun P ts t w => by rw [run_min_i]; congr 2; omega
             have HVl := Lib.hid hVl
             clear hst hM1 hV hVl
             go_wp2_with fail
             go_quiet (fail)
             have Hw := Lib.hid (And.intro (show Rowed (wr.drewN nq) G 3 _ from hrn) (And.intro (show Rowed (wr.drewN nq) g 3 _ from hrg) (hB.trans (below_drewN wr nq))))
             have q0 : (wr.drewN nq).cell? ⟨g, k, none⟩ = some (eI (L0 : Nat)) := q0
             have q1 : (wr.drewN nq).cell? ⟨g, k + 1, none⟩ = some (eI (L1 : Nat)) := q1
             have q2 : (wr.drewN nq).cell? ⟨G, k, none⟩ = some (eI (M0 : Nat)) := q2
             have q3 : (wr.drewN nq).cell? ⟨G, k + 1, none⟩ = some (eI 0) := q3
             have f3 : (wr.drewN nq).frozen? ⟨G, k + 1, none⟩ = false := f3
             clear hrn hrg hB m1 m2
             generalize wr.drewN nq = W1 at *
             go_wp2_with fail
             have d0 : W1.drew.cell? ⟨g, k + 1, none⟩ = some (eI (L1 : Nat)) := q1
             have d1 : W1.drew.cell? ⟨G, k, none⟩ = some (eI (M0 : Nat)) := q2
             have hgg : g < G := hlg
             obtain ⟨x1, x2, x3, x4⟩ := row_facts L1 M0 k i b1 b2 hi9 hk9
             clear q0 q1 q2
             refine (wpIn_wide (n := 5)).1 ?_
             refine wpIn_region_det 17 [(62, .slice (some ⟨G, 0, none⟩) N N), (63, .int .i64 ((k : Int) + 1)), (64, .slice (some ⟨g, 0, none⟩) N N), (65, .int .i64 ((k : Int) + 1)), (66, .pointer (some ⟨g, k + 1, none⟩)), (67, .int .i64 (L1 : Nat)), (68, .int .i64 ((L1 : Int) + 1)), (69, .slice (some ⟨G, 0, none⟩) N N), (70, .int .i64 ((k : Int) + 1)), (71, .int .i64 k), (72, .pointer (some ⟨G, k, none⟩)), (73, .int .i64 (M0 : Nat)), (74, .int .i64 ((M0 : Int) + 1)), (75, .int .i64 (M1 : Nat)), (76, .int .i64 ((L0 : Int))), (77, .int .i64 (V : Nat)), (78, .pointer (some ⟨G, k + 1, none⟩))]
               (by kernel_rfl) (by decide) (by kernel_rfl) (by kernel_rfl) (by kernel_rfl) (by kernel_rfl) (by kernel_rfl) ?ok1 ?tail1
             case ok1 =>
              intro A' hA'
              simp only [putAll, Act.put, List.setIfInBounds_toArray, List.set_cons_zero, List.set_cons_succ] at hA'
              subst hA'
              refine ⟨?_, ?_, ?_, ?_, ?_, ?_, ?_, ?_, ?_, ?_, ?_, ?_, ?_, ?_, ?_, ?_, ?_, trivial⟩
              all_goals unfold DetIn
              all_goals go_simp
             case tail1 =>
              intro A' hA'
              simp only [putAll, Act.put, List.setIfInBounds_toArray, List.set_cons_zero, List.set_cons_succ] at hA'
              subst hA'
              have d3 : W1.drew.cell? ⟨G, k + 1, none⟩ = some (eI 0) := q3
              have d4 : W1.drew.frozen? ⟨G, k + 1, none⟩ = false := f3
              clear q3 f3
              simp only [List.drop_succ_cons, List.drop_zero]
              gi_wp2_with fail
              clear d3 d4 x1 x2 x3 x4 r1 r2
              have hP := Hput.out W1 V HVl.out Hw.out.1
              have hO := Hw.out.2.1.other G (k + 1) (eI (V : Nat)) (by omega)
              have hBs : Below w.heap.size w (W1.setCell ⟨G, k + 1, none⟩ (eI (V : Nat))).drew := (below_setR Hw.out.2.2 Hgw.out.2 (k + 1) (eI (V : Nat))).trans ⟨rfl, rfl, rfl, Nat.le_refl _, fun _ _ => rfl⟩
              have Hz := Lib.hid (And.intro hP (And.intro hO hBs))
              clear hP hO hBs
              go_wp2_with fail
              go_roundw
              case rel => exact ⟨k + 1, Hkl.out, by go_num, Hz.out.1, Hz.out.2.1, Hz.out.2.2⟩
              case measure => have := Hkl.out; simp [intOf]; omega
           · have hne : ((x.toNat : Int) != (y.toNat : Int)) = true := bne_iff_ne.2 (u8_neR _ _ hxy)
             rw [decide_eq_false hxy] at hst
             obtain ⟨M1, hM1⟩ : ∃ M1 : Nat, min (L1 + 1) (M0 + 1) = M1 := ⟨_, rfl⟩
             obtain ⟨V, hV⟩ : ∃ V : Nat, min M1 (L0 + 1) = V := ⟨_, rfl⟩
             have hVl : V = lev (sameAt a b) (i + 1) (k + 1) := by rw [hst, hM1, ← hV]; simp
             have r1 : ∀ (P : Program) (ts : Array TypeId) (t : TypeId) (w : World), (Builtin.min_ ts t #[.int .i64 ((L1 : Int) + 1), .int .i64 ((M0 : Int) + 1)]).run P w = .ok (.int .i64 (M1 : Nat)) w := fun P ts t w => by rw [run_min_i]; congr 2; omega
             have r2 : ∀ (P : Program) (ts : Array TypeId) (t : TypeId) (w : World), (Builtin.min_ ts t #[.int .i64 (M1 : Nat), .int .i64 ((L0 : Int) + 1)]).run P w = .ok (.int .i64 (V : Nat)) w := fun P ts t w => by rw [run_min_i]; congr 2; omega
             have HVl := Lib.hid hVl
             clear hst hM1 hV hVl
             go_wp2_with fail
             go_quiet (fail)
             have Hw := Lib.hid (And.intro (show Rowed (wr.drewN nq) G 3 _ from hrn) (And.intro (show Rowed (wr.drewN nq) g 3 _ from hrg) (hB.trans (below_drewN wr nq))))
             have q0 : (wr.drewN nq).cell? ⟨g, k, none⟩ = some (eI (L0 : Nat)) := q0
             have q1 : (wr.drewN nq).cell? ⟨g, k + 1, none⟩ = some (eI (L1 : Nat)) := q1
             have q2 : (wr.drewN nq).cell? ⟨G, k, none⟩ = some (eI (M0 : Nat)) := q2
             have q3 : (wr.drewN nq).cell? ⟨G, k + 1, none⟩ = some (eI 0) := q3
             have f3 : (wr.drewN nq).frozen? ⟨G, k + 1, none⟩ = false := f3
             clear hrn hrg hB m1 m2
             generalize wr.drewN nq = W1 at *
             go_wp2_with fail
             have d0 : W1.drew.cell? ⟨g, k + 1, none⟩ = some (eI (L1 : Nat)) := q1
             have d1 : W1.drew.cell? ⟨G, k, none⟩ = some (eI (M0 : Nat)) := q2
             have hgg : g < G := hlg
             obtain ⟨x1, x2, x3, x4⟩ := row_facts L1 M0 k i b1 b2 hi9 hk9
             clear q0 q1 q2
             refine (wpIn_wide (n := 5)).1 ?_
             refine wpIn_region_det 17 [(62, .slice (some ⟨G, 0, none⟩) N N), (63, .int .i64 ((k : Int) + 1)), (64, .slice (some ⟨g, 0, none⟩) N N), (65, .int .i64 ((k : Int) + 1)), (66, .pointer (some ⟨g, k + 1, none⟩)), (67, .int .i64 (L1 : Nat)), (68, .int .i64 ((L1 : Int) + 1)), (69, .slice (some ⟨G, 0, none⟩) N N), (70, .int .i64 ((k : Int) + 1)), (71, .int .i64 k), (72, .pointer (some ⟨G, k, none⟩)), (73, .int .i64 (M0 : Nat)), (74, .int .i64 ((M0 : Int) + 1)), (75, .int .i64 (M1 : Nat)), (76, .int .i64 ((L0 : Int) + 1)), (77, .int .i64 (V : Nat)), (78, .pointer (some ⟨G, k + 1, none⟩))]
               (by kernel_rfl) (by decide) (by kernel_rfl) (by kernel_rfl) (by kernel_rfl) (by kernel_rfl) (by kernel_rfl) ?ok2 ?tail2
             case ok2 =>
              intro A' hA'
              simp only [putAll, Act.put, List.setIfInBounds_toArray, List.set_cons_zero, List.set_cons_succ] at hA'
              subst hA'
              refine ⟨?_, ?_, ?_, ?_, ?_, ?_, ?_, ?_, ?_, ?_, ?_, ?_, ?_, ?_, ?_, ?_, ?_, trivial⟩
              all_goals unfold DetIn
              all_goals go_simp
             case tail2 =>
              intro A' hA'
              simp only [putAll, Act.put, List.setIfInBounds_toArray, List.set_cons_zero, List.set_cons_succ] at hA'
              subst hA'
              have d3 : W1.drew.cell? ⟨G, k + 1, none⟩ = some (eI 0) := q3
              have d4 : W1.drew.frozen? ⟨G, k + 1, none⟩ = false := f3
              clear q3 f3
              simp only [List.drop_succ_cons, List.drop_zero]
              gi_wp2_with fail
              clear d3 d4 x1 x2 x3 x4 r1 r2
              have hP := Hput.out W1 V HVl.out Hw.out.1
              have hO := Hw.out.2.1.other G (k + 1) (eI (V : Nat)) (by omega)
              have hBs : Below w.heap.size w (W1.setCell ⟨G, k + 1, none⟩ (eI (V : Nat))).drew := (below_setR Hw.out.2.2 Hgw.out.2 (k + 1) (eI (V : Nat))).trans ⟨rfl, rfl, rfl, Nat.le_refl _, fun _ _ => rfl⟩
              have Hz := Lib.hid (And.intro hP (And.intro hO hBs))
              clear hP hO hBs
              go_wp2_with fail
              go_roundw
              case rel => exact ⟨k + 1, Hkl.out, by go_num, Hz.out.1, Hz.out.2.1, Hz.out.2.2⟩
              case measure => have := Hkl.out; simp [intOf]; omega
         · have hkb : k = b.length := by omega
           have h4 : ¬ (k : Int) + 1 ≤ (b.length : Int) := by omega
           have hfin : Rowed wr G 3 (cellsI (fun j => (lev (sameAt a b) (i + 1) j : Nat)) N) := by
            have h9 := hrn
            unfold Rowed at h9 ⊢
            rw [h9, cellsI_congr _ (fun j => ((lev (sameAt a b) (i + 1) j : Nat) : Int)) N fun j hj => by rw [if_pos (by have := HN.out; omega)]]
           have Hz := Lib.hid (And.intro hfin hB)
           clear hk hkl hkb hrn hrg hB hfin hca hcb hset
           go_wp2_with fail
           go_roundw
           case rel => exact ⟨i + 1, G, Hi.out, by go_num, rfl, Hgw.out.2, Hz.out.1, Hz.out.2⟩
           case measure => have := Hi.out; simp [intOf]; omega
      · obtain rfl : i = a.length := by omega
        have h4 : ¬ (a.length : Int) + 1 ≤ (a.length : Int) := by omega
        clear hi hlt hca hcb
        go_wp2_with fail
        go_ret
        exact ⟨g, rfl, hrg, hg, hB⟩
end Go.Proofs.YtcngnjkpnmpcpaaDoor
