/- ExtraRuns. -/
import Derived.Test.YtpjpfgahjalggaaDoorExN
import Derived.Test.YtpjpfgahjalggaaDoorExR
import Derived.Deep.CutRange
import Derived.Deep.QuietTactic
namespace Go.Proofs.YtpjpfgahjalggaaDoor
open Go.RowKit Go.Shelf
attribute [local go_sem] Oper.semAt_some run_store_func

theorem at_ex (z : Int) (n : Nat) (h0 : 0 < n) (hn : n ≤ 100000) : ∃ p : Nat, p < n ∧ (wrap64 (z.tmod (n : Int) + (n : Int))).tmod (n : Int) = (p : Int) := by
  have h1 : z.tmod (n : Int) < n := Int.tmod_lt_of_pos z (by omega)
  have h2 : -(n : Int) < z.tmod n := Int.lt_tmod_of_pos z (by omega)
  generalize z.tmod (n : Int) = r at *
  have e1 : wrap64 (r + (n : Int)) = r + (n : Int) := wrap64_small _ (by omega) (by omega)
  rw [e1]
  have h3 : (r + (n : Int)).tmod (n : Int) < n := Int.tmod_lt_of_pos _ (by omega)
  have h4 : 0 ≤ (r + (n : Int)).tmod (n : Int) := Int.tmod_nonneg _ (by omega)
  exact ⟨((r + (n : Int)).tmod (n : Int)).toNat, by omega, by omega⟩
theorem str_eqB (a b : List UInt8) : ((⟨a.toArray⟩ : ByteArray) == ⟨b.toArray⟩) = decide (a = b) := str_eq a b
/-- How far a run's number has come. -/
def rnG (k c : Nat) : Int := ((min k c : Nat) : Int) - 1
theorem rnG_hit {k c : Nat} (h : k < c) : (k : Int) = rnG (k + 1) c := by unfold rnG; omega
theorem rnG_miss {k c : Nat} (h : ¬ k < c) : rnG k c = rnG (k + 1) c := by unfold rnG; omega
theorem below_set1 {B g : Nat} {w W : World} (h : Below B w W) (hg : B ≤ g) (j : Nat) (v : Value) : Below B w (W.setCell ⟨g, j, none⟩ v) := h.trans ⟨rfl, rfl, rfl, by simp [World.setCell], fun k hk => Below.heap_setCell _ _ _ _ (by show k ≠ g; omega)⟩
set_option maxRecDepth 100000 in
set_option maxHeartbeats 4000000 in
theorem ExtraRuns_main (v0 : Value) (y : List UInt8) (z1 z2 : Int) (w : World) (hS : Sl eB w.heap.size w v0 y) (hT : Tab w) (h2 : y.length ≤ 200) (h0 : 0 < y.length) :
    Calls Tryd.prog 6 #[v0, .int .i64 z1, .int .i64 z2] w fun e w' => e = .returned (.bool true) ∧ Below w.heap.size w w' := by
  have hw := ewakes_any
  obtain ⟨p, hp, ep⟩ := at_ex z1 y.length h0 (by omega)
  obtain ⟨q, hq, eq'⟩ := at_ex z2 y.length h0 (by omega)
  have hR := fun v w => Runs_any v y (by omega) w
  have hW1 := fun v w => Without_any v y (p : Int) (by omega) w
  have hW2 := fun v w => Without_any v y (q : Int) (by omega) w
  have g1 : withG y (p : Int) = delW y p := by rw [withG, if_pos ⟨by omega, by omega⟩]; simp
  have g2 : withG y (q : Int) = delW y q := by rw [withG, if_pos ⟨by omega, by omega⟩]; simp
  rw [g1] at hW1
  rw [g2] at hW2
  have hsame := run_same y p q hp hq
  have le1 := fun i v => runs_le y y.length p i hp v
  have le2 := fun i v => runs_le y y.length q i hq v
  have m1 := runs_mono y (show p + 1 ≤ y.length by omega)
  have m2 := runs_mono y (show q + 1 ≤ y.length by omega)
  have Hrl := Lib.hid (Nat.le_trans (runsG_len y y.length) h2)
  have hl1 := delW_length y p hp
  generalize (runsG y (p + 1)).length = c1 at *
  generalize (runsG y (q + 1)).length = c2 at *
  generalize runsG y y.length = rl at *
  have Hm1 := Lib.hid m1
  have Hm2 := Lib.hid m2
  have Hs := Lib.hid hsame
  have hlen : ((delW y p).length == y.length - 1) = true := beq_iff_eq.2 (by omega)
  have hlen2 : (((delW y p).length : Int) == (y.length : Int) - 1) = true := beq_iff_eq.2 (by omega)
  have hwl : wrap64 ((y.length : Int) - 1) = (y.length : Int) - 1 := wrap64_small _ (by omega) (by omega)
  have hwi : IntKind.i64.wrap ((y.length : Int) - 1) = (y.length : Int) - 1 := wrap_small _ (by omega) (by omega)
  have d1 : decide ((200 : Int) < (y.length : Int)) = false := decide_eq_false (by omega)
  have d2 : ((y.length : Int) == 0) = false := by rw [beq_eq_false_iff_ne]; omega
  have d3 : ¬ (y.length : Int) = 0 := by omega
  have d4 : ¬ y.length = 0 := by omega
  have d5 : (y.length == 0) = false := by rw [beq_eq_false_iff_ne]; omega
  have hB0 := Below.refl w.heap.size w
  obtain ⟨A0, c0, rfl⟩ := hS.len
  clear g1 g2 hsame m1 m2 h2 hl1 hp hq h0
  have Hlen := Lib.hid (And.intro hlen (And.intro hlen2 hwi))
  clear hlen hlen2 hwl hwi
  generalize delW y p = D1 at *
  generalize delW y q = D2 at *
  go_enter Tryd.func6, Tryd.ntmps6
  go_wp2_with fail
  go_quiet (fail)
  have hBq : Below w.heap.size w (w.drewN nq) := ⟨rfl, rfl, rfl, Nat.le_refl _, fun _ _ => rfl⟩
  have hS := hS.next hBq
  have hT := hT.below hBq
  have hB0 := below_trans hB0 hBq
  clear hBq
  go_wp2_with fail
  go_at_call 10
  refine (hR _ _ hS).mono ?_
  rintro e w1 ⟨u, rfl, hu, hC⟩
  have hS := hS.next hC
  have hT := hT.below hC
  have hB0 := below_trans hB0 hC
  obtain ⟨Al, cl, rfl⟩ := hu.len
  have hr := Rowed.new w1 41 #[.int .i64 (-1), .int .i64 (-1)]
  have hC1 := below_alloc w1 (.cells #[.int .i64 (-1), .int .i64 (-1)] 41)
  clear hC hR hC1 ep eq'
  go_wp2_with fail
  go_loopw [9] (fun i wr => ∃ k : Nat, k ≤ rl.length ∧ i = .int .i64 k ∧ Rowed wr w1.heap.size 41 #[.int .i64 (rnG k c1), .int .i64 (rnG k c2)] ∧ Below w1.heap.size w1 wr) (fun i _ => rl.length - (intOf i).toNat)
  case atStart => exact ⟨0, Nat.zero_le _, rfl, by simpa [rnG] using hr, below_alloc w1 _⟩
  case round =>
    obtain ⟨k, hk, rfl, hrow, hBr⟩ := hrel
    by_cases hlt : k < rl.length
    · have hki : (k : Int) < (rl.length : Int) := by omega
      have hkd : decide ((k : Int) < (rl.length : Int)) = true := decide_eq_true hki
      have hl2 := hu
      obtain ⟨Al', kl', e, _, hlc⟩ := hl2
      injection e with e1 e2 e3
      subst e1 e3
      obtain ⟨bl, ol, rfl, hblt, hlc'⟩ := hlc (by omega)
      replace hlc := hlc'
      clear hlc' e2
      have hg := List.getElem?_eq_getElem hlt
      have x1 : wr.cell? ⟨bl, ol + k, none⟩ = some (eI rl[k]) := (hBr.cell (p := ⟨bl, ol + k, none⟩) hblt).trans (hlc k _ hg)
      have i1 := le1 k _ hg
      have i2 := le2 k _ hg
      have Hk := Lib.hid hlt
      have hk9 : k ≤ 1000000 := by have := Hrl.out; omega
      have hwk := wrap64_succ k hk9
      clear hlc le1 le2 hg
      generalize rl[k] = g at *
      have hrA := hrow.set 0 (.int .i64 k)
      have hBA := below_set1 hBr (Nat.le_refl _) 0 (.int .i64 k)
      have HC := Lib.hid (And.intro (hrA.set 1 (.int .i64 k)) (below_set1 hBA (Nat.le_refl _) 1 (.int .i64 k)))
      have HB := Lib.hid (And.intro (hrow.set 1 (.int .i64 k)) (below_set1 hBr (Nat.le_refl _) 1 (.int .i64 k)))
      have HA := Lib.hid (And.intro hrA hBA)
      have H0 := Lib.hid (And.intro hrow hBr)
      have z0 := hrow.cell 0
      have f0 := hrow.frozen 0
      have z1' := hrow.cell 1
      have f1 := hrow.frozen 1
      have zA := hrA.cell 1
      have fA := hrA.frozen 1
      have x2 : (wr.setCell ⟨w1.heap.size, 0, none⟩ (.int .i64 k)).cell? ⟨bl, ol + k, none⟩ = some (eI g) := by
        rw [World.cell?_of_block (w := wr) (Below.heap_setCell _ _ _ _ (by show bl ≠ w1.heap.size; omega))]
        exact x1
      clear hrow hBr hrA hBA hu hblt
      by_cases j1 : k < c1
      · have t1 : decide (g ≤ (p : Int)) = true := decide_eq_true (i1.2 j1)
        by_cases j2 : k < c2
        · have t2 : decide (g ≤ (q : Int)) = true := decide_eq_true (i2.2 j2)
          have Hf := Lib.hid (And.intro (rnG_hit j1) (rnG_hit j2))
          clear hlt i1 i2 j1 j2
          go_wp2_with fail
          go_roundw
          case rel => exact ⟨k + 1, by have := Hk.out; omega, by go_num, by rw [← Hf.out.1, ← Hf.out.2]; exact HC.out.1, HC.out.2⟩
          case measure => have := Hk.out; simp [intOf]; omega
        · have t2 : decide (g ≤ (q : Int)) = false := decide_eq_false fun h => j2 (i2.1 h)
          have Hf := Lib.hid (And.intro (rnG_hit j1) (rnG_miss j2))
          clear hlt i1 i2 j1 j2
          go_wp2_with fail
          go_roundw
          case rel => exact ⟨k + 1, by have := Hk.out; omega, by go_num, by rw [← Hf.out.1, ← Hf.out.2]; exact HA.out.1, HA.out.2⟩
          case measure => have := Hk.out; simp [intOf]; omega
      · have t1 : decide (g ≤ (p : Int)) = false := decide_eq_false fun h => j1 (i1.1 h)
        by_cases j2 : k < c2
        · have t2 : decide (g ≤ (q : Int)) = true := decide_eq_true (i2.2 j2)
          have Hf := Lib.hid (And.intro (rnG_miss j1) (rnG_hit j2))
          clear hlt i1 i2 j1 j2
          go_wp2_with fail
          go_roundw
          case rel => exact ⟨k + 1, by have := Hk.out; omega, by go_num, by rw [← Hf.out.1, ← Hf.out.2]; exact HB.out.1, HB.out.2⟩
          case measure => have := Hk.out; simp [intOf]; omega
        · have t2 : decide (g ≤ (q : Int)) = false := decide_eq_false fun h => j2 (i2.1 h)
          have Hf := Lib.hid (And.intro (rnG_miss j1) (rnG_miss j2))
          clear hlt i1 i2 j1 j2
          go_wp2_with fail
          go_roundw
          case rel => exact ⟨k + 1, by have := Hk.out; omega, by go_num, by rw [← Hf.out.1, ← Hf.out.2]; exact H0.out.1, H0.out.2⟩
          case measure => have := Hk.out; simp [intOf]; omega
    · obtain rfl : k = rl.length := by omega
      have hkd : decide ((rl.length : Int) < (rl.length : Int)) = false := decide_eq_false (by omega)
      have hS := hS.next hBr
      have hT := hT.below hBr
      have hB0 := below_trans hB0 hBr
      have Hn : Hid ((rnG rl.length c1 == rnG rl.length c2) = decide (D1 = D2)) := Lib.hid (by
        have e1 : rnG rl.length c1 = (c1 : Int) - 1 := by have := Hm1.out; unfold rnG; omega
        have e2 : rnG rl.length c2 = (c2 : Int) - 1 := by have := Hm2.out; unfold rnG; omega
        rw [e1, e2, Bool.eq_iff_iff, beq_iff_eq, decide_eq_true_eq, Hs.out]
        omega)
      have z0 := hrow.cell 0
      have z1' := hrow.cell 1
      have hlt := hrow.lt
      generalize rnG rl.length c1 = n1 at *
      generalize rnG rl.length c2 = n2 at *
      generalize hrr : decide (D1 = D2) = r at *
      have hst : ((⟨D1.toArray⟩ : ByteArray) == ⟨D2.toArray⟩) = r := by rw [str_eqB, hrr]
      have hst2 : (D1 == D2) = r := by rw [← hrr, Bool.eq_iff_iff]; simp
      have hnn : (n1 == n2) = r := Hn.out
      have hrr2 : (r == r) = true := by simp
      clear hrr hBr hk hu Hn
      go_wp2_with fail
      refine wp_region_ghost (CallS [(2, .b D1), (6, .b D2), (18, .b D1)] wr.drew) (fun g => [(69, .slice A0 y.length c0), (70, .int .i64 p), (71, g 2), (72, .string ⟨D1.toArray⟩), (73, .slice A0 y.length c0), (74, .int .i64 q), (75, g 6), (76, .string ⟨D2.toArray⟩), (77, .bool r), (78, .pointer (some ⟨w1.heap.size, 0, none⟩)), (79, .int .i64 n1), (80, .pointer (some ⟨w1.heap.size, 1, none⟩)), (81, .int .i64 n2), (82, .bool r), (83, .bool true), (84, .bool true), (85, .slice A0 y.length c0), (86, .int .i64 p), (87, g 18), (88, .int .i64 D1.length), (89, .slice A0 y.length c0), (90, .int .i64 y.length), (91, .int .i64 ((y.length : Int) - 1)), (92, .bool true), (93, .bool true), (94, .bool true), (95, .bool true), (96, .bool true), (6, .bool true)]) (fun _ => undef)
        (by kernel_rfl) (by kernel_rfl) (by kernel_rfl) (by kernel_rfl) (fun _ => by kernel_rfl) ?startA ?okA ?finA
      case startA =>
        intro D hD
        refine CallS.start fun c hc => ?_
        simp only [List.mem_cons, List.not_mem_nil, or_false] at hc
        rcases hc with rfl | rfl | rfl <;> exact hD _ (by simp)
      case okA =>
        intro T hT'
        simp only [putAll, Act.put, List.setIfInBounds_toArray, List.set_cons_zero, List.set_cons_succ] at hT'
        have hSd : Sl eB wr.drew.heap.size wr.drew (.slice A0 y.length c0) y := hS
        have hTd : Tab wr.drew := hT.below (below_drew_w wr)
        have hld : w1.heap.size < wr.drew.heap.size := hlt
        simp only [ghAll]
        refine ⟨?_, ?_, ?_, ?_, ?_, ?_, ?_, ?_, ?_, ?_, ?_, ?_, ?_, ?_, ?_, ?_, ?_, ?_, ?_, ?_, ?_, ?_, ?_, ?_, ?_, ?_, ?_, ?_, ?_, trivial⟩
        · refine gc_op rfl fun D g w' hdp h => ?_
          rw [hT' g]
          clear hT'
          go_simp
          exact Below.refl _ _
        · refine gc_op rfl fun D g w' hdp h => ?_
          rw [hT' g]
          clear hT'
          go_simp
          exact Below.refl _ _
        · refine gc_call (r := .b D1) rfl rfl (by simp) (fun g v => by rw [hT', hT']; rfl) (fun g => by rw [hT' g]; rfl) (fun D g w' hdp h => by
            rw [hT' g]
            unfold Oper.wp
            go_simp
            refine (hW1 _ _ (hSd.next h.1)).mono ?_
            rintro e w3 ⟨v, rfl, hv, hC⟩
            exact ⟨hv.sl, hC⟩)
        · refine gc_conv 22 9 _ rfl _ rfl (fun g => by rw [hT' g]; rfl) (fun D g w' hdp h => by
            have h3 := h.2 (2, .b D1) (by simp) (dep_on hdp (by kernel_rfl))
            rw [hT' g]
            exact str_of h3) (fun g => by rw [hT' g]; rfl)
        · refine gc_op rfl fun D g w' hdp h => ?_
          rw [hT' g]
          clear hT'
          go_simp
          exact Below.refl _ _
        · refine gc_op rfl fun D g w' hdp h => ?_
          rw [hT' g]
          clear hT'
          go_simp
          exact Below.refl _ _
        · refine gc_call (r := .b D2) rfl rfl (by simp) (fun g v => by rw [hT', hT']; rfl) (fun g => by rw [hT' g]; rfl) (fun D g w' hdp h => by
            rw [hT' g]
            unfold Oper.wp
            go_simp
            refine (hW2 _ _ (hSd.next h.1)).mono ?_
            rintro e w3 ⟨v, rfl, hv, hC⟩
            exact ⟨hv.sl, hC⟩)
        · refine gc_conv 22 9 _ rfl _ rfl (fun g => by rw [hT' g]; rfl) (fun D g w' hdp h => by
            have h3 := h.2 (6, .b D2) (by simp) (dep_on hdp (by kernel_rfl))
            rw [hT' g]
            exact str_of h3) (fun g => by rw [hT' g]; rfl)
        · refine gc_op rfl fun D g w' hdp h => ?_
          rw [hT' g]
          clear hT'
          go_simp
          exact Below.refl _ _
        · refine gc_op rfl fun D g w' hdp h => ?_
          rw [hT' g]
          clear hT'
          go_simp
          exact Below.refl _ _
        · refine gc_op rfl fun D g w' hdp h => ?_
          have z0 := (h.1.cell (p := ⟨w1.heap.size, 0, none⟩) hld).trans z0
          have z1' := (h.1.cell (p := ⟨w1.heap.size, 1, none⟩) hld).trans z1'
          rw [hT' g]
          clear hT'
          go_simp
          exact Below.refl _ _
        · refine gc_op rfl fun D g w' hdp h => ?_
          rw [hT' g]
          clear hT'
          go_simp
          exact Below.refl _ _
        · refine gc_op rfl fun D g w' hdp h => ?_
          have z0 := (h.1.cell (p := ⟨w1.heap.size, 0, none⟩) hld).trans z0
          have z1' := (h.1.cell (p := ⟨w1.heap.size, 1, none⟩) hld).trans z1'
          rw [hT' g]
          clear hT'
          go_simp
          exact Below.refl _ _
        · refine gc_op rfl fun D g w' hdp h => ?_
          rw [hT' g]
          clear hT'
          go_simp
          exact Below.refl _ _
        · refine gc_op rfl fun D g w' hdp h => ?_
          rw [hT' g]
          clear hT'
          go_simp
          exact Below.refl _ _
        · refine gc_op rfl fun D g w' hdp h => ?_
          rw [hT' g]
          clear hT'
          go_simp
          exact Below.refl _ _
        · refine gc_op rfl fun D g w' hdp h => ?_
          rw [hT' g]
          clear hT'
          go_simp
          exact Below.refl _ _
        · refine gc_op rfl fun D g w' hdp h => ?_
          rw [hT' g]
          clear hT'
          go_simp
          exact Below.refl _ _
        · refine gc_call (r := .b D1) rfl rfl (by simp) (fun g v => by rw [hT', hT']; rfl) (fun g => by rw [hT' g]; rfl) (fun D g w' hdp h => by
            rw [hT' g]
            unfold Oper.wp
            go_simp
            refine (hW1 _ _ (hSd.next h.1)).mono ?_
            rintro e w3 ⟨v, rfl, hv, hC⟩
            exact ⟨hv.sl, hC⟩)
        · refine gc_op rfl fun D g w' hdp h => ?_
          obtain ⟨A5, c5, e5⟩ := Sl.len (show Sl eB w'.heap.size w' (g 18) D1 from h.2 (18, .b D1) (by simp) (dep_on hdp (by kernel_rfl)))
          rw [hT' g, e5]
          clear hT'
          go_simp
          exact Below.refl _ _
        · refine gc_op rfl fun D g w' hdp h => ?_
          rw [hT' g]
          clear hT'
          go_simp
          exact Below.refl _ _
        · refine gc_op rfl fun D g w' hdp h => ?_
          rw [hT' g]
          clear hT'
          go_simp
          exact Below.refl _ _
        · refine gc_op rfl fun D g w' hdp h => ?_
          have hwl := Hlen.out.2.2
          rw [hT' g]
          clear hT'
          go_simp
          exact Below.refl _ _
        · refine gc_op rfl fun D g w' hdp h => ?_
          have hl2 := Hlen.out.2.1
          rw [hT' g]
          clear hT'
          go_simp
          exact Below.refl _ _
        · refine gc_op rfl fun D g w' hdp h => ?_
          rw [hT' g]
          clear hT'
          go_simp
          exact Below.refl _ _
        · refine gc_op rfl fun D g w' hdp h => ?_
          rw [hT' g]
          clear hT'
          go_simp
          exact Below.refl _ _
        · refine gc_op rfl fun D g w' hdp h => ?_
          rw [hT' g]
          clear hT'
          go_simp
          refine (hw _ (hTd.below h.1)).mono ?_
          rintro e w3 ⟨rfl, hC⟩
          exact ⟨rfl, hC⟩
        · refine gc_op rfl fun D g w' hdp h => ?_
          rw [hT' g]
          clear hT'
          go_simp
          exact Below.refl _ _
        · refine gc_op rfl fun D g w' hdp h => ?_
          rw [hT' g]
          clear hT'
          go_simp
          exact Below.refl _ _
      case finA =>
        intro T hT' D g WF hall ⟨s1, _⟩
        have hTg := hT' g
        simp only [putAll, Act.put, List.setIfInBounds_toArray, List.set_cons_zero, List.set_cons_succ] at hTg
        rw [hTg]
        clear hT' hTg hall
        have hB2 := below_trans hB0 (below_trans (below_drew_w wr) s1)
        clear s1
        go_wp2_with fail
        go_ret
        exact ⟨rfl, hB2⟩
set_option maxRecDepth 100000 in
theorem ExtraRuns_out (v0 : Value) (y : List UInt8) (z1 z2 : Int) (w : World) (hS : Sl eB w.heap.size w v0 y) (hT : Tab w) (hc : decide ((200 : Int) < (y.length : Int)) = true ∨ (decide ((200 : Int) < (y.length : Int)) = false ∧ ((y.length : Int) == 0) = true)) :
    Calls Tryd.prog 6 #[v0, .int .i64 z1, .int .i64 z2] w fun e w' => e = .returned (.bool true) ∧ Below w.heap.size w w' := by
  have hw := ewakes_any
  have hR := fun w => Runs_any (.slice none 0 0) [] (by simp) w (sl_nil _ _)
  have er : runsG [] ([] : List UInt8).length = [] := rfl
  rw [er] at hR
  obtain ⟨A0, c0, rfl⟩ := hS.len
  clear hS
  rcases hc with g1 | ⟨g1, g2⟩
  all_goals
    go_enter Tryd.func6, Tryd.ntmps6
    go_wp2_with fail
    go_at_call 10
    refine (hR _).mono ?_
    rintro e w1 ⟨u, rfl, hu, hC⟩
    have hT := hT.below hC
    obtain ⟨Al, cl, rfl⟩ := hu.len
    clear hu
    go_wp2_with fail
    go_at_call 7
    refine (hw _ hT).mono ?_
    rintro e w2 ⟨rfl, hC2⟩
    go_wp2_with fail
    go_ret
    exact ⟨rfl, below_trans hC hC2⟩
theorem ExtraRuns_any (v0 : Value) (y : List UInt8) (z1 z2 : Int) (w : World) (hS : Sl eB w.heap.size w v0 y) (hT : Tab w) :
    Calls Tryd.prog 6 #[v0, .int .i64 z1, .int .i64 z2] w fun e w' => e = .returned (.bool true) ∧ Below w.heap.size w w' := by
  by_cases h2 : y.length ≤ 200
  · by_cases h0 : 0 < y.length
    · exact ExtraRuns_main v0 y z1 z2 w hS hT h2 h0
    · obtain rfl : y = [] := List.eq_nil_of_length_eq_zero (by omega)
      exact ExtraRuns_out v0 [] z1 z2 w hS hT (.inr ⟨decide_eq_false (by simp), by simp⟩)
  · exact ExtraRuns_out v0 y z1 z2 w hS hT (.inl (decide_eq_true (by omega)))
end Go.Proofs.YtpjpfgahjalggaaDoor
