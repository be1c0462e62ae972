/- Contract of poly.Divide, the divisor longer. -/
import Derived.Test.YtgidhkfmelpjfaaPoL
namespace Go.Proofs.Ytgidhkfmelpjfaa
open Go.RowKit Go.Shelf
attribute [local go_sem] Oper.semAt_some run_store_func

set_option maxRecDepth 100000 in
set_option maxHeartbeats 4000000 in
theorem Divide_shortA (pv qv : Value) (p q p1 q1 : List UInt8) (hp : p.length ≤ 100000) (hq : q.length ≤ 100000) (hp1 : tr (C p) p.length = p1) (hq1 : tr (C q) q.length = q1) (hpl : p1.length ≤ 100000) (hql : q1.length ≤ 100000) (hm : 0 < q1.length) (hlead : C q1 (q1.length - 1) ≠ 0) (L : Nat) (hL : q1.length = p1.length + 1 + L) (hL0 : 0 < L)
    (w : World) (hP : Sl eB w.heap.size w pv p) (hQ : Sl eB w.heap.size w qv q) :
    Calls Try.prog 10 #[pv, qv] w fun e w' => ∃ vq vr d, ma (C q1 (q1.length - 1)) d = 1 ∧ e = .returned (.tuple #[vq, vr, .int .i64 0]) ∧
      Sl eB w'.heap.size w' vq [] ∧ Sl eB w'.heap.size w' vr (tr (C p1) p1.length) ∧ Below w.heap.size w w' := by
  refine (callsIn_wide (n := 9)).1 ?_
  have hmf : ∀ (fn : Fn) (first cap : Array Value) (w : World), (Instr.makeFunc fn first cap).run Try.prog w = .ok (.func fn first cap) w := fun _ _ _ _ => rfl
  have hA := ((Below.refl w.heap.size w).alloc (Nat.le_refl _) (.cells #[.slice none 0 0] 22)).alloc (by simp) (.cells #[.slice none 0 0] 22) |>.alloc (by simp; omega) (.cells #[.int .i64 0] 25)
  have hb := box3_new w (.slice none 0 0) (.slice none 0 0) (.int .i64 0)
  have hs0 : (((w.alloc (.cells #[.slice none 0 0] 22)).alloc (.cells #[.slice none 0 0] 22)).alloc (.cells #[.int .i64 0] 25)).heap.size = w.heap.size + 3 := by simp
  have hT1 := Trim_any pv p (by omega)
  have hT2 := Trim_any qv q (by omega)
  rw [hp1] at hT1
  rw [hq1] at hT2
  have Hm := Lib.hid hm
  have hmk := fun w => make_run 0 (by omega) (0 : Int) (by omega) w
  have hw1 : IntKind.i64.wrap ((p1.length : Int) - (q1.length : Int)) = -(L : Int) - 1 := by rw [IntWalk.i64_in _ (by omega)]; omega
  have hw2 : IntKind.i64.wrap (-(L : Int) - 1 + 1) = -(L : Int) := by rw [IntWalk.i64_in _ (by omega)]; omega
  have hw3 : IntKind.i64.wrap (-(L : Int)) = -(L : Int) := IntWalk.i64_in _ (by omega)
  have hw4 : IntKind.i64.wrap ((0 : Int) - 1) = -1 := by decide
  clear hp1 hq1 hL
  refine callsIn_of_wp_marks Try.func10 rfl trivial ?_ rfl
  simp only [Try.ntmps10, List.size_toArray, List.length_cons, List.length_nil, Nat.reduceAdd, Nat.reduceSub, Array.replicate_succ, Array.replicate_zero, List.push_toArray, List.append_toArray, List.nil_append, List.cons_append]
  gi_wp2_with fail
  generalize (((w.alloc (.cells #[.slice none 0 0] 22)).alloc (.cells #[.slice none 0 0] 22)).alloc (.cells #[.int .i64 0] 25)) = w0 at *
  refine ⟨trivial, ?_⟩
  gi_at_call 13
  refine (callsIn_wide.2 (hT1 w0 (hP.next hA))).mono ?_
  rintro e w1 ⟨v1, rfl, hv1, hB1⟩
  obtain ⟨A1, k1, rfl⟩ := hv1.sl.len
  gi_wp2_with fail
  refine ⟨trivial, ?_⟩
  gi_at_call 13
  have hAB := below_trans hA hB1
  refine (callsIn_wide.2 (hT2 w1 (hQ.next hAB))).mono ?_
  rintro e w2 ⟨v2, rfl, hv2, hB2⟩
  obtain ⟨A2, k2, rfl⟩ := hv2.sl.len
  have hAB2 := below_trans hAB hB2
  have hb2 := (hb.below hB1).below hB2
  have c1 := hb2.2.1.cell
  have f1 := hb2.2.1.frozen
  have hb3 := hb2.set1 (.slice A1 p1.length k1)
  have hAB3 := hAB2.setCell (p := ⟨w.heap.size + 1, 0, none⟩) (by simp) (.slice A1 p1.length k1)
  have hsz1 : w0.heap.size ≤ w1.heap.size := hB1.size
  have hv3 := hv2.setc (w.heap.size + 1) 0 (.slice A1 p1.length k1) (by omega)
  have hv13 := (hv1.grow hB2).setc (w.heap.size + 1) 0 (.slice A1 p1.length k1) (by omega)
  gi_wp2_with fail
  have hsz3 : (w2.setCell ⟨w.heap.size + 1, 0, none⟩ (.slice A1 p1.length k1)).heap.size = w2.heap.size := by simp [World.setCell]
  have hsz2 := hB2.size
  generalize w2.setCell ⟨w.heap.size + 1, 0, none⟩ (.slice A1 p1.length k1) = w3 at *
  refine ⟨trivial, ?_⟩
  gi_at_call 31
  refine (callsIn_wide.2 (inverse_yes (.slice A2 q1.length k2) q1 hql w3 hv3.sl Hm.out hlead)).mono ?_
  rintro e w4 ⟨d, hd, rfl, hB4⟩
  have hAB4 := hAB3.trans (hB4.mono (by omega))
  have hb4 := hb3.below hB4
  have hv14 := hv13.grow hB4
  have hsz4 := hB4.size
  have c4 := hb4.2.1.cell
  have z0 := hb4.1.cell
  have zf := hb4.1.frozen
  have z0' := fun o => ((hb4.1.alloc o).cell)
  have zf' := fun o => ((hb4.1.alloc o).frozen)
  clear hT1 hT2 hB1 hB2 hAB hAB2 hAB3 hb2 hb3 hv1 hv2 hv3 hv13 c1 f1 hB4 hA hb hP hQ
  have i0 : Box3 w.heap.size (.slice (some ⟨w4.heap.size, 0, none⟩) 0 0) (.slice A1 p1.length k1) (.int .i64 0) ((w4.alloc (.cells (cellsF (fun _ => 0) 0) 5)).setCell ⟨w.heap.size, 0, none⟩ (.slice (some ⟨w4.heap.size, 0, none⟩) 0 0)) := (hb4.below (below_alloc _ _)).set0 _
  have i1 := (Rowed.new w4 5 (cellsF (fun _ => 0) 0)).set_other 0 (.slice (some ⟨w4.heap.size, 0, none⟩) 0 0) (b := w.heap.size) (by omega)
  have i3 := (hv14.grow (below_alloc w4 (.cells (cellsF (fun _ => 0) 0) 5))).setc w.heap.size 0 (.slice (some ⟨w4.heap.size, 0, none⟩) 0 0) (by omega)
  have i4 := (below_trans hAB4 (below_alloc w4 (.cells (cellsF (fun _ => 0) 0) 5))).setCell (p := ⟨w.heap.size, 0, none⟩) (Nat.le_refl _) (.slice (some ⟨w4.heap.size, 0, none⟩) 0 0)
  have i5 : ((w4.alloc (.cells (cellsF (fun _ => 0) 0) 5)).setCell ⟨w.heap.size, 0, none⟩ (.slice (some ⟨w4.heap.size, 0, none⟩) 0 0)).heap.size = w4.heap.size + 1 := by simp [World.setCell]
  gi_wp2_with fail
  generalize (w4.alloc (.cells (cellsF (fun _ => 0) 0) 5)).setCell ⟨w.heap.size, 0, none⟩ (.slice (some ⟨w4.heap.size, 0, none⟩) 0 0) = w5 at *
  have bn6 := Boxed.new w5 3 (.int .i64 (-1))
  rw [i5] at bn6
  have cn := bn6.cell
  have hA6 := below_alloc w5 (.cells #[.int .i64 (-1)] 3)
  have hs6 : (w5.alloc (.cells #[.int .i64 (-1)] 3)).heap.size = w4.heap.size + 2 := by simp [i5]
  have b1 := i0.below hA6
  have r1 := i1.below hA6 (by omega)
  have s1 := i3.grow hA6
  have u1 := below_trans i4 hA6
  generalize w5.alloc (.cells #[.int .i64 (-1)] 3) = W at *
  clear i0 i1 i3 i4 i5 hA6 c4 z0 zf z0' zf' hb4 hv14 hAB4 hmk hmf bn6
  refine wpIn_loop_rounds 1 ?_
  rw [roundsIn_succ]
  gi_wp2_with fail
  have hTq := fun x hx => Trim_any (.slice (some ⟨w4.heap.size, 0, none⟩) 0 0) ([] : List UInt8) (by simp) x hx
  have hTr := fun x hx => Trim_any (.slice A1 p1.length k1) p1 (by omega) x hx
  rw [show tr (C ([] : List UInt8)) ([] : List UInt8).length = [] from rfl] at hTq
  obtain ⟨Q, hQ'⟩ : ∃ Q : List UInt8, ([] : List UInt8) = Q := ⟨_, rfl⟩
  obtain ⟨R, hR'⟩ : ∃ R, tr (C p1) p1.length = R := ⟨_, rfl⟩
  have hsq : ∀ x, Below W.heap.size W x → Sl eB x.heap.size x (.slice (some ⟨w4.heap.size, 0, none⟩) 0 0) [] := fun x hx => ⟨_, 0, rfl, Nat.le_refl _, fun h => absurd h (by simp)⟩
  rw [hR'] at hTr
  have hTq : ∀ x, Sl eB x.heap.size x (.slice (some ⟨w4.heap.size, 0, none⟩) 0 0) [] → Calls Try.prog 13 #[.slice (some ⟨w4.heap.size, 0, none⟩) 0 0] x fun e w' => ∃ v, e = .returned v ∧ Own8 x.heap.size w' v Q ∧ Below x.heap.size x w' := by rw [← hQ']; exact hTq
  have HQ := Lib.hid hQ'
  have HR := Lib.hid hR'
  clear hQ' hR'
  have sW := u1.size
  have eq1 : ∀ x, Below W.heap.size W x → Calls Try.prog 13 #[.slice (some ⟨w4.heap.size, 0, none⟩) 0 0] x fun e w' => ∃ A c, e = .returned (.slice A Q.length c) ∧ Sl eB w'.heap.size w' (.slice A Q.length c) Q ∧ Own8 W.heap.size w' (.slice A Q.length c) Q ∧ Below W.heap.size W w' ∧
      w'.cell? ⟨w.heap.size, 0, none⟩ = some (.slice (some ⟨w4.heap.size, 0, none⟩) 0 0) ∧ w'.cell? ⟨w.heap.size + 1, 0, none⟩ = some (.slice A1 p1.length k1) := by
    intro x hx
    have hxs := hx.size
    refine (hTq x (hsq x hx)).mono ?_
    rintro e w' ⟨v, rfl, hv, hB⟩
    obtain ⟨A, c, rfl⟩ := hv.sl.len
    have hB' := below_trans hx hB
    have hb' := b1.below hB'
    exact ⟨A, c, rfl, hv.sl, hv.mono hxs, hB', hb'.1.cell, hb'.2.1.cell⟩
  have eq2 : ∀ x, Below W.heap.size W x → ∀ A' c', Own8 W.heap.size x (.slice A' Q.length c') Q → Calls Try.prog 13 #[.slice A1 p1.length k1] x fun e w' => ∃ A c, e = .returned (.slice A R.length c) ∧ Own8 W.heap.size w' (.slice A R.length c) R ∧ Own8 W.heap.size w' (.slice A' Q.length c') Q ∧ Below W.heap.size W w' ∧
      w'.cell? ⟨w.heap.size, 0, none⟩ = some (.slice (some ⟨w4.heap.size, 0, none⟩) 0 0) ∧ w'.frozen? ⟨w.heap.size, 0, none⟩ = false ∧
      (∀ u, (w'.setCell ⟨w.heap.size, 0, none⟩ u).cell? ⟨w.heap.size + 1, 0, none⟩ = some (.slice A1 p1.length k1)) ∧ (∀ u, (w'.setCell ⟨w.heap.size, 0, none⟩ u).frozen? ⟨w.heap.size + 1, 0, none⟩ = false) ∧
      (∀ u v, ((w'.setCell ⟨w.heap.size, 0, none⟩ u).setCell ⟨w.heap.size + 1, 0, none⟩ v).cell? ⟨w.heap.size + 1 + 1, 0, none⟩ = some (.int .i64 0)) ∧ (∀ u v, ((w'.setCell ⟨w.heap.size, 0, none⟩ u).setCell ⟨w.heap.size + 1, 0, none⟩ v).frozen? ⟨w.heap.size + 1 + 1, 0, none⟩ = false) := by
    intro x hx A' c' hO
    have hxs := hx.size
    refine (hTr x (s1.grow hx).sl).mono ?_
    rintro e w' ⟨v, rfl, hv, hB⟩
    obtain ⟨A, c, rfl⟩ := hv.sl.len
    have hB' := below_trans hx hB
    have hb' := b1.below hB'
    exact ⟨A, c, rfl, hv.mono hxs, hO.grow hB, hB', hb'.1.cell, hb'.1.frozen, fun u => (hb'.set0 u).2.1.cell, fun u => (hb'.set0 u).2.1.frozen, fun u v => ((hb'.set0 u).set1 v).2.2.cell, fun u v => ((hb'.set0 u).set1 v).2.2.frozen⟩
  have kk0 := b1.1.cell
  have kk1 := b1.2.1.cell
  have hWd : Below W.heap.size W W.drew := below_drew W
  have hend : ∀ wz A c A' c', Below W.heap.size W wz → Own8 W.heap.size wz (.slice A R.length c) R → Own8 W.heap.size wz (.slice A' Q.length c') Q → ∀ tm : Array Value, tm[4]? = some (.pointer (some ⟨w.heap.size, 0, none⟩)) → tm[5]? = some (.pointer (some ⟨w.heap.size + 1, 0, none⟩)) → tm[6]? = some (.pointer (some ⟨w.heap.size + 1 + 1, 0, none⟩)) →
      bodyPostM Fence.wide 9 Try.prog Try.f10 (fun e w' => ∃ vq vr d, ma (C q1 (q1.length - 1)) d = 1 ∧ e = Ending.returned (.tuple #[vq, vr, .int .i64 0]) ∧ Sl eB w'.heap.size w' vq [] ∧ Sl eB w'.heap.size w' vr (tr (C p1) p1.length) ∧ Below w.heap.size w w')
        .ret { tmps := tm, defers := [{ target := .fn (.func 30) #[.pointer (some ⟨w.heap.size, 0, none⟩), .pointer (some ⟨w.heap.size + 1, 0, none⟩), .pointer (some ⟨w.heap.size + 1 + 1, 0, none⟩)], args := #[] }] } (((wz.setCell ⟨w.heap.size, 0, none⟩ (.slice A' Q.length c')).setCell ⟨w.heap.size + 1, 0, none⟩ (.slice A R.length c)).setCell ⟨w.heap.size + 1 + 1, 0, none⟩ (.int .i64 0)) := by
    intro wz A c A' c' hB hoR hoQ tm ht4 ht5 ht6
    have hbz := (((b1.below hB).set0 (.slice A' Q.length c')).set1 (.slice A R.length c)).set2 (.int .i64 0)
    have hoR3 := (((hoR.setc w.heap.size 0 (.slice A' Q.length c') (by omega)).setc (w.heap.size + 1) 0 (.slice A R.length c) (by omega)).setc (w.heap.size + 1 + 1) 0 (.int .i64 0) (by omega)).sl
    have hoQ3 := (((hoQ.setc w.heap.size 0 (.slice A' Q.length c') (by omega)).setc (w.heap.size + 1) 0 (.slice A R.length c) (by omega)).setc (w.heap.size + 1 + 1) 0 (.int .i64 0) (by omega)).sl
    have hBz := (((below_trans u1 hB).setCell (p := ⟨w.heap.size, 0, none⟩) (Nat.le_refl _) (.slice A' Q.length c')).setCell (p := ⟨w.heap.size + 1, 0, none⟩) (by simp) (.slice A R.length c)).setCell (p := ⟨w.heap.size + 1 + 1, 0, none⟩) (by simp; omega) (.int .i64 0)
    generalize ((wz.setCell ⟨w.heap.size, 0, none⟩ (.slice A' Q.length c')).setCell ⟨w.heap.size + 1, 0, none⟩ (.slice A R.length c)).setCell ⟨w.heap.size + 1 + 1, 0, none⟩ (.int .i64 0) = wF at *
    refine ⟨by simp, .inr ⟨(fun h => by cases h), _, _, 30, #[.pointer (some ⟨w.heap.size, 0, none⟩), .pointer (some ⟨w.heap.size + 1, 0, none⟩), .pointer (some ⟨w.heap.size + 1 + 1, 0, none⟩)], rfl, (by simp [go_sem]), (fun _ _ => trivial), ?_⟩⟩
    refine (left_idle _ _ _ _ wF).mono ?_
    rintro e u' w'' ⟨rfl, rfl, rfl⟩
    have d0 := hbz.1.cell
    have d1 := hbz.2.1.cell
    have d2 := hbz.2.2.cell
    refine ⟨.tuple #[.slice A' Q.length c', .slice A R.length c, .int .i64 0], ?_, _, _, d, hd, rfl, by rw [HQ.out]; exact hoQ3, by rw [HR.out]; exact hoR3, hBz⟩
    simp [results, Try.f10, go_sem, ht4, ht5, ht6, d0, d1, d2]
  clear hTq hTr
  refine wpIn_wide.2 ?_
  go_region_with (first | (go_at_call 13; refine (eq1 _ (by assumption)).mono ?_; rintro e w' ⟨A1, c1, rfl, hs1, ho1, hB1, g0, g1⟩) | (go_at_call 13; refine (eq2 _ (by assumption) _ _ (by assumption)).mono ?_; rintro e w' ⟨A3, c3, rfl, ho3, ho1', hB3, g0', f0', g1', f1', g2', f2'⟩))
  all_goals (gi_wp2; exact hend _ _ _ _ _ (by assumption) (by assumption) (by assumption) _ rfl rfl rfl)
set_option maxRecDepth 100000 in
set_option maxHeartbeats 4000000 in
theorem Divide_shortB (pv qv : Value) (p q p1 q1 : List UInt8) (hp : p.length ≤ 100000) (hq : q.length ≤ 100000) (hp1 : tr (C p) p.length = p1) (hq1 : tr (C q) q.length = q1) (hpl : p1.length ≤ 100000) (hql : q1.length ≤ 100000) (hm : 0 < q1.length) (hlead : C q1 (q1.length - 1) ≠ 0) (hL : q1.length = p1.length + 1)
    (w : World) (hP : Sl eB w.heap.size w pv p) (hQ : Sl eB w.heap.size w qv q) :
    Calls Try.prog 10 #[pv, qv] w fun e w' => ∃ vq vr d, ma (C q1 (q1.length - 1)) d = 1 ∧ e = .returned (.tuple #[vq, vr, .int .i64 0]) ∧
      Sl eB w'.heap.size w' vq [] ∧ Sl eB w'.heap.size w' vr (tr (C p1) p1.length) ∧ Below w.heap.size w w' := by
  refine (callsIn_wide (n := 9)).1 ?_
  have hmf : ∀ (fn : Fn) (first cap : Array Value) (w : World), (Instr.makeFunc fn first cap).run Try.prog w = .ok (.func fn first cap) w := fun _ _ _ _ => rfl
  have hA := ((Below.refl w.heap.size w).alloc (Nat.le_refl _) (.cells #[.slice none 0 0] 22)).alloc (by simp) (.cells #[.slice none 0 0] 22) |>.alloc (by simp; omega) (.cells #[.int .i64 0] 25)
  have hb := box3_new w (.slice none 0 0) (.slice none 0 0) (.int .i64 0)
  have hs0 : (((w.alloc (.cells #[.slice none 0 0] 22)).alloc (.cells #[.slice none 0 0] 22)).alloc (.cells #[.int .i64 0] 25)).heap.size = w.heap.size + 3 := by simp
  have hT1 := Trim_any pv p (by omega)
  have hT2 := Trim_any qv q (by omega)
  rw [hp1] at hT1
  rw [hq1] at hT2
  have Hm := Lib.hid hm
  have hmk := fun w => make_run 0 (by omega) (0 : Int) (by omega) w
  have hw1 : IntKind.i64.wrap ((p1.length : Int) - (q1.length : Int)) = -1 := by rw [IntWalk.i64_in _ (by omega)]; omega
  have hw4 : IntKind.i64.wrap ((0 : Int) - 1) = -1 := by decide
  have HL := Lib.hid hL
  clear hp1 hq1 hL
  refine callsIn_of_wp_marks Try.func10 rfl trivial ?_ rfl
  simp only [Try.ntmps10, List.size_toArray, List.length_cons, List.length_nil, Nat.reduceAdd, Nat.reduceSub, Array.replicate_succ, Array.replicate_zero, List.push_toArray, List.append_toArray, List.nil_append, List.cons_append]
  gi_wp2_with fail
  generalize (((w.alloc (.cells #[.slice none 0 0] 22)).alloc (.cells #[.slice none 0 0] 22)).alloc (.cells #[.int .i64 0] 25)) = w0 at *
  refine ⟨trivial, ?_⟩
  gi_at_call 13
  refine (callsIn_wide.2 (hT1 w0 (hP.next hA))).mono ?_
  rintro e w1 ⟨v1, rfl, hv1, hB1⟩
  obtain ⟨A1, k1, rfl⟩ := hv1.sl.len
  gi_wp2_with fail
  refine ⟨trivial, ?_⟩
  gi_at_call 13
  have hAB := below_trans hA hB1
  refine (callsIn_wide.2 (hT2 w1 (hQ.next hAB))).mono ?_
  rintro e w2 ⟨v2, rfl, hv2, hB2⟩
  obtain ⟨A2, k2, rfl⟩ := hv2.sl.len
  have hAB2 := below_trans hAB hB2
  have hb2 := (hb.below hB1).below hB2
  have c1 := hb2.2.1.cell
  have f1 := hb2.2.1.frozen
  have hb3 := hb2.set1 (.slice A1 p1.length k1)
  have hAB3 := hAB2.setCell (p := ⟨w.heap.size + 1, 0, none⟩) (by simp) (.slice A1 p1.length k1)
  have hsz1 : w0.heap.size ≤ w1.heap.size := hB1.size
  have hv3 := hv2.setc (w.heap.size + 1) 0 (.slice A1 p1.length k1) (by omega)
  have hv13 := (hv1.grow hB2).setc (w.heap.size + 1) 0 (.slice A1 p1.length k1) (by omega)
  gi_wp2_with fail
  have hsz3 : (w2.setCell ⟨w.heap.size + 1, 0, none⟩ (.slice A1 p1.length k1)).heap.size = w2.heap.size := by simp [World.setCell]
  have hsz2 := hB2.size
  generalize w2.setCell ⟨w.heap.size + 1, 0, none⟩ (.slice A1 p1.length k1) = w3 at *
  refine ⟨trivial, ?_⟩
  gi_at_call 31
  refine (callsIn_wide.2 (inverse_yes (.slice A2 q1.length k2) q1 hql w3 hv3.sl Hm.out hlead)).mono ?_
  rintro e w4 ⟨d, hd, rfl, hB4⟩
  have hAB4 := hAB3.trans (hB4.mono (by omega))
  have hb4 := hb3.below hB4
  have hv14 := hv13.grow hB4
  have hsz4 := hB4.size
  have c4 := hb4.2.1.cell
  have z0 := hb4.1.cell
  have zf := hb4.1.frozen
  have z0' := fun o => ((hb4.1.alloc o).cell)
  have zf' := fun o => ((hb4.1.alloc o).frozen)
  clear hT1 hT2 hB1 hB2 hAB hAB2 hAB3 hb2 hb3 hv1 hv2 hv3 hv13 c1 f1 hB4 hA hb hP hQ
  have i0 : Box3 w.heap.size (.slice (some ⟨w4.heap.size, 0, none⟩) 0 0) (.slice A1 p1.length k1) (.int .i64 0) ((w4.alloc (.cells (cellsF (fun _ => 0) 0) 5)).setCell ⟨w.heap.size, 0, none⟩ (.slice (some ⟨w4.heap.size, 0, none⟩) 0 0)) := (hb4.below (below_alloc _ _)).set0 _
  have i1 := (Rowed.new w4 5 (cellsF (fun _ => 0) 0)).set_other 0 (.slice (some ⟨w4.heap.size, 0, none⟩) 0 0) (b := w.heap.size) (by omega)
  have i3 := (hv14.grow (below_alloc w4 (.cells (cellsF (fun _ => 0) 0) 5))).setc w.heap.size 0 (.slice (some ⟨w4.heap.size, 0, none⟩) 0 0) (by omega)
  have i4 := (below_trans hAB4 (below_alloc w4 (.cells (cellsF (fun _ => 0) 0) 5))).setCell (p := ⟨w.heap.size, 0, none⟩) (Nat.le_refl _) (.slice (some ⟨w4.heap.size, 0, none⟩) 0 0)
  have i5 : ((w4.alloc (.cells (cellsF (fun _ => 0) 0) 5)).setCell ⟨w.heap.size, 0, none⟩ (.slice (some ⟨w4.heap.size, 0, none⟩) 0 0)).heap.size = w4.heap.size + 1 := by simp [World.setCell]
  gi_wp2_with fail
  generalize (w4.alloc (.cells (cellsF (fun _ => 0) 0) 5)).setCell ⟨w.heap.size, 0, none⟩ (.slice (some ⟨w4.heap.size, 0, none⟩) 0 0) = w5 at *
  have bn6 := Boxed.new w5 3 (.int .i64 (-1))
  rw [i5] at bn6
  have cn := bn6.cell
  have hA6 := below_alloc w5 (.cells #[.int .i64 (-1)] 3)
  have hs6 : (w5.alloc (.cells #[.int .i64 (-1)] 3)).heap.size = w4.heap.size + 2 := by simp [i5]
  have b1 := i0.below hA6
  have r1 := i1.below hA6 (by omega)
  have s1 := i3.grow hA6
  have u1 := below_trans i4 hA6
  generalize w5.alloc (.cells #[.int .i64 (-1)] 3) = W at *
  clear i0 i1 i3 i4 i5 hA6 c4 z0 zf z0' zf' hb4 hv14 hAB4 hmk hmf bn6
  refine wpIn_loop_rounds 1 ?_
  rw [roundsIn_succ]
  gi_wp2_with fail
  have hTq := fun x hx => Trim_any (.slice (some ⟨w4.heap.size, 0, none⟩) 0 0) ([] : List UInt8) (by simp) x hx
  have hTr := fun x hx => Trim_any (.slice A1 p1.length k1) p1 (by omega) x hx
  rw [show tr (C ([] : List UInt8)) ([] : List UInt8).length = [] from rfl] at hTq
  obtain ⟨Q, hQ'⟩ : ∃ Q : List UInt8, ([] : List UInt8) = Q := ⟨_, rfl⟩
  obtain ⟨R, hR'⟩ : ∃ R, tr (C p1) p1.length = R := ⟨_, rfl⟩
  have hsq : ∀ x, Below W.heap.size W x → Sl eB x.heap.size x (.slice (some ⟨w4.heap.size, 0, none⟩) 0 0) [] := fun x hx => ⟨_, 0, rfl, Nat.le_refl _, fun h => absurd h (by simp)⟩
  rw [hR'] at hTr
  have hTq : ∀ x, Sl eB x.heap.size x (.slice (some ⟨w4.heap.size, 0, none⟩) 0 0) [] → Calls Try.prog 13 #[.slice (some ⟨w4.heap.size, 0, none⟩) 0 0] x fun e w' => ∃ v, e = .returned v ∧ Own8 x.heap.size w' v Q ∧ Below x.heap.size x w' := by rw [← hQ']; exact hTq
  have HQ := Lib.hid hQ'
  have HR := Lib.hid hR'
  clear hQ' hR'
  have sW := u1.size
  have eq1 : ∀ x, Below W.heap.size W x → Calls Try.prog 13 #[.slice (some ⟨w4.heap.size, 0, none⟩) 0 0] x fun e w' => ∃ A c, e = .returned (.slice A Q.length c) ∧ Sl eB w'.heap.size w' (.slice A Q.length c) Q ∧ Own8 W.heap.size w' (.slice A Q.length c) Q ∧ Below W.heap.size W w' ∧
      w'.cell? ⟨w.heap.size, 0, none⟩ = some (.slice (some ⟨w4.heap.size, 0, none⟩) 0 0) ∧ w'.cell? ⟨w.heap.size + 1, 0, none⟩ = some (.slice A1 p1.length k1) := by
    intro x hx
    have hxs := hx.size
    refine (hTq x (hsq x hx)).mono ?_
    rintro e w' ⟨v, rfl, hv, hB⟩
    obtain ⟨A, c, rfl⟩ := hv.sl.len
    have hB' := below_trans hx hB
    have hb' := b1.below hB'
    exact ⟨A, c, rfl, hv.sl, hv.mono hxs, hB', hb'.1.cell, hb'.2.1.cell⟩
  have eq2 : ∀ x, Below W.heap.size W x → ∀ A' c', Own8 W.heap.size x (.slice A' Q.length c') Q → Calls Try.prog 13 #[.slice A1 p1.length k1] x fun e w' => ∃ A c, e = .returned (.slice A R.length c) ∧ Own8 W.heap.size w' (.slice A R.length c) R ∧ Own8 W.heap.size w' (.slice A' Q.length c') Q ∧ Below W.heap.size W w' ∧
      w'.cell? ⟨w.heap.size, 0, none⟩ = some (.slice (some ⟨w4.heap.size, 0, none⟩) 0 0) ∧ w'.frozen? ⟨w.heap.size, 0, none⟩ = false ∧
      (∀ u, (w'.setCell ⟨w.heap.size, 0, none⟩ u).cell? ⟨w.heap.size + 1, 0, none⟩ = some (.slice A1 p1.length k1)) ∧ (∀ u, (w'.setCell ⟨w.heap.size, 0, none⟩ u).frozen? ⟨w.heap.size + 1, 0, none⟩ = false) ∧
      (∀ u v, ((w'.setCell ⟨w.heap.size, 0, none⟩ u).setCell ⟨w.heap.size + 1, 0, none⟩ v).cell? ⟨w.heap.size + 1 + 1, 0, none⟩ = some (.int .i64 0)) ∧ (∀ u v, ((w'.setCell ⟨w.heap.size, 0, none⟩ u).setCell ⟨w.heap.size + 1, 0, none⟩ v).frozen? ⟨w.heap.size + 1 + 1, 0, none⟩ = false) := by
    intro x hx A' c' hO
    have hxs := hx.size
    refine (hTr x (s1.grow hx).sl).mono ?_
    rintro e w' ⟨v, rfl, hv, hB⟩
    obtain ⟨A, c, rfl⟩ := hv.sl.len
    have hB' := below_trans hx hB
    have hb' := b1.below hB'
    exact ⟨A, c, rfl, hv.mono hxs, hO.grow hB, hB', hb'.1.cell, hb'.1.frozen, fun u => (hb'.set0 u).2.1.cell, fun u => (hb'.set0 u).2.1.frozen, fun u v => ((hb'.set0 u).set1 v).2.2.cell, fun u v => ((hb'.set0 u).set1 v).2.2.frozen⟩
  have kk0 := b1.1.cell
  have kk1 := b1.2.1.cell
  have hWd : Below W.heap.size W W.drew := below_drew W
  have hend : ∀ wz A c A' c', Below W.heap.size W wz → Own8 W.heap.size wz (.slice A R.length c) R → Own8 W.heap.size wz (.slice A' Q.length c') Q → ∀ tm : Array Value, tm[4]? = some (.pointer (some ⟨w.heap.size, 0, none⟩)) → tm[5]? = some (.pointer (some ⟨w.heap.size + 1, 0, none⟩)) → tm[6]? = some (.pointer (some ⟨w.heap.size + 1 + 1, 0, none⟩)) →
      bodyPostM Fence.wide 9 Try.prog Try.f10 (fun e w' => ∃ vq vr d, ma (C q1 (q1.length - 1)) d = 1 ∧ e = Ending.returned (.tuple #[vq, vr, .int .i64 0]) ∧ Sl eB w'.heap.size w' vq [] ∧ Sl eB w'.heap.size w' vr (tr (C p1) p1.length) ∧ Below w.heap.size w w')
        .ret { tmps := tm, defers := [{ target := .fn (.func 30) #[.pointer (some ⟨w.heap.size, 0, none⟩), .pointer (some ⟨w.heap.size + 1, 0, none⟩), .pointer (some ⟨w.heap.size + 1 + 1, 0, none⟩)], args := #[] }] } (((wz.setCell ⟨w.heap.size, 0, none⟩ (.slice A' Q.length c')).setCell ⟨w.heap.size + 1, 0, none⟩ (.slice A R.length c)).setCell ⟨w.heap.size + 1 + 1, 0, none⟩ (.int .i64 0)) := by
    intro wz A c A' c' hB hoR hoQ tm ht4 ht5 ht6
    have hbz := (((b1.below hB).set0 (.slice A' Q.length c')).set1 (.slice A R.length c)).set2 (.int .i64 0)
    have hoR3 := (((hoR.setc w.heap.size 0 (.slice A' Q.length c') (by omega)).setc (w.heap.size + 1) 0 (.slice A R.length c) (by omega)).setc (w.heap.size + 1 + 1) 0 (.int .i64 0) (by omega)).sl
    have hoQ3 := (((hoQ.setc w.heap.size 0 (.slice A' Q.length c') (by omega)).setc (w.heap.size + 1) 0 (.slice A R.length c) (by omega)).setc (w.heap.size + 1 + 1) 0 (.int .i64 0) (by omega)).sl
    have hBz := (((below_trans u1 hB).setCell (p := ⟨w.heap.size, 0, none⟩) (Nat.le_refl _) (.slice A' Q.length c')).setCell (p := ⟨w.heap.size + 1, 0, none⟩) (by simp) (.slice A R.length c)).setCell (p := ⟨w.heap.size + 1 + 1, 0, none⟩) (by simp; omega) (.int .i64 0)
    generalize ((wz.setCell ⟨w.heap.size, 0, none⟩ (.slice A' Q.length c')).setCell ⟨w.heap.size + 1, 0, none⟩ (.slice A R.length c)).setCell ⟨w.heap.size + 1 + 1, 0, none⟩ (.int .i64 0) = wF at *
    refine ⟨by simp, .inr ⟨(fun h => by cases h), _, _, 30, #[.pointer (some ⟨w.heap.size, 0, none⟩), .pointer (some ⟨w.heap.size + 1, 0, none⟩), .pointer (some ⟨w.heap.size + 1 + 1, 0, none⟩)], rfl, (by simp [go_sem]), (fun _ _ => trivial), ?_⟩⟩
    refine (left_idle _ _ _ _ wF).mono ?_
    rintro e u' w'' ⟨rfl, rfl, rfl⟩
    have d0 := hbz.1.cell
    have d1 := hbz.2.1.cell
    have d2 := hbz.2.2.cell
    refine ⟨.tuple #[.slice A' Q.length c', .slice A R.length c, .int .i64 0], ?_, _, _, d, hd, rfl, by rw [HQ.out]; exact hoQ3, by rw [HR.out]; exact hoR3, hBz⟩
    simp [results, Try.f10, go_sem, ht4, ht5, ht6, d0, d1, d2]
  clear hTq hTr
  refine wpIn_wide.2 ?_
  go_region_with (first | (go_at_call 13; refine (eq1 _ (by assumption)).mono ?_; rintro e w' ⟨A1, c1, rfl, hs1, ho1, hB1, g0, g1⟩) | (go_at_call 13; refine (eq2 _ (by assumption) _ _ (by assumption)).mono ?_; rintro e w' ⟨A3, c3, rfl, ho3, ho1', hB3, g0', f0', g1', f1', g2', f2'⟩))
  all_goals (gi_wp2; exact hend _ _ _ _ _ (by assumption) (by assumption) (by assumption) _ rfl rfl rfl)
end Go.Proofs.Ytgidhkfmelpjfaa
