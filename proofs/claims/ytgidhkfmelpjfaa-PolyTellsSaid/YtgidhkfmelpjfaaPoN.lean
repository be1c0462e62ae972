/- Contract of poly.Divide, the divisor not longer. -/
import Derived.Test.YtgidhkfmelpjfaaPoL
namespace Go.Proofs.Ytgidhkfmelpjfaa
open Go.RowKit Go.Shelf
attribute [local go_sem] Oper.semAt_some run_store_func
set_option linter.unusedSimpArgs false

set_option maxRecDepth 100000 in
set_option maxHeartbeats 4000000 in
theorem Divide_long (pv qv : Value) (p q p1 q1 : List UInt8) (hp : p.length ≤ 100000) (hq : q.length ≤ 100000) (hp1 : tr (C p) p.length = p1) (hq1 : tr (C q) q.length = q1) (hpl : p1.length ≤ 100000) (hql : q1.length ≤ 100000) (hm : 0 < q1.length) (hlead : C q1 (q1.length - 1) ≠ 0) (M : Nat) (hM : p1.length = M + q1.length)
    (w : World) (hP : Sl eB w.heap.size w pv p) (hQ : Sl eB w.heap.size w qv q) :
    Calls Try.prog 10 #[pv, qv] w fun e w' => ∃ vq vr d, ma (C q1 (q1.length - 1)) d = 1 ∧ e = .returned (.tuple #[vq, vr, .int .i64 0]) ∧
      Sl eB w'.heap.size w' vq (tr (dst q1 d (M + 1) (C p1) (M + 1)).1 (M + 1)) ∧ Sl eB w'.heap.size w' vr (tr (dst q1 d (M + 1) (C p1) (M + 1)).2 p1.length) ∧ Below w.heap.size w w' := by
  refine (callsIn_wide (n := 9)).1 ?_
  have hmf : ∀ (fn : Fn) (first cap : Array Value) (w : World), (Instr.makeFunc fn first cap).run Try.prog w = .ok (.func fn first cap) w := fun _ _ _ _ => rfl
  have hA := ((Below.refl w.heap.size w).alloc (Nat.le_refl _) (.cells #[.slice none 0 0] 22)).alloc (by simp) (.cells #[.slice none 0 0] 22) |>.alloc (by simp; omega) (.cells #[.int .i64 0] 25)
  have hb := box3_new w (.slice none 0 0) (.slice none 0 0) (.int .i64 0)
  have hs0 : (((w.alloc (.cells #[.slice none 0 0] 22)).alloc (.cells #[.slice none 0 0] 22)).alloc (.cells #[.int .i64 0] 25)).heap.size = w.heap.size + 3 := by simp
  have hT1 := Trim_any pv p (by omega)
  have hT2 := Trim_any qv q (by omega)
  rw [hp1] at hT1
  rw [hq1] at hT2
  have HM := Lib.hid hM
  have Hm := Lib.hid hm
  have hmk := fun w => make_run (M + 1) (by omega) ((M : Int) + 1) (by omega) w
  have hw1 : IntKind.i64.wrap ((p1.length : Int) - (q1.length : Int)) = (M : Int) := by rw [IntWalk.i64_in _ (by omega)]; omega
  have hw2 : IntKind.i64.wrap ((M : Int) + 1) = (M : Int) + 1 := IntWalk.i64_in _ (by omega)
  have hw3 : IntKind.i64.wrap (((M + 1 : Nat) : Int) - 1) = (M : Int) := by rw [IntWalk.i64_in _ (by omega)]; omega
  have hpos : 0 < p1.length := by omega
  have hM1 : M ≤ 100000 := by omega
  clear hp1 hq1 hM
  refine callsIn_of_wp_marks Try.func10 rfl trivial ?_ rfl
  simp only [Try.ntmps10, List.size_toArray, List.length_cons, List.length_nil, Nat.reduceAdd, Nat.reduceSub, Array.replicate_succ, Array.replicate_zero, List.push_toArray, List.append_toArray, List.nil_append, List.cons_append]
  gi_wp2_with fail
  generalize (((w.alloc (.cells #[.slice none 0 0] 22)).alloc (.cells #[.slice none 0 0] 22)).alloc (.cells #[.int .i64 0] 25)) = w0 at *
  refine ⟨trivial, ?_⟩
  gi_at_call 13
  refine (callsIn_wide.2 (hT1 w0 (hP.next hA))).mono ?_
  rintro e w1 ⟨v1, rfl, hv1, hB1⟩
  obtain ⟨gr, k1, t, rfl, hgr, hk1, _, hR1⟩ := hv1.row hpos
  gi_wp2_with fail
  refine ⟨trivial, ?_⟩
  gi_at_call 13
  have hAB := below_trans hA hB1
  refine (callsIn_wide.2 (hT2 w1 (hQ.next hAB))).mono ?_
  rintro e w2 ⟨v2, rfl, hv2, hB2⟩
  obtain ⟨A2, k2, rfl⟩ := hv2.sl.len
  have hAB2 := below_trans hAB hB2
  have hb2 := (hb.below hB1).below hB2
  have c1 := hb2.2.1.cell
  have f1 := hb2.2.1.frozen
  have hb3 := hb2.set1 (.slice (some ⟨gr, 0, none⟩) p1.length k1)
  have hAB3 := hAB2.setCell (p := ⟨w.heap.size + 1, 0, none⟩) (by simp) (.slice (some ⟨gr, 0, none⟩) p1.length k1)
  have hsz1 : w0.heap.size ≤ w1.heap.size := hB1.size
  have hv3 := hv2.setc (w.heap.size + 1) 0 (.slice (some ⟨gr, 0, none⟩) p1.length k1) (by omega)
  have hR3 := ((hR1.below hB2 hR1.lt).set_other 0 (.slice (some ⟨gr, 0, none⟩) p1.length k1) (b := w.heap.size + 1) (by omega))
  have hgr1 : gr < w1.heap.size := hR1.lt
  have hne : ∀ a, A2 = some a → w1.heap.size ≤ a.block := fun a ha => by
    subst ha
    rcases hv2.2 with ⟨h, _⟩ | ⟨g, cap, cur, h, hb, _⟩
    · cases h
    · injection h with h; injection h with h; rw [h]; exact hb
  gi_wp2_with fail
  have hsz3 : (w2.setCell ⟨w.heap.size + 1, 0, none⟩ (.slice (some ⟨gr, 0, none⟩) p1.length k1)).heap.size = w2.heap.size := by simp [World.setCell]
  have hsz2 := hB2.size
  generalize w2.setCell ⟨w.heap.size + 1, 0, none⟩ (.slice (some ⟨gr, 0, none⟩) p1.length k1) = w3 at *
  refine ⟨trivial, ?_⟩
  gi_at_call 31
  refine (callsIn_wide.2 (inverse_yes (.slice A2 q1.length k2) q1 hql w3 hv3.sl Hm.out hlead)).mono ?_
  rintro e w4 ⟨d, hd, rfl, hB4⟩
  have hAB4 := hAB3.trans (hB4.mono (by omega))
  have hb4 := hb3.below hB4
  have hR4 := hR3.below hB4 hR3.lt
  have hv4 : Own8 w1.heap.size w4 (.slice A2 q1.length k2) q1 := hv3.grow hB4
  have hSq4 := hv4.sl
  have hsz4 := hB4.size
  have c4 := hb4.2.1.cell
  have z0 := hb4.1.cell
  have zf := hb4.1.frozen
  have z0' := fun o => ((hb4.1.alloc o).cell)
  have zf' := fun o => ((hb4.1.alloc o).frozen)
  clear hT1 hT2 hB1 hB2 hAB hAB2 hAB3 hb2 hb3 hR1 hR3 hv1 hv2 hv3 c1 f1 hB4 hA hb hP hQ
  have hgq4 : ∀ a, A2 = some a → a.block < w4.heap.size := fun a ha => by
    obtain ⟨A', c', e, _, hcs⟩ := hSq4
    injection e with e1 e2 e3
    obtain ⟨b, off, ea, hb, _⟩ := hcs Hm.out
    rw [← e1, ha] at ea
    injection ea with ea
    rw [ea]; exact hb
  have i0 : Box3 w.heap.size (.slice (some ⟨w4.heap.size, 0, none⟩) (M + 1) (M + 1)) (.slice (some ⟨gr, 0, none⟩) p1.length k1) (.int .i64 0) ((w4.alloc (.cells (cellsF (fun _ => 0) (M + 1)) 5)).setCell ⟨w.heap.size, 0, none⟩ (.slice (some ⟨w4.heap.size, 0, none⟩) (M + 1) (M + 1))) := (hb4.below (below_alloc _ _)).set0 _
  have i1 := (Rowed.new w4 5 (cellsF (fun _ => 0) (M + 1))).set_other 0 (.slice (some ⟨w4.heap.size, 0, none⟩) (M + 1) (M + 1)) (b := w.heap.size) (by omega)
  have i2 := (hR4.alloc (.cells (cellsF (fun _ => 0) (M + 1)) 5)).set_other 0 (.slice (some ⟨w4.heap.size, 0, none⟩) (M + 1) (M + 1)) (b := w.heap.size) (by omega)
  have i3 := (hv4.grow (below_alloc w4 (.cells (cellsF (fun _ => 0) (M + 1)) 5))).setc w.heap.size 0 (.slice (some ⟨w4.heap.size, 0, none⟩) (M + 1) (M + 1)) (by omega)
  have i4 := (below_trans hAB4 (below_alloc w4 (.cells (cellsF (fun _ => 0) (M + 1)) 5))).setCell (p := ⟨w.heap.size, 0, none⟩) (Nat.le_refl _) (.slice (some ⟨w4.heap.size, 0, none⟩) (M + 1) (M + 1))
  have i5 : ((w4.alloc (.cells (cellsF (fun _ => 0) (M + 1)) 5)).setCell ⟨w.heap.size, 0, none⟩ (.slice (some ⟨w4.heap.size, 0, none⟩) (M + 1) (M + 1))).heap.size = w4.heap.size + 1 := by simp [World.setCell]
  gi_wp2_with fail
  generalize (w4.alloc (.cells (cellsF (fun _ => 0) (M + 1)) 5)).setCell ⟨w.heap.size, 0, none⟩ (.slice (some ⟨w4.heap.size, 0, none⟩) (M + 1) (M + 1)) = w5 at *
  have bn6 := Boxed.new w5 3 (.int .i64 M)
  rw [i5] at bn6
  have hA6 := below_alloc w5 (.cells #[.int .i64 M] 3)
  have hs6 : (w5.alloc (.cells #[.int .i64 M] 3)).heap.size = w4.heap.size + 2 := by simp [i5]
  have hD6 : DivI w (w4.heap.size + 2) w4.heap.size gr k1 p1.length M t A2 k2 q1 (dst q1 d (M + 1) (C p1) 0) [] (w5.alloc (.cells #[.int .i64 M] 3)) := by
    refine ⟨i0.below hA6, i1.below hA6 (by omega), i2.below hA6 (by omega), ?_, ⟨List.nodup_nil, fun d hd => (by cases hd)⟩, below_trans i4 hA6, by omega⟩
    have h := (i3.grow hA6).sl
    rw [hs6] at h
    exact h
  generalize w5.alloc (.cells #[.int .i64 M] 3) = w6 at *
  clear i0 i1 i2 i3 i4 i5 hA6 c4 z0 zf z0' zf' hR4 hb4 hv4 hSq4 hAB4 hmk hw1 hw2 hw3 hmf
  have hgr4 : gr < w4.heap.size := by omega
  obtain ⟨I, hIdef⟩ : ∃ I : Act → World → Prop, I = (fun a W => ∃ x9 x10 x12 x13 x14 x15 x16 x17 x18 x19 x20 x21 x22 x23 x24 x25 x26 x27 x28 x29 x30 x31 x32 x33 x34 x35 x36 x37 x38 x39 x40 x41 x42 x43 x44 x45 x46 x47 x48 x49 x50 x51 x52 x53 x54 x55 x56 x57 x58 x59 x60 x61 x62 x63 x64 x65 x66 x67 x68 bn j ds, j ≤ M + 1 ∧ ds.length = j ∧ w4.heap.size < bn ∧ Boxed W bn 3 (.int .i64 ((M : Int) - j)) ∧ DivI w (w4.heap.size + 2) w4.heap.size gr k1 p1.length M t A2 k2 q1 (dst q1 d (M + 1) (C p1) j) ds W ∧
      a = { tmps := #[pv, (.slice A2 q1.length k2), undef, undef, .pointer (some ⟨w.heap.size, 0, none⟩), .pointer (some ⟨w.heap.size + 1, 0, none⟩), .pointer (some ⟨w.heap.size + 1 + 1, 0, none⟩), eB d, .pointer (some ⟨bn, 0, none⟩), x9, x10, .func (.func 30) #[] #[.pointer (some ⟨w.heap.size, 0, none⟩), .pointer (some ⟨w.heap.size + 1, 0, none⟩), .pointer (some ⟨w.heap.size + 1 + 1, 0, none⟩)], x12, x13, x14, x15, x16, x17, x18, x19, x20, x21, x22, x23, x24, x25, x26, x27, x28, x29, x30, x31, x32, x33, x34, x35, x36, x37, x38, x39, x40, x41, x42, x43, x44, x45, x46, x47, x48, x49, x50, x51, x52, x53, x54, x55, x56, x57, x58, x59, x60, x61, x62, x63, x64, x65, x66, x67, x68], defers := ds.map markD ++ [{ target := .fn (.func 30) #[.pointer (some ⟨w.heap.size, 0, none⟩), .pointer (some ⟨w.heap.size + 1, 0, none⟩), .pointer (some ⟨w.heap.size + 1 + 1, 0, none⟩)], args := #[] }] }) := ⟨_, rfl⟩
  have HI := Lib.hid hIdef
  clear hIdef
  refine wpIn_loop I
    (fun a _ => M + 2 - a.defers.length) ?start ?round
  case start => rw [HI.out]; exact ⟨_, _, _, _, _, _, _, _, _, _, _, _, _, _, _, _, _, _, _, _, _, _, _, _, _, _, _, _, _, _, _, _, _, _, _, _, _, _, _, _, _, _, _, _, _, _, _, _, _, _, _, _, _, _, _, _, _, _, _, w4.heap.size + 1, 0, [], Nat.zero_le _, rfl, by omega, by simpa using bn6, hD6, rfl⟩
  case round =>
    intro a W hIaW
    rw [HI.out] at hIaW
    obtain ⟨x9, x10, x12, x13, x14, x15, x16, x17, x18, x19, x20, x21, x22, x23, x24, x25, x26, x27, x28, x29, x30, x31, x32, x33, x34, x35, x36, x37, x38, x39, x40, x41, x42, x43, x44, x45, x46, x47, x48, x49, x50, x51, x52, x53, x54, x55, x56, x57, x58, x59, x60, x61, x62, x63, x64, x65, x66, x67, x68, bn, j, ds, hj, hds, hbn, hbx, hI, rfl⟩ := hIaW
    have cn := hbx.cell
    by_cases hjM : j = M + 1
    · subst hjM
      have en : (M : Int) - ((M + 1 : Nat) : Int) = -1 := by omega
      rw [en] at cn
      gi_wp2_with fail
      clear cn en hbx hbn bn6 hD6
      obtain ⟨b1, r1, r2, s1, m1, u1, z1⟩ := hI
      have hTq := fun x hx => Trim_any (.slice (some ⟨w4.heap.size, 0, none⟩) (M + 1) (M + 1)) ((List.range (M + 1)).map (dst q1 d (M + 1) (C p1) (M + 1)).1) (by simp; omega) x hx
      have hTr := fun x hx => Trim_any (.slice (some ⟨gr, 0, none⟩) p1.length k1) ((List.range p1.length).map (dst q1 d (M + 1) (C p1) (M + 1)).2) (by simp; omega) x hx
      have hdi := dst_inv q1 d (M + 1) (C p1) Hm.out hd (fun k hk => C_big p1 k (by have := HM.out; omega)) (M + 1) (Nat.le_refl _)
      rw [C_range _ (M + 1) hdi.2.1, List.length_map, List.length_range] at hTq
      rw [C_range _ p1.length (fun k hk => hdi.2.2.1 k (by have := HM.out; omega)), List.length_map, List.length_range] at hTr
      obtain ⟨Q, hQ'⟩ : ∃ Q, tr (dst q1 d (M + 1) (C p1) (M + 1)).1 (M + 1) = Q := ⟨_, rfl⟩
      obtain ⟨R, hR'⟩ : ∃ R, tr (dst q1 d (M + 1) (C p1) (M + 1)).2 p1.length = R := ⟨_, rfl⟩
      rw [hQ'] at hTq
      rw [hR'] at hTr
      have HQ := Lib.hid hQ'
      have HR := Lib.hid hR'
      clear hQ' hR'
      have sW := u1.size
      have eq1 : ∀ x, Below W.heap.size W x → Calls Try.prog 13 #[.slice (some ⟨w4.heap.size, 0, none⟩) (M + 1) (M + 1)] x fun e w' => ∃ A c, e = .returned (.slice A Q.length c) ∧ Sl eB w'.heap.size w' (.slice A Q.length c) Q ∧ Own8 W.heap.size w' (.slice A Q.length c) Q ∧ Below W.heap.size W w' ∧
          w'.cell? ⟨w.heap.size, 0, none⟩ = some (.slice (some ⟨w4.heap.size, 0, none⟩) (M + 1) (M + 1)) ∧ w'.cell? ⟨w.heap.size + 1, 0, none⟩ = some (.slice (some ⟨gr, 0, none⟩) p1.length k1) := by
        intro x hx
        have hxs := hx.size
        have hrx := r1.below hx r1.lt
        refine (hTq x (sl_cellsF hrx _ hrx.lt)).mono ?_
        rintro e w' ⟨v, rfl, hv, hB⟩
        obtain ⟨A, c, rfl⟩ := hv.sl.len
        have hB' := below_trans hx hB
        have hb' := b1.below hB'
        exact ⟨A, c, rfl, hv.sl, hv.mono hxs, hB', hb'.1.cell, hb'.2.1.cell⟩
      have eq2 : ∀ x, Below W.heap.size W x → ∀ A' c', Own8 W.heap.size x (.slice A' Q.length c') Q → Calls Try.prog 13 #[.slice (some ⟨gr, 0, none⟩) p1.length k1] x fun e w' => ∃ A c, e = .returned (.slice A R.length c) ∧ Own8 W.heap.size w' (.slice A R.length c) R ∧ Own8 W.heap.size w' (.slice A' Q.length c') Q ∧ Below W.heap.size W w' ∧
          w'.cell? ⟨w.heap.size, 0, none⟩ = some (.slice (some ⟨w4.heap.size, 0, none⟩) (M + 1) (M + 1)) ∧ w'.frozen? ⟨w.heap.size, 0, none⟩ = false ∧
          (∀ u, (w'.setCell ⟨w.heap.size, 0, none⟩ u).cell? ⟨w.heap.size + 1, 0, none⟩ = some (.slice (some ⟨gr, 0, none⟩) p1.length k1)) ∧ (∀ u, (w'.setCell ⟨w.heap.size, 0, none⟩ u).frozen? ⟨w.heap.size + 1, 0, none⟩ = false) ∧
          (∀ u v, ((w'.setCell ⟨w.heap.size, 0, none⟩ u).setCell ⟨w.heap.size + 1, 0, none⟩ v).cell? ⟨w.heap.size + 1 + 1, 0, none⟩ = some (.int .i64 0)) ∧ (∀ u v, ((w'.setCell ⟨w.heap.size, 0, none⟩ u).setCell ⟨w.heap.size + 1, 0, none⟩ v).frozen? ⟨w.heap.size + 1 + 1, 0, none⟩ = false) := by
        intro x hx A' c' hO
        have hxs := hx.size
        have hrx := r2.below hx r2.lt
        refine (hTr x (sl_cellsT hrx _ hrx.lt hk1)).mono ?_
        rintro e w' ⟨v, rfl, hv, hB⟩
        obtain ⟨A, c, rfl⟩ := hv.sl.len
        have hB' := below_trans hx hB
        have hb' := b1.below hB'
        exact ⟨A, c, rfl, hv.mono hxs, hO.grow hB, hB', hb'.1.cell, hb'.1.frozen, fun u => (hb'.set0 u).2.1.cell, fun u => (hb'.set0 u).2.1.frozen, fun u v => ((hb'.set0 u).set1 v).2.2.cell, fun u v => ((hb'.set0 u).set1 v).2.2.frozen⟩
      have kk0 := b1.1.cell
      have kk1 := b1.2.1.cell
      have hWd : Below W.heap.size W W.drew := below_drew W
      have hend : ∀ wz A c A' c', Below W.heap.size W wz → Own8 W.heap.size wz (.slice A R.length c) R → Own8 W.heap.size wz (.slice A' Q.length c') Q → ∀ tm : Array Value, tm[4]? = some (.pointer (some ⟨w.heap.size, 0, none⟩)) → tm[5]? = some (.pointer (some ⟨w.heap.size + 1, 0, none⟩)) → tm[6]? = some (.pointer (some ⟨w.heap.size + 1 + 1, 0, none⟩)) →
          bodyPostM Fence.wide 9 Try.prog Try.f10 (fun e w' => ∃ vq vr d, ma (C q1 (q1.length - 1)) d = 1 ∧ e = Ending.returned (.tuple #[vq, vr, .int .i64 0]) ∧ Sl eB w'.heap.size w' vq (tr (dst q1 d (M + 1) (C p1) (M + 1)).1 (M + 1)) ∧ Sl eB w'.heap.size w' vr (tr (dst q1 d (M + 1) (C p1) (M + 1)).2 p1.length) ∧ Below w.heap.size w w')
            .ret { tmps := tm, defers := ds.map markD ++ [{ target := .fn (.func 30) #[.pointer (some ⟨w.heap.size, 0, none⟩), .pointer (some ⟨w.heap.size + 1, 0, none⟩), .pointer (some ⟨w.heap.size + 1 + 1, 0, none⟩)], args := #[] }] } (((wz.setCell ⟨w.heap.size, 0, none⟩ (.slice A' Q.length c')).setCell ⟨w.heap.size + 1, 0, none⟩ (.slice A R.length c)).setCell ⟨w.heap.size + 1 + 1, 0, none⟩ (.int .i64 0)) := by
        intro wz A c A' c' hB hoR hoQ tm ht4 ht5 ht6
        have hmz := m1.keep (g := 0) (keep_of hB) (Nat.le_refl _) (by omega)
        have hm1 := hmz.keep (keep_set wz.heap.size w.heap.size 0 wz (.slice A' Q.length c')) (Nat.le_refl _) (by omega)
        have hm2 := hm1.keep (keep_set _ (w.heap.size + 1) 0 _ (.slice A R.length c)) (Nat.le_refl _) (by omega)
        have hm3 := hm2.keep (keep_set _ (w.heap.size + 1 + 1) 0 _ (.int .i64 0)) (Nat.le_refl _) (by omega)
        have hbz := (((b1.below hB).set0 (.slice A' Q.length c')).set1 (.slice A R.length c)).set2 (.int .i64 0)
        have hoR3 := (((hoR.setc w.heap.size 0 (.slice A' Q.length c') (by omega)).setc (w.heap.size + 1) 0 (.slice A R.length c) (by omega)).setc (w.heap.size + 1 + 1) 0 (.int .i64 0) (by omega)).sl
        have hoQ3 := (((hoQ.setc w.heap.size 0 (.slice A' Q.length c') (by omega)).setc (w.heap.size + 1) 0 (.slice A R.length c) (by omega)).setc (w.heap.size + 1 + 1) 0 (.int .i64 0) (by omega)).sl
        have hBz := (((below_trans u1 hB).setCell (p := ⟨w.heap.size, 0, none⟩) (Nat.le_refl _) (.slice A' Q.length c')).setCell (p := ⟨w.heap.size + 1, 0, none⟩) (by simp) (.slice A R.length c)).setCell (p := ⟨w.heap.size + 1 + 1, 0, none⟩) (by simp; omega) (.int .i64 0)
        generalize ((wz.setCell ⟨w.heap.size, 0, none⟩ (.slice A' Q.length c')).setCell ⟨w.heap.size + 1, 0, none⟩ (.slice A R.length c)).setCell ⟨w.heap.size + 1 + 1, 0, none⟩ (.int .i64 0) = wF at *
        refine Marks.taken (by simp) (w4.heap.size + 2) _ ds wF hm3 (fun W' hT => ?_)
        refine ⟨by simp, .inr ⟨(fun h => by cases h), _, _, 30, #[.pointer (some ⟨w.heap.size, 0, none⟩), .pointer (some ⟨w.heap.size + 1, 0, none⟩), .pointer (some ⟨w.heap.size + 1 + 1, 0, none⟩)], rfl, (by simp [go_sem]), (fun _ _ => trivial), ?_⟩⟩
        refine (left_idle _ _ _ _ W').mono ?_
        rintro e u' w'' ⟨rfl, rfl, rfl⟩
        have d0 := (hT.boxed hm3 hbz.1).cell
        have d1 := (hT.boxed hm3 hbz.2.1).cell
        have d2 := (hT.boxed hm3 hbz.2.2).cell
        have hsT := hT.1.2.2.2
        refine ⟨.tuple #[.slice A' Q.length c', .slice A R.length c, .int .i64 0], ?_, _, _, d, hd, rfl, by rw [HQ.out, hsT]; exact hT.sl hm3 hoQ3, by rw [HR.out, hsT]; exact hT.sl hm3 hoR3, hBz.trans (hT.below hm3 (by omega))⟩
        simp [results, Try.f10, go_sem, ht4, ht5, ht6, d0, d1, d2]
      clear hTq hTr
      refine wpIn_wide.2 ?_
      go_region_with (first | (go_at_call 13; refine (eq1 _ (by assumption)).mono ?_; rintro e w' ⟨A1, c1, rfl, hs1, ho1, hB1, g0, g1⟩) | (go_at_call 13; refine (eq2 _ (by assumption) _ _ (by assumption)).mono ?_; rintro e w' ⟨A3, c3, rfl, ho3, ho1', hB3, g0', f0', g1', f1', g2', f2'⟩))
      all_goals (gi_wp2; exact hend _ _ _ _ _ (by assumption) (by assumption) (by assumption) _ rfl rfl rfl)
    · obtain ⟨n, hn⟩ : ∃ n : Nat, M = j + n := ⟨M - j, by omega⟩
      have en : (M : Int) - (j : Int) = (n : Int) := by omega
      rw [en] at cn hbx
      obtain ⟨y, hy⟩ : ∃ y, n + q1.length = y + 1 := ⟨n + q1.length - 1, by omega⟩
      have hyp : y < p1.length := by have := HM.out; omega
      have hI0 := hI
      have Hdst := Lib.hid (show dst q1 d (M + 1) (C p1) (j + 1) = dstep q1 d n (dst q1 d (M + 1) (C p1) j) by show dstep q1 d (M + 1 - 1 - j) _ = _; rw [show M + 1 - 1 - j = n by omega])
      have Hcof := Lib.hid (show dcof q1 d n (dst q1 d (M + 1) (C p1) j) = ma ((dst q1 d (M + 1) (C p1) j).2 y) d by unfold dcof; rw [show n + q1.length - 1 = y by omega])
      generalize dst q1 d (M + 1) (C p1) j = S at *
      obtain ⟨b1, r1, r2, s1, m1, u1, z1⟩ := hI
      have kk0 := b1.1.cell
      have kk1 := b1.2.1.cell
      have cr := r2.cell y
      rw [cellsT_get _ _ _ _ hyp] at cr
      have cq := r1.cell n
      rw [cellsF_get _ _ _ (show n < M + 1 by omega)] at cq
      have hst : ∀ w', Below W.heap.size W w' → w'.cell? ⟨w4.heap.size, n, none⟩ = some (eB (S.1 n)) ∧ w'.frozen? ⟨w4.heap.size, n, none⟩ = false := fun w' hB => ⟨(hB.cell (p := ⟨w4.heap.size, n, none⟩) r1.lt).trans cq, (r1.below hB r1.lt).frozen n⟩
      have hx1 : IntKind.i64.wrap ((n : Int) + (q1.length : Int)) = (y : Int) + 1 := by rw [IntWalk.i64_in _ (by omega)]; omega
      have hx2 : IntKind.i64.wrap ((y : Int) + 1 - 1) = (y : Int) := by rw [IntWalk.i64_in _ (by omega)]; omega
      have hx3 : IntKind.i64.wrap (y : Int) = (y : Int) := IntWalk.i64_in _ (by omega)
      have hy0 : (0 : Int) ≤ (y : Int) := by omega
      have hy1 : (y : Int) < (p1.length : Int) := by omega
      have hn0 : (0 : Int) ≤ (n : Int) := by omega
      have hn1 : (n : Int) < ((M + 1 : Nat) : Int) := by omega
      have hn3 : (n : Int) < (M : Int) + 1 := by omega
      have hn2 : decide ((0 : Int) ≤ (n : Int)) = true := decide_eq_true hn0
      have Hn := Lib.hid hn
      have Hy := Lib.hid hy
      have Hj := Lib.hid hjM
      clear hn hy hjM en hj
      have hSK : ∀ w', Keep W.heap.size w4.heap.size W w' → (fun w' => (w'.cell? ⟨w.heap.size, 0, none⟩ = some (.slice (some ⟨w4.heap.size, 0, none⟩) (M + 1) (M + 1)) ∧ w'.cell? ⟨w.heap.size + 1, 0, none⟩ = some (.slice (some ⟨gr, 0, none⟩) p1.length k1) ∧ w'.cell? ⟨bn, 0, none⟩ = some (.int .i64 n) ∧ w'.cell? ⟨gr, y, none⟩ = some (eB (S.2 y))) ∧ Keep W.heap.size w4.heap.size W w') w' := fun w' hk => by
        have l1 := b1.1.lt
        have l2 := b1.2.1.lt
        have l3 := hbx.lt
        have l4 := r2.lt
        exact ⟨⟨(hk.cell (p := ⟨w.heap.size, 0, none⟩) l1 (by show w.heap.size ≠ _; omega)).trans kk0, (hk.cell (p := ⟨w.heap.size + 1, 0, none⟩) l2 (by show w.heap.size + 1 ≠ _; omega)).trans kk1, (hk.cell (p := ⟨bn, 0, none⟩) l3 (by show bn ≠ _; omega)).trans cn, (hk.cell (p := ⟨gr, y, none⟩) l4 (by show gr ≠ _; omega)).trans cr⟩, hk⟩
      have hSa : ∀ xa xb, (fun w' => (w'.cell? ⟨w.heap.size, 0, none⟩ = some (.slice (some ⟨w4.heap.size, 0, none⟩) (M + 1) (M + 1)) ∧ w'.cell? ⟨w.heap.size + 1, 0, none⟩ = some (.slice (some ⟨gr, 0, none⟩) p1.length k1) ∧ w'.cell? ⟨bn, 0, none⟩ = some (.int .i64 n) ∧ w'.cell? ⟨gr, y, none⟩ = some (eB (S.2 y))) ∧ Keep W.heap.size w4.heap.size W w') xa → Below xa.heap.size xa xb → (fun w' => (w'.cell? ⟨w.heap.size, 0, none⟩ = some (.slice (some ⟨w4.heap.size, 0, none⟩) (M + 1) (M + 1)) ∧ w'.cell? ⟨w.heap.size + 1, 0, none⟩ = some (.slice (some ⟨gr, 0, none⟩) p1.length k1) ∧ w'.cell? ⟨bn, 0, none⟩ = some (.int .i64 n) ∧ w'.cell? ⟨gr, y, none⟩ = some (eB (S.2 y))) ∧ Keep W.heap.size w4.heap.size W w') xb := fun _ _ h hB => hSK _ (keep_t h.2 (keep_of (hB.mono (keep_size h.2))))
      have hSb : ∀ xa v, (fun w' => (w'.cell? ⟨w.heap.size, 0, none⟩ = some (.slice (some ⟨w4.heap.size, 0, none⟩) (M + 1) (M + 1)) ∧ w'.cell? ⟨w.heap.size + 1, 0, none⟩ = some (.slice (some ⟨gr, 0, none⟩) p1.length k1) ∧ w'.cell? ⟨bn, 0, none⟩ = some (.int .i64 n) ∧ w'.cell? ⟨gr, y, none⟩ = some (eB (S.2 y))) ∧ Keep W.heap.size w4.heap.size W w') xa → (fun w' => (w'.cell? ⟨w.heap.size, 0, none⟩ = some (.slice (some ⟨w4.heap.size, 0, none⟩) (M + 1) (M + 1)) ∧ w'.cell? ⟨w.heap.size + 1, 0, none⟩ = some (.slice (some ⟨gr, 0, none⟩) p1.length k1) ∧ w'.cell? ⟨bn, 0, none⟩ = some (.int .i64 n) ∧ w'.cell? ⟨gr, y, none⟩ = some (eB (S.2 y))) ∧ Keep W.heap.size w4.heap.size W w') (xa.setCell ⟨w4.heap.size, n, none⟩ v) := fun _ _ h => hSK _ (keep_t h.2 (keep_set _ _ _ _ _))
      have hWd : Below W.heap.size W W.drew := below_drew W
      have hS0 : (fun w' => (w'.cell? ⟨w.heap.size, 0, none⟩ = some (.slice (some ⟨w4.heap.size, 0, none⟩) (M + 1) (M + 1)) ∧ w'.cell? ⟨w.heap.size + 1, 0, none⟩ = some (.slice (some ⟨gr, 0, none⟩) p1.length k1) ∧ w'.cell? ⟨bn, 0, none⟩ = some (.int .i64 n) ∧ w'.cell? ⟨gr, y, none⟩ = some (eB (S.2 y))) ∧ Keep W.heap.size w4.heap.size W w') W.drew := hSK _ (keep_of hWd)
      gi_wp2_with fail
      refine wpIn_wide.2 ?_
      go_region_held3 (fun w' => (w'.cell? ⟨w.heap.size, 0, none⟩ = some (.slice (some ⟨w4.heap.size, 0, none⟩) (M + 1) (M + 1)) ∧ w'.cell? ⟨w.heap.size + 1, 0, none⟩ = some (.slice (some ⟨gr, 0, none⟩) p1.length k1) ∧ w'.cell? ⟨bn, 0, none⟩ = some (.int .i64 n) ∧ w'.cell? ⟨gr, y, none⟩ = some (eB (S.2 y))) ∧ Keep W.heap.size w4.heap.size W w')
        (first | assumption | exact hSa _ _ (by assumption) (by assumption) | exact hSb _ _ (by assumption) | exact hS0)
        (first | (go_at_call 32; refine (Mul8_any (S.2 y) d _).mono ?_; rintro e wM ⟨rfl, hBM⟩; obtain ⟨st1, st2⟩ := hst _ (hWd.trans hBM)))
      have hBM2 := hWd.trans hBM
      have hIA := (hI0.below hBM2).quot n (ma (S.2 y) d) (by omega) (by omega) (by omega) (fun a ha => by have := hgq4 a ha; omega)
      have hbA : Boxed (wM.setCell ⟨w4.heap.size, n, none⟩ (eB (ma (S.2 y) d))) bn 3 (.int .i64 n) := (Below.heap_setCell _ _ _ _ (by show bn ≠ w4.heap.size; omega)).trans ((hBM2.block _ hbx.lt).trans hbx)
      generalize hc : ma (S.2 y) d = c at *
      have Hc := Lib.hid hc
      clear hc hSK hSa hSb hS0 hst kk0 kk1 cr cq cn hBM hBM2 st1 st2 hI0 b1 r1 r2 s1 m1 u1 z1 hbx
      generalize wM.setCell ⟨w4.heap.size, n, none⟩ (eB c) = wA at *
      gi_wp2_with (refine ⟨trivial, ?_⟩; gi_at_call 33; refine (callsIn_wide.2 (factors_any A2 q1.length k2 _)).mono ?_; rintro e w' ⟨rfl, rfl⟩)
      have hbf := Boxed.new wA 22 (.slice A2 q1.length k2)
      have hIB := hIA.below (below_alloc wA (.cells #[.slice A2 q1.length k2] 22))
      have hbB := hbA.alloc (.cells #[.slice A2 q1.length k2] 22)
      clear hIA hbA
      generalize hwB : wA.alloc (.cells #[.slice A2 q1.length k2] 22) = wB at *
      have hsB : wB.heap.size = wA.heap.size + 1 := by rw [← hwB]; simp
      clear hwB
      have kA := hIB.2.2.2.2.2.2
      refine wpIn_rangeFunc_ownG rfl (by decide) (gf := 41) (lb := #[.pointer (some ⟨wA.heap.size, 0, none⟩)]) rfl trivial (enters_of Try.func41 (by kernel_rfl) rfl)
        (factors_ne 7 wA.heap.size (w4.heap.size + 2) wB.heap.size gr A2 k2 q1 (by omega) wB kA (fun a ha => by have := hne a ha; omega) kA hbf.cell hIB.2.2.2.1) keep_t (keep_b (Nat.le_refl _)) (Below.refl _ _) (fun _ => rfl)
        (fun (pre : List (Fin q1.length)) W' => Rowed W' gr 5 (cellsT (acc n (fun i => ma c (C q1 i)) S.2 pre) p1.length t) ∧ Keep wB.heap.size gr wB W')
        (fun _ _ _ => False)
        (OwnFrom.and (rowed_ownFrom gr 5 (fun (pre : List (Fin q1.length)) => cellsT (acc n (fun i => ma c (C q1 i)) S.2 pre) p1.length t) _) (ownFrom_keep (Nat.le_refl _) (Nat.le_refl _)))
        (fun _ _ _ _ _ hs _ _ => hs)
        ⟨hIB.2.2.1, keep_r _ _ _⟩
        ?a1 ?assign ?body ?done ?stop
      case assign =>
        intro l x W' K hK
        gi_wp2
        exact hK
      case stop =>
        rintro D cd pre W' hD hpre h hK
        exact h.elim
      case body =>
        rintro l pre x W' ⟨hr, hk⟩ hlt
        have hxl := x.isLt
        have hxy : n + x.val < p1.length := by have := Hy.out; omega
        have hnM : n < M + 1 := by omega
        have kb := hIB.1.keep hk (Nat.le_refl _) (by omega)
        have kn := hk.boxed hbB hbB.lt (by omega)
        have kq := hk.rowed hIB.2.1 hIB.2.1.lt (by omega)
        have e0 := kb.1.cell
        have e1 := kb.2.1.cell
        have e2 := kn.cell
        have e3 := kq.cell n
        rw [cellsF_get _ _ _ hnM] at e3
        simp only [if_true] at e3
        have l0 := kb.1.lt
        have l1 := kb.2.1.lt
        have l2 := kn.lt
        have l3 := kq.lt
        have l4 := hr.lt
        have hkz := keep_size hk
        have e4 := hr.cell (n + x.val)
        rw [cellsT_get _ _ _ _ hxy] at e4
        obtain ⟨u, hu⟩ : ∃ u, acc n (fun i => ma c (C q1 i)) S.2 pre (n + x.val) = u := ⟨_, rfl⟩
        rw [hu] at e4
        have hstep := acc_step n (fun i => ma c (C q1 i)) S.2 pre x u hu
        have hCx : C q1 x.val = q1[x] := C_get q1 x.val hxl
        simp only [hCx] at hstep
        generalize q1[x] = z at *
        have Hstep := Lib.hid hstep
        have hst2 : ∀ w', Below W'.heap.size W' w' → w'.cell? ⟨gr, n + x.val, none⟩ = some (eB u) ∧ w'.frozen? ⟨gr, n + x.val, none⟩ = false := fun w' hB => ⟨(hB.cell (p := ⟨gr, n + x.val, none⟩) l4).trans e4, (hr.below hB l4).frozen _⟩
        have hfin : ∀ w5, Below W'.heap.size W' w5 → KeepsFrom wB.heap.size W' (w5.setCell ⟨gr, n + x.val, none⟩ (eB (u ^^^ ma c z))) ∧ Keep wB.heap.size gr W' (w5.setCell ⟨gr, n + x.val, none⟩ (eB (u ^^^ ma c z))) ∧
            Rowed (w5.setCell ⟨gr, n + x.val, none⟩ (eB (u ^^^ ma c z))) gr 5 (cellsT (acc n (fun i => ma c (C q1 i)) S.2 (pre ++ [x])) p1.length t) ∧ Keep wB.heap.size gr wB (w5.setCell ⟨gr, n + x.val, none⟩ (eB (u ^^^ ma c z))) := by
          intro w5 hB5
          have ks : Keep wB.heap.size gr W' (w5.setCell ⟨gr, n + x.val, none⟩ (eB (u ^^^ ma c z))) := keep_t (keep_of (hB5.mono hkz)) (keep_set _ _ _ _ _)
          refine ⟨(keepsFrom_below hB5).trans ((KeepsOthers.setCell _ _ _).from _), ks, ?_, keep_t hk ks⟩
          have hset := (hr.below hB5 l4).set (n + x.val) (eB (u ^^^ ma c z))
          rw [cellsT_set _ _ _ _ _ hxy, Hstep.out] at hset
          exact hset
        have hx5 : IntKind.i64.wrap ((n : Int) + (x.val : Int)) = ((n + x.val : Nat) : Int) := by rw [IntWalk.i64_in _ (by omega)]; omega
        have hxor := eB_xor u (ma c z)
        have hWd : Below W'.heap.size W' W'.drew := below_drew W'
        have e4d := (hst2 _ hWd).1
        have hSK : ∀ w', Keep W'.heap.size gr W' w' → (fun wq => (wq.cell? ⟨w.heap.size, 0, none⟩ = some (.slice (some ⟨w4.heap.size, 0, none⟩) (M + 1) (M + 1)) ∧ wq.cell? ⟨w.heap.size + 1, 0, none⟩ = some (.slice (some ⟨gr, 0, none⟩) p1.length k1) ∧ wq.cell? ⟨bn, 0, none⟩ = some (.int .i64 n) ∧ wq.cell? ⟨w4.heap.size, n, none⟩ = some (eB c)) ∧ Keep W'.heap.size gr W' wq) w' := fun w' hk2 => ⟨⟨(hk2.cell (p := ⟨w.heap.size, 0, none⟩) l0 (by show w.heap.size ≠ _; omega)).trans e0, (hk2.cell (p := ⟨w.heap.size + 1, 0, none⟩) l1 (by show w.heap.size + 1 ≠ _; omega)).trans e1, (hk2.cell (p := ⟨bn, 0, none⟩) l2 (by show bn ≠ _; omega)).trans e2, (hk2.cell (p := ⟨w4.heap.size, n, none⟩) l3 (by show w4.heap.size ≠ _; omega)).trans e3⟩, hk2⟩
        have hSa : ∀ xb, Below W'.drew.heap.size W'.drew xb → (fun wq => (wq.cell? ⟨w.heap.size, 0, none⟩ = some (.slice (some ⟨w4.heap.size, 0, none⟩) (M + 1) (M + 1)) ∧ wq.cell? ⟨w.heap.size + 1, 0, none⟩ = some (.slice (some ⟨gr, 0, none⟩) p1.length k1) ∧ wq.cell? ⟨bn, 0, none⟩ = some (.int .i64 n) ∧ wq.cell? ⟨w4.heap.size, n, none⟩ = some (eB c)) ∧ Keep W'.heap.size gr W' wq) xb := fun _ hB => hSK _ (keep_of (hWd.trans hB))
        have hSb : ∀ xa v, (fun wq => (wq.cell? ⟨w.heap.size, 0, none⟩ = some (.slice (some ⟨w4.heap.size, 0, none⟩) (M + 1) (M + 1)) ∧ wq.cell? ⟨w.heap.size + 1, 0, none⟩ = some (.slice (some ⟨gr, 0, none⟩) p1.length k1) ∧ wq.cell? ⟨bn, 0, none⟩ = some (.int .i64 n) ∧ wq.cell? ⟨w4.heap.size, n, none⟩ = some (eB c)) ∧ Keep W'.heap.size gr W' wq) xa → (fun wq => (wq.cell? ⟨w.heap.size, 0, none⟩ = some (.slice (some ⟨w4.heap.size, 0, none⟩) (M + 1) (M + 1)) ∧ wq.cell? ⟨w.heap.size + 1, 0, none⟩ = some (.slice (some ⟨gr, 0, none⟩) p1.length k1) ∧ wq.cell? ⟨bn, 0, none⟩ = some (.int .i64 n) ∧ wq.cell? ⟨w4.heap.size, n, none⟩ = some (eB c)) ∧ Keep W'.heap.size gr W' wq) (xa.setCell ⟨gr, n + x.val, none⟩ v) := fun _ _ h => hSK _ (keep_t h.2 (keep_set _ _ _ _ _))
        have hS0 : (fun wq => (wq.cell? ⟨w.heap.size, 0, none⟩ = some (.slice (some ⟨w4.heap.size, 0, none⟩) (M + 1) (M + 1)) ∧ wq.cell? ⟨w.heap.size + 1, 0, none⟩ = some (.slice (some ⟨gr, 0, none⟩) p1.length k1) ∧ wq.cell? ⟨bn, 0, none⟩ = some (.int .i64 n) ∧ wq.cell? ⟨w4.heap.size, n, none⟩ = some (eB c)) ∧ Keep W'.heap.size gr W' wq) W'.drew := hSK _ (keep_of hWd)
        clear hSK hu hstep hCx hIB hbB kb kn kq hr e0 e1 e2 e3 e4
        generalize hvv : n + x.val = v at *
        have Hvv := Lib.hid hvv
        clear hvv
        have hv0 : (0 : Int) ≤ (v : Int) := by omega
        have hv1 : (v : Int) < (p1.length : Int) := by omega
        have hn3 : (n : Int) < (M : Int) + 1 := by omega
        generalize x.val = xv at *
        gi_wp2_with fail
        refine region_round (fun wq => (wq.cell? ⟨w.heap.size, 0, none⟩ = some (.slice (some ⟨w4.heap.size, 0, none⟩) (M + 1) (M + 1)) ∧ wq.cell? ⟨w.heap.size + 1, 0, none⟩ = some (.slice (some ⟨gr, 0, none⟩) p1.length k1) ∧ wq.cell? ⟨bn, 0, none⟩ = some (.int .i64 n) ∧ wq.cell? ⟨w4.heap.size, n, none⟩ = some (eB c)) ∧ Keep W'.heap.size gr W' wq) (by kernel_rfl) rfl (by rintro ⟨_, _, h⟩; exact h) ?_
        refine wpAnyH_take (i := 0) (v := ?_) rfl (by kernel_rfl) (by kernel_rfl) (by kernel_rfl) (fun _ _ _ h => h) (Or.inl ⟨by rfl, ?_⟩) (by assumption) ?_
        rotate_left
        · intro w hSw; (try dsimp only at hSw); go_simp; try with_reducible rfl
        (try simp only [Act.put, List.setIfInBounds_toArray, List.set_cons_zero, List.set_cons_succ])
        refine wpAnyH_take (i := 1) (v := ?_) rfl (by kernel_rfl) (by kernel_rfl) (by kernel_rfl) (fun _ _ _ h => h) (Or.inl ⟨by rfl, ?_⟩) (by assumption) ?_
        rotate_left
        · intro w hSw; (try dsimp only at hSw); go_simp; try with_reducible rfl
        (try simp only [Act.put, List.setIfInBounds_toArray, List.set_cons_zero, List.set_cons_succ])
        refine wpAnyH_take (i := 2) (v := ?_) rfl (by kernel_rfl) (by kernel_rfl) (by kernel_rfl) (fun _ _ _ h => h) (Or.inl ⟨by rfl, ?_⟩) (by assumption) ?_
        rotate_left
        · intro w hSw; (try dsimp only at hSw); go_simp; try with_reducible rfl
        (try simp only [Act.put, List.setIfInBounds_toArray, List.set_cons_zero, List.set_cons_succ])
        refine wpAnyH_take (i := 3) (v := ?_) rfl (by kernel_rfl) (by kernel_rfl) (by kernel_rfl) (fun _ _ _ h => h) (Or.inl ⟨by rfl, ?_⟩) (by assumption) ?_
        rotate_left
        · intro w hSw; (try dsimp only at hSw); go_simp; try with_reducible rfl
        (try simp only [Act.put, List.setIfInBounds_toArray, List.set_cons_zero, List.set_cons_succ])
        refine wpAnyH_take (i := 4) (v := ?_) rfl (by kernel_rfl) (by kernel_rfl) (by kernel_rfl) (fun _ _ _ h => h) (Or.inl ⟨by rfl, ?_⟩) (by assumption) ?_
        rotate_left
        · intro w hSw; (try dsimp only at hSw); go_simp; try with_reducible rfl
        (try simp only [Act.put, List.setIfInBounds_toArray, List.set_cons_zero, List.set_cons_succ])
        refine wpAnyH_take (i := 6) (v := ?_) rfl (by kernel_rfl) (by kernel_rfl) (by kernel_rfl) (fun _ _ _ h => h) (Or.inl ⟨by rfl, ?_⟩) (by assumption) ?_
        rotate_left
        · intro w hSw; (try dsimp only at hSw); go_simp; try with_reducible rfl
        (try simp only [Act.put, List.setIfInBounds_toArray, List.set_cons_zero, List.set_cons_succ])
        refine wpAnyH_take (i := 7) (v := ?_) rfl (by kernel_rfl) (by kernel_rfl) (by kernel_rfl) (fun _ _ _ h => h) (Or.inl ⟨by rfl, ?_⟩) (by assumption) ?_
        rotate_left
        · intro w hSw; (try dsimp only at hSw); go_simp; try with_reducible rfl
        (try simp only [Act.put, List.setIfInBounds_toArray, List.set_cons_zero, List.set_cons_succ])
        refine wpAnyH_take (i := 8) (v := ?_) rfl (by kernel_rfl) (by kernel_rfl) (by kernel_rfl) (fun _ _ _ h => h) (Or.inl ⟨by rfl, ?_⟩) (by assumption) ?_
        rotate_left
        · intro w hSw; (try dsimp only at hSw); go_simp; try with_reducible rfl
        (try simp only [Act.put, List.setIfInBounds_toArray, List.set_cons_zero, List.set_cons_succ])
        refine wpAnyH_take (i := 9) (v := ?_) rfl (by kernel_rfl) (by kernel_rfl) (by kernel_rfl) (fun _ _ _ h => h) (Or.inl ⟨by rfl, ?_⟩) (by assumption) ?_
        rotate_left
        · intro w hSw; (try dsimp only at hSw); go_simp; try with_reducible rfl
        (try simp only [Act.put, List.setIfInBounds_toArray, List.set_cons_zero, List.set_cons_succ])
        refine wpAnyH_take (i := 10) (v := ?_) rfl (by kernel_rfl) (by kernel_rfl) (by kernel_rfl) (fun _ _ _ h => h) (Or.inl ⟨by rfl, ?_⟩) (by assumption) ?_
        rotate_left
        · intro w hSw; (try dsimp only at hSw); go_simp; try with_reducible rfl
        (try simp only [Act.put, List.setIfInBounds_toArray, List.set_cons_zero, List.set_cons_succ])
        refine wpAnyH_ready (rs := [5, 11]) (by kernel_rfl) (by simp) ?_
        refine AllReadyH.cons rfl (fun K hK => ?_) ?_
        · go_simp
          refine hK.out _ _ (by assumption) (fun hHeld => ?_)
          clear hK K
          (try simp only [Act.put, List.setIfInBounds_toArray, List.set_cons_zero, List.set_cons_succ])
          refine wpAnyH_ready (rs := [11]) (by kernel_rfl) (by simp) ?_
          refine AllReadyH.cons rfl (fun K hK => ?_) ?_
          · go_simp
            refine (Mul8_any c z _).mono ?_
            rintro e w5 ⟨rfl, hB5⟩
            obtain ⟨g1, g2⟩ := hst2 _ (hWd.trans hB5)
            refine hK.out _ _ (hSa _ hB5) (fun hHeld => ?_)
            clear hK K
            (try simp only [Act.put, List.setIfInBounds_toArray, List.set_cons_zero, List.set_cons_succ])
            refine wpAnyH_ready (rs := [12]) (by kernel_rfl) (by simp) ?_
            refine AllReadyH.cons rfl (fun K hK => ?_) ?_
            · go_simp
              refine hK.out _ _ (by assumption) (fun hHeld => ?_)
              clear hK K
              (try simp only [Act.put, List.setIfInBounds_toArray, List.set_cons_zero, List.set_cons_succ])
              refine wpAnyH_ready (rs := [13]) (by kernel_rfl) (by simp) ?_
              refine AllReadyH.cons rfl (fun K hK => ?_) ?_
              · go_simp
                refine hK.out _ _ (by assumption) (fun hHeld => ?_)
                clear hK K
                (try simp only [Act.put, List.setIfInBounds_toArray, List.set_cons_zero, List.set_cons_succ])
                refine wpAnyH_ready (rs := [14]) (by kernel_rfl) (by simp) ?_
                refine AllReadyH.cons rfl (fun K hK => ?_) ?_
                · go_simp
                  refine hK.out _ _ (hSb _ _ (by assumption)) (fun hHeld => ?_)
                  clear hK K
                  (try simp only [Act.put, List.setIfInBounds_toArray, List.set_cons_zero, List.set_cons_succ])
                  refine wpAnyH_done (by kernel_rfl) ?_ _
                  obtain ⟨t1, t2, t3, t4⟩ := hfin w5 (hWd.trans hB5)
                  gi_wp2
                  exact ⟨t1, t2, t3, t4⟩
                exact AllReadyH.nil
              exact AllReadyH.nil
            exact AllReadyH.nil
          exact AllReadyH.nil
        refine AllReadyH.cons rfl (fun K hK => ?_) ?_
        · go_simp
          refine (Mul8_any c z _).mono ?_
          rintro e w5 ⟨rfl, hB5⟩
          obtain ⟨g1, g2⟩ := hst2 _ (hWd.trans hB5)
          refine hK.out _ _ (hSa _ hB5) (fun hHeld => ?_)
          clear hK K
          (try simp only [Act.put, List.setIfInBounds_toArray, List.set_cons_zero, List.set_cons_succ])
          refine wpAnyH_ready (rs := [5]) (by kernel_rfl) (by simp) ?_
          refine AllReadyH.cons rfl (fun K hK => ?_) ?_
          · go_simp
            refine hK.out _ _ (by assumption) (fun hHeld => ?_)
            clear hK K
            (try simp only [Act.put, List.setIfInBounds_toArray, List.set_cons_zero, List.set_cons_succ])
            refine wpAnyH_ready (rs := [12]) (by kernel_rfl) (by simp) ?_
            refine AllReadyH.cons rfl (fun K hK => ?_) ?_
            · go_simp
              refine hK.out _ _ (by assumption) (fun hHeld => ?_)
              clear hK K
              (try simp only [Act.put, List.setIfInBounds_toArray, List.set_cons_zero, List.set_cons_succ])
              refine wpAnyH_ready (rs := [13]) (by kernel_rfl) (by simp) ?_
              refine AllReadyH.cons rfl (fun K hK => ?_) ?_
              · go_simp
                refine hK.out _ _ (by assumption) (fun hHeld => ?_)
                clear hK K
                (try simp only [Act.put, List.setIfInBounds_toArray, List.set_cons_zero, List.set_cons_succ])
                refine wpAnyH_ready (rs := [14]) (by kernel_rfl) (by simp) ?_
                refine AllReadyH.cons rfl (fun K hK => ?_) ?_
                · go_simp
                  refine hK.out _ _ (hSb _ _ (by assumption)) (fun hHeld => ?_)
                  clear hK K
                  (try simp only [Act.put, List.setIfInBounds_toArray, List.set_cons_zero, List.set_cons_succ])
                  refine wpAnyH_done (by kernel_rfl) ?_ _
                  obtain ⟨t1, t2, t3, t4⟩ := hfin w5 (hWd.trans hB5)
                  gi_wp2
                  exact ⟨t1, t2, t3, t4⟩
                exact AllReadyH.nil
              exact AllReadyH.nil
            exact AllReadyH.nil
          exact AllReadyH.nil
        exact AllReadyH.nil
      case done =>
        rintro D ys W' hD rfl ⟨hr, hk⟩ hK
        have hkz := keep_size hk
        have hnb := hk.boxed hbB hbB.lt (by omega)
        have cbn := hnb.cell
        have cnew := (Boxed.new W' 3 (.int .i64 n)).cell
        have fnew := (Boxed.new W' 3 (.int .i64 n)).frozen
        have hwn : IntKind.i64.wrap ((n : Int) - 1) = (n : Int) - 1 := IntWalk.i64_in _ (by omega)
        have hID := (hIB.rest hk (Nat.le_refl _) _ hr (by omega) (by omega) (by omega) (fun a ha => by have := hne a ha; omega)).mark hK (by omega) (fun d hd => Nat.lt_of_lt_of_le (hIB.marks_lt d hd) hD)
        have hIE := hID.below (below_alloc W' (.cells #[.int .i64 ((n : Int) - 1)] 3))
        have hbE := Boxed.new W' 3 (.int .i64 ((n : Int) - 1))
        have eS : dstep q1 d n S = ((fun k => if k = n then c else S.1 k), acc n (fun i => ma c (C q1 i)) S.2 (nzS q1 q1.length)) := by
          have e1 : dcof q1 d n S = c := by first | exact Hcof.out | exact Hcof.out.trans Hc.out
          simp only [dstep]
          rw [e1]
        have eM : (M : Int) - ((j + 1 : Nat) : Int) = (n : Int) - 1 := by have := Hn.out; omega
        clear hID hIB hbB hr hk hK hnb
        gi_wp2
        rw [HI.out]
        refine ⟨⟨_, _, _, _, _, _, _, _, _, _, _, _, _, _, _, _, _, _, _, _, _, _, _, _, _, _, _, _, _, _, _, _, _, _, _, _, _, _, _, _, _, _, _, _, _, _, _, _, _, _, _, _, _, _, _, _, _, _, _, W'.heap.size, j + 1, D :: ds, by have := Hn.out; omega, by simp [hds], by omega, by rw [eM]; exact hbE, by rw [Hdst.out, eS]; exact hIE, rfl⟩, ?_⟩
        have h1 := Hn.out
        simp [hds]
        omega
end Go.Proofs.Ytgidhkfmelpjfaa
