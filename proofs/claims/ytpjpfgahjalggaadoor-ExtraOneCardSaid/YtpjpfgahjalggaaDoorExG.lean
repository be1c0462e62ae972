/- Contract of extra.Find, whole. -/
import Derived.Test.YtpjpfgahjalggaaDoorExF
namespace Go.Proofs.YtpjpfgahjalggaaDoor
open Go.RowKit Go.Shelf
attribute [local go_sem] Oper.semAt_some run_store_func

abbrev EFindIs (y : List UInt8) (a b c : Int) (W : World) : Ending → World → Prop := fun e w' => Below W.heap.size W w' ∧
  ((∃ p v, findE y a b c = .ok p ∧ e = .returned (.tuple #[v, .int .i64 p, .int .i64 0]) ∧ Sl eB w'.heap.size w' v (delW y p)) ∨ ∃ m, findE y a b c = .error m ∧ e = .returned (.tuple #[.slice none 0 0, .int .i64 0, .int .i64 m]))
theorem ready_wp {P : Program} {o : Oper} {a : Act} {w : World} {K : Act → World → Prop} {Q : Exit → Act → World → Prop} {b : Bool} {R : Prop} (hb : b = true) (h : o.wp P a w K Q) : if b = true then o.wp P a w K Q else R := by
  rw [if_pos hb]; exact h
theorem own_below8 {B : Nat} {w w' : World} {v : Value} {bs : List UInt8} (h : Own8 B w v bs) (hB : Below w.heap.size w w') : Own8 B w' v bs := by
  rcases h with ⟨h1, h2⟩
  refine ⟨h1, ?_⟩
  rcases h2 with h2 | ⟨g, cap, cur, e, hb, hg, hl, hc, hs, ht⟩
  · exact .inl h2
  · exact .inr ⟨g, cap, cur, e, hb, (hB.block g (Array.getElem?_eq_some_iff.1 hg).1).trans hg, hl, hc, hs, ht⟩
theorem own_monoB {B B' : Nat} {w : World} {v : Value} {bs : List UInt8} (h : Own8 B w v bs) (hb : B' ≤ B) : Own8 B' w v bs := by
  rcases h with ⟨h1, h2⟩
  refine ⟨h1, ?_⟩
  rcases h2 with h2 | ⟨g, cap, cur, e, hg, h3⟩
  · exact .inl h2
  · exact .inr ⟨g, cap, cur, e, Nat.le_trans hb hg, h3⟩
/-- What holds in Find's return, whichever operations are done. -/
def RetI (w : World) (T : Value → Value → Value → Value → Act) (sy : Value) (x : List UInt8) (p : Nat) (D : Nat → Bool) (a : Act) (w' : World) : Prop :=
  ∃ vx x11 x12 x13 x14, a = T x11 x12 x13 x14 ∧ Below w.heap.size w w' ∧ Boxed w' (w.heap.size + 1) 22 vx ∧ Boxed w' (w.heap.size + 1 + 1) 3 (.int .i64 p) ∧ Boxed w' (w.heap.size + 1 + 1 + 1) 26 (.int .i64 0) ∧
    (D 0 = true → x11 = sy) ∧ (D 1 = true → x12 = .int .i64 p) ∧ (D 2 = true → Own8 (w.heap.size + 1 + 1 + 1 + 1) w' x13 x) ∧ (D 3 = true → x14 = .int .i64 p) ∧ (D 4 = true → D 2 = true ∧ vx = x13)
set_option maxRecDepth 100000 in
set_option maxHeartbeats 4000000 in
theorem EFind_any (y : List UInt8) (a b c : Int) (hreach : y.length ≤ 1000000) (sv : Value) (w : World) (hT : Tab w) (hS : Sl eB w.heap.size w sv y) :
    Calls Tryd.prog 8 #[sv, v3 a b c] w (EFindIs y a b c w) := by
  have hmf : ∀ (fn : Fn) (first cap : Array Value) (w : World), (Instr.makeFunc fn first cap).run Tryd.prog w = .ok (.func fn first cap) w := fun _ _ _ _ => rfl
  have hF := fun v w hT hS => find_any y a b c v w hT hS
  have hWo := fun v z w hS => Without_any v y z hreach w hS
  obtain ⟨A, cap, rfl⟩ := hS.len
  have hcl : (v3 a b c).cells = c3 a b c := rfl
  have hr := Rowed.new w 24 (c3 a b c)
  have hA1 := below_alloc w (.cells (c3 a b c) 24)
  have hA2 := below_alloc (w.alloc (.cells (c3 a b c) 24)) (.cells #[.slice none 0 0] 22)
  have hx := Boxed.new (w.alloc (.cells (c3 a b c) 24)) 22 (.slice none 0 0)
  have hA3 := below_alloc ((w.alloc (.cells (c3 a b c) 24)).alloc (.cells #[.slice none 0 0] 22)) (.cells #[.int .i64 0] 3)
  have hy := Boxed.new ((w.alloc (.cells (c3 a b c) 24)).alloc (.cells #[.slice none 0 0] 22)) 3 (.int .i64 0)
  have hA4 := below_alloc (((w.alloc (.cells (c3 a b c) 24)).alloc (.cells #[.slice none 0 0] 22)).alloc (.cells #[.int .i64 0] 3)) (.cells #[.int .i64 0] 26)
  have hz := Boxed.new (((w.alloc (.cells (c3 a b c) 24)).alloc (.cells #[.slice none 0 0] 22)).alloc (.cells #[.int .i64 0] 3)) 26 (.int .i64 0)
  have hx := (hx.alloc (.cells #[.int .i64 0] 3)).alloc (.cells #[.int .i64 0] 26)
  have hy := hy.alloc (.cells #[.int .i64 0] 26)
  have hr := ((hr.alloc (.cells #[.slice none 0 0] 22)).alloc (.cells #[.int .i64 0] 3)).alloc (.cells #[.int .i64 0] 26)
  have hA := below_trans (below_trans (below_trans hA1 hA2) hA3) hA4
  simp only [World.size_alloc] at hx hy hz
  have hT := hT.below hA
  have hS0 := hS
  have hS := hS.next hA
  clear hA1 hA2 hA3 hA4
  have q0 := hr.cell 0
  have q1 := hr.cell 1
  have q2 := hr.cell 2
  go_enter_defers Tryd.func8, Tryd.ntmps8
  go_wp2_with fail
  have hsz : ((((w.alloc (.cells (c3 a b c) 24)).alloc (.cells #[.slice none 0 0] 22)).alloc (.cells #[.int .i64 0] 3)).alloc (.cells #[.int .i64 0] 26)).heap.size = w.heap.size + 1 + 1 + 1 + 1 := by simp
  generalize (((w.alloc (.cells (c3 a b c) 24)).alloc (.cells #[.slice none 0 0] 22)).alloc (.cells #[.int .i64 0] 3)).alloc (.cells #[.int .i64 0] 26) = w0 at *
  clear q0 q1 q2 hr
  go_at_call 18
  refine (hF _ _ hT hS).mono ?_
  rintro e w1 ⟨hB, ⟨p, hp, rfl⟩ | ⟨m, hm, rfl⟩⟩
  · have hs1 := hB.size
    have hx1 : Boxed w1 (w.heap.size + 1) 22 (.slice none 0 0) := (hB.block _ (by omega)).trans hx
    have hy1 : Boxed w1 (w.heap.size + 1 + 1) 3 (.int .i64 0) := (hB.block _ (by omega)).trans hy
    have hz1 : Boxed w1 (w.heap.size + 1 + 1 + 1) 26 (.int .i64 0) := (hB.block _ (by omega)).trans hz
    have hplt := findE_lt hp
    have Hp := Lib.hid hp
    have yc := hy1.cell
    have yf := hy1.frozen
    have hy2 := hy1.set (.int .i64 (p : Int))
    have hx2 : Boxed (w1.setCell ⟨w.heap.size + 1 + 1, 0, none⟩ (.int .i64 p)) (w.heap.size + 1) 22 (.slice none 0 0) := (Below.heap_setCell w1 ⟨w.heap.size + 1 + 1, 0, none⟩ _ (w.heap.size + 1) (by show w.heap.size + 1 ≠ w.heap.size + 1 + 1; omega)).trans hx1
    have hz2 : Boxed (w1.setCell ⟨w.heap.size + 1 + 1, 0, none⟩ (.int .i64 p)) (w.heap.size + 1 + 1 + 1) 26 (.int .i64 0) := (Below.heap_setCell w1 ⟨w.heap.size + 1 + 1, 0, none⟩ _ (w.heap.size + 1 + 1 + 1) (by show w.heap.size + 1 + 1 + 1 ≠ w.heap.size + 1 + 1; omega)).trans hz1
    have hBs : Below w.heap.size w (w1.setCell ⟨w.heap.size + 1 + 1, 0, none⟩ (.int .i64 p)) := (below_trans hA hB).setCell (p := ⟨w.heap.size + 1 + 1, 0, none⟩) (by show w.heap.size ≤ w.heap.size + 1 + 1; omega) _
    have hS2 := hS0.next hBs
    clear hx hy hz hF hp hx1 hy1 hz1
    go_wp2_with fail
    have hsz1 : w.heap.size + 1 + 1 + 1 + 1 ≤ w1.heap.size := by omega
    have hsz2 : w.heap.size + 1 + 1 + 1 + 1 ≤ (w1.setCell ⟨w.heap.size + 1 + 1, 0, none⟩ (.int .i64 p)).heap.size := by simpa using hsz1
    have hwg : withG y (p : Int) = delW y p := by rw [withG, if_pos (by omega)]; simp
    obtain ⟨T, hT2⟩ : ∃ T : Value → Value → Value → Value → Act, T = fun x11 x12 x13 x14 => { tmps := #[.slice A y.length cap, v3 a b c, undef, .pointer (some ⟨w.heap.size, 0, none⟩), .pointer (some ⟨w.heap.size + 1, 0, none⟩), .pointer (some ⟨w.heap.size + 1 + 1, 0, none⟩), .pointer (some ⟨w.heap.size + 1 + 1 + 1, 0, none⟩), .func (.func 17) #[] #[.pointer (some ⟨w.heap.size + 1, 0, none⟩), .pointer (some ⟨w.heap.size + 1 + 1, 0, none⟩), .pointer (some ⟨w.heap.size + 1 + 1 + 1, 0, none⟩)], .slice A y.length cap, .agg #[.int .i64 a, .int .i64 b, .int .i64 c], .int .i64 p, x11, x12, x13, x14], defers := [{ target := .fn (.func 17) #[.pointer (some ⟨w.heap.size + 1, 0, none⟩), .pointer (some ⟨w.heap.size + 1 + 1, 0, none⟩), .pointer (some ⟨w.heap.size + 1 + 1 + 1, 0, none⟩)], args := #[] }] } := ⟨_, rfl⟩
    have HT := Lib.hid hT2
    clear hT2
    refine wp_region_any (by kernel_rfl) (wpAny_inv (RetI w T (.slice A y.length cap) (delW y p) p) (by kernel_rfl) ?step ?fin _ _ _ _ rfl (by kernel_rfl) ?start)
    case start =>
      refine ⟨.slice none 0 0, undef, undef, undef, undef, by rw [HT.out], below_trans hBs (show Below _ _ _ from ⟨rfl, rfl, rfl, Nat.le_refl _, fun _ _ => rfl⟩), hx2, hy2, hz2, ?_, ?_, ?_, ?_, ?_⟩ <;> (intro h; simp at h)
    case step =>
      intro E a' w' i o ho hDi hdep ⟨vx, x11, x12, x13, x14, ha, hBw, bx, by', bz, g0, g1, g2, g3, g4⟩ K hK
      subst ha
      rw [HT.out] at hK ⊢
      have kx := bx.cell
      have fx := bx.frozen
      have ky := by'.cell
      have fy := by'.frozen
      have kz := bz.cell
      have fz := bz.frozen
      rcases i with _ | _ | _ | _ | _ | _ | _ | i
      all_goals
        simp only [List.getElem?_toArray, List.getElem?_cons_zero, List.getElem?_cons_succ, Option.some.injEq, List.getElem?_nil, reduceCtorEq, Nat.zero_add] at ho
      all_goals
        subst ho
        simp [Region.binds] at hdep
        refine ready_wp rfl ?_
        dsimp only
      · go_simp
        exact hK _ _ ⟨vx, _, x12, x13, x14, rfl, hBw, bx, by', bz, fun _ => rfl, by simpa [upd] using g1, by simpa [upd] using g2, by simpa [upd] using g3, by simpa [upd] using g4⟩
      · go_simp
        exact hK _ _ ⟨vx, x11, _, x13, x14, rfl, hBw, bx, by', bz, by simpa [upd] using g0, fun _ => rfl, by simpa [upd] using g2, by simpa [upd] using g3, by simpa [upd] using g4⟩
      · obtain ⟨e0, e1⟩ : E 0 = true ∧ E 1 = true := by simp_all
        obtain rfl := g0 e0
        obtain rfl := g1 e1
        have hcall := hWo _ (p : Int) w' (hS0.next hBw)
        rw [hwg] at hcall
        go_simp
        refine hcall.mono ?_
        rintro e w2 ⟨v, rfl, hv, hB2⟩
        have hsw : w.heap.size + 1 + 1 + 1 + 1 ≤ w'.heap.size := by have := bz.lt; omega
        refine hK _ _ ⟨vx, _, _, v, x14, rfl, below_trans hBw hB2, (hB2.block _ bx.lt).trans bx, (hB2.block _ by'.lt).trans by', (hB2.block _ bz.lt).trans bz, fun _ => rfl, fun _ => rfl, fun _ => own_monoB hv hsw, by simpa [upd] using g3, fun h => ?_⟩
        have h4' : E 4 = true := by simpa [upd] using h
        rw [(g4 h4').1] at hDi
        cases hDi
      · go_simp
        exact hK _ _ ⟨vx, x11, x12, x13, _, rfl, hBw, bx, by', bz, by simpa [upd] using g0, by simpa [upd] using g1, by simpa [upd] using g2, fun _ => rfl, by simpa [upd] using g4⟩
      · have e2 : E 2 = true := by simp_all
        have hv := g2 e2
        obtain ⟨A', k', rfl⟩ := hv.sl.len
        have hb1 := bx.set (.slice A' (delW y p).length k')
        have hb2 : Boxed (w'.setCell ⟨w.heap.size + 1, 0, none⟩ (.slice A' (delW y p).length k')) (w.heap.size + 1 + 1) 3 (.int .i64 p) := (Below.heap_setCell w' ⟨w.heap.size + 1, 0, none⟩ _ (w.heap.size + 1 + 1) (by show w.heap.size + 1 + 1 ≠ w.heap.size + 1; omega)).trans by'
        have hb3 : Boxed (w'.setCell ⟨w.heap.size + 1, 0, none⟩ (.slice A' (delW y p).length k')) (w.heap.size + 1 + 1 + 1) 26 (.int .i64 0) := (Below.heap_setCell w' ⟨w.heap.size + 1, 0, none⟩ _ (w.heap.size + 1 + 1 + 1) (by show w.heap.size + 1 + 1 + 1 ≠ w.heap.size + 1; omega)).trans bz
        have hv2 : Own8 (w.heap.size + 1 + 1 + 1 + 1) (w'.setCell ⟨w.heap.size + 1, 0, none⟩ (.slice A' (delW y p).length k')) (.slice A' (delW y p).length k') (delW y p) := ownsRow_setCell_below hv (by show w.heap.size + 1 < _; omega) _
        have hBn := hBw.setCell (p := ⟨w.heap.size + 1, 0, none⟩) (by show w.heap.size ≤ w.heap.size + 1; omega) (.slice A' (delW y p).length k')
        go_simp
        exact hK _ _ ⟨_, _, _, _, x14, rfl, hBn, hb1, hb2, hb3, fun _ => rfl, fun _ => rfl, fun _ => hv2, by simpa [upd] using g3, fun _ => ⟨by simpa [upd] using e2, rfl⟩⟩
      · have e3 : E 3 = true := by simp_all
        obtain rfl := g3 e3
        have hb1 : Boxed (w'.setCell ⟨w.heap.size + 1 + 1, 0, none⟩ (.int .i64 p)) (w.heap.size + 1) 22 vx := (Below.heap_setCell w' ⟨w.heap.size + 1 + 1, 0, none⟩ _ (w.heap.size + 1) (by show w.heap.size + 1 ≠ w.heap.size + 1 + 1; omega)).trans bx
        have hb2 := by'.set (.int .i64 (p : Int))
        have hb3 : Boxed (w'.setCell ⟨w.heap.size + 1 + 1, 0, none⟩ (.int .i64 p)) (w.heap.size + 1 + 1 + 1) 26 (.int .i64 0) := (Below.heap_setCell w' ⟨w.heap.size + 1 + 1, 0, none⟩ _ (w.heap.size + 1 + 1 + 1) (by show w.heap.size + 1 + 1 + 1 ≠ w.heap.size + 1 + 1; omega)).trans bz
        have hBn := hBw.setCell (p := ⟨w.heap.size + 1 + 1, 0, none⟩) (by show w.heap.size ≤ w.heap.size + 1 + 1; omega) (.int .i64 (p : Int))
        have hv2 : E 2 = true → Own8 (w.heap.size + 1 + 1 + 1 + 1) (w'.setCell ⟨w.heap.size + 1 + 1, 0, none⟩ (.int .i64 p)) x13 (delW y p) := fun e2 => ownsRow_setCell_below (g2 e2) (by show w.heap.size + 1 + 1 < _; omega) _
        go_simp
        exact hK _ _ ⟨vx, _, _, x13, _, rfl, hBn, hb1, hb2, hb3, fun _ => rfl, fun _ => rfl, by simpa [upd] using hv2, fun _ => rfl, by simpa [upd] using g4⟩
      · have hb1 : Boxed (w'.setCell ⟨w.heap.size + 1 + 1 + 1, 0, none⟩ (.int .i64 0)) (w.heap.size + 1) 22 vx := (Below.heap_setCell w' ⟨w.heap.size + 1 + 1 + 1, 0, none⟩ _ (w.heap.size + 1) (by show w.heap.size + 1 ≠ w.heap.size + 1 + 1 + 1; omega)).trans bx
        have hb2 : Boxed (w'.setCell ⟨w.heap.size + 1 + 1 + 1, 0, none⟩ (.int .i64 0)) (w.heap.size + 1 + 1) 3 (.int .i64 p) := (Below.heap_setCell w' ⟨w.heap.size + 1 + 1 + 1, 0, none⟩ _ (w.heap.size + 1 + 1) (by show w.heap.size + 1 + 1 ≠ w.heap.size + 1 + 1 + 1; omega)).trans by'
        have hb3 := bz.set (.int .i64 (0 : Int))
        have hBn := hBw.setCell (p := ⟨w.heap.size + 1 + 1 + 1, 0, none⟩) (by show w.heap.size ≤ w.heap.size + 1 + 1 + 1; omega) (.int .i64 (0 : Int))
        have hv2 : E 2 = true → Own8 (w.heap.size + 1 + 1 + 1 + 1) (w'.setCell ⟨w.heap.size + 1 + 1 + 1, 0, none⟩ (.int .i64 0)) x13 (delW y p) := fun e2 => ownsRow_setCell_below (g2 e2) (by show w.heap.size + 1 + 1 + 1 < _; omega) _
        go_simp
        exact hK _ _ ⟨vx, _, _, x13, _, rfl, hBn, hb1, hb2, hb3, fun _ => rfl, fun _ => rfl, by simpa [upd] using hv2, fun _ => rfl, by simpa [upd] using g4⟩
    case fin =>
      intro E a' w' hall ⟨vx, x11, x12, x13, x14, ha, hBw, bx, by', bz, g0, g1, g2, g3, g4⟩
      obtain ⟨-, rfl⟩ := g4 (hall 4 (by decide))
      have hv := g2 (hall 2 (by decide))
      subst ha
      rw [HT.out]
      have kx := bx.cell
      have ky := by'.cell
      have kz := bz.cell
      go_wp2_with fail
      refine leaves_cons (f := 17) (args := #[.pointer (some ⟨w.heap.size + 1, 0, none⟩), .pointer (some ⟨w.heap.size + 1 + 1, 0, none⟩), .pointer (some ⟨w.heap.size + 1 + 1 + 1, 0, none⟩)]) (by simp) (by simp [go_sem]) ?_
      refine (ecatch_idle ⟨w.heap.size + 1, 0, none⟩ ⟨w.heap.size + 1 + 1, 0, none⟩ ⟨w.heap.size + 1 + 1 + 1, 0, none⟩ _).mono ?_
      rintro e u' w'' ⟨rfl, rfl, rfl⟩
      refine ⟨.tuple #[vx, .int .i64 p, .int .i64 0], ?_, hBw, .inl ⟨p, vx, Hp.out, rfl, Sl.of_own hv⟩⟩
      simp [results, Tryd.f8, go_sem, kx, ky, kz]
  · have hs1 := hB.size
    have hx1 : Boxed w1 (w.heap.size + 1) 22 (.slice none 0 0) := (hB.block _ (by omega)).trans hx
    have hy1 : Boxed w1 (w.heap.size + 1 + 1) 3 (.int .i64 0) := (hB.block _ (by omega)).trans hy
    have hz1 : Boxed w1 (w.heap.size + 1 + 1 + 1) 26 (.int .i64 0) := (hB.block _ (by omega)).trans hz
    have Hm := Lib.hid hm
    have hx2 := hx1.set (.slice none 0 0)
    have hy2 : Boxed (w1.setCell ⟨w.heap.size + 1, 0, none⟩ (.slice none 0 0)) (w.heap.size + 1 + 1) 3 (.int .i64 0) := (Below.heap_setCell w1 ⟨w.heap.size + 1, 0, none⟩ _ (w.heap.size + 1 + 1) (by show w.heap.size + 1 + 1 ≠ w.heap.size + 1; omega)).trans hy1
    have hx3 : Boxed ((w1.setCell ⟨w.heap.size + 1, 0, none⟩ (.slice none 0 0)).setCell ⟨w.heap.size + 1 + 1, 0, none⟩ (.int .i64 0)) (w.heap.size + 1) 22 (.slice none 0 0) := (Below.heap_setCell _ ⟨w.heap.size + 1 + 1, 0, none⟩ _ (w.heap.size + 1) (by show w.heap.size + 1 ≠ w.heap.size + 1 + 1; omega)).trans hx2
    have hy3 := hy2.set (.int .i64 (0 : Int))
    have hz2 : Boxed (w1.setCell ⟨w.heap.size + 1, 0, none⟩ (.slice none 0 0)) (w.heap.size + 1 + 1 + 1) 26 (.int .i64 0) := (Below.heap_setCell w1 ⟨w.heap.size + 1, 0, none⟩ _ (w.heap.size + 1 + 1 + 1) (by show w.heap.size + 1 + 1 + 1 ≠ w.heap.size + 1; omega)).trans hz1
    have hz3 : Boxed ((w1.setCell ⟨w.heap.size + 1, 0, none⟩ (.slice none 0 0)).setCell ⟨w.heap.size + 1 + 1, 0, none⟩ (.int .i64 0)) (w.heap.size + 1 + 1 + 1) 26 (.int .i64 0) := (Below.heap_setCell _ ⟨w.heap.size + 1 + 1, 0, none⟩ _ (w.heap.size + 1 + 1 + 1) (by show w.heap.size + 1 + 1 + 1 ≠ w.heap.size + 1 + 1; omega)).trans hz2
    have hx4 : Boxed (((w1.setCell ⟨w.heap.size + 1, 0, none⟩ (.slice none 0 0)).setCell ⟨w.heap.size + 1 + 1, 0, none⟩ (.int .i64 0)).setCell ⟨w.heap.size + 1 + 1 + 1, 0, none⟩ (.int .i64 m)) (w.heap.size + 1) 22 (.slice none 0 0) := (Below.heap_setCell _ ⟨w.heap.size + 1 + 1 + 1, 0, none⟩ _ (w.heap.size + 1) (by show w.heap.size + 1 ≠ w.heap.size + 1 + 1 + 1; omega)).trans hx3
    have hy4 : Boxed (((w1.setCell ⟨w.heap.size + 1, 0, none⟩ (.slice none 0 0)).setCell ⟨w.heap.size + 1 + 1, 0, none⟩ (.int .i64 0)).setCell ⟨w.heap.size + 1 + 1 + 1, 0, none⟩ (.int .i64 m)) (w.heap.size + 1 + 1) 3 (.int .i64 0) := (Below.heap_setCell _ ⟨w.heap.size + 1 + 1 + 1, 0, none⟩ _ (w.heap.size + 1 + 1) (by show w.heap.size + 1 + 1 ≠ w.heap.size + 1 + 1 + 1; omega)).trans hy3
    have hz4 := hz3.set (.int .i64 m)
    have hBf := (((below_trans hA hB).setCell (p := ⟨w.heap.size + 1, 0, none⟩) (by show w.heap.size ≤ w.heap.size + 1; omega) (.slice none 0 0)).setCell (p := ⟨w.heap.size + 1 + 1, 0, none⟩) (by show w.heap.size ≤ w.heap.size + 1 + 1; omega) (.int .i64 (0 : Int))).setCell (p := ⟨w.heap.size + 1 + 1 + 1, 0, none⟩) (by show w.heap.size ≤ w.heap.size + 1 + 1 + 1; omega) (.int .i64 m)
    have kx := hx4.cell
    have ky := hy4.cell
    have kz := hz4.cell
    clear hx hy hz hm hx2 hy2 hz2 hx3 hy3 hz3 hx4 hy4 hz4 hF hWo
    go_wp2
    refine leaves_cons (f := 17) (args := #[.pointer (some ⟨w.heap.size + 1, 0, none⟩), .pointer (some ⟨w.heap.size + 1 + 1, 0, none⟩), .pointer (some ⟨w.heap.size + 1 + 1 + 1, 0, none⟩)]) (by simp) (by simp [go_sem]) ?_
    refine (ecatch_take (w.heap.size + 1) (w.heap.size + 1 + 1) (w.heap.size + 1 + 1 + 1) m _ _ _ w1 (by omega) (by omega) (by omega) hx1 hy1 hz1).mono ?_
    rintro e u' w'' ⟨rfl, rfl, rfl⟩
    refine ⟨.tuple #[.slice none 0 0, .int .i64 0, .int .i64 m], ?_, hBf, .inr ⟨m, Hm.out, rfl⟩⟩
    simp [results, Tryd.f8, go_sem, kx, ky, kz]
end Go.Proofs.YtpjpfgahjalggaaDoor
