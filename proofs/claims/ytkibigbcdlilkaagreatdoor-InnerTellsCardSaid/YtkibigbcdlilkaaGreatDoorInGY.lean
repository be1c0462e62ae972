import Derived.Defers
import Derived.Recover
import Derived.Test.YtkibigbcdlilkaaGreatDoorDTSY
import Derived.Test.YtkibigbcdlilkaaGreatDoorEdCY
import Derived.Test.YtkibigbcdlilkaaGreatDoorInBY
import Derived.Test.YtkibigbcdlilkaaGreatDoorRJY
namespace Go.Proofs.YtkibigbcdlilkaaGreatDoor
open Go.RowKit Go.Shelf
attribute [local go_sem] Oper.semAt_some run_store_func
set_option maxRecDepth 100000 in
set_option maxHeartbeats 2000000 in
theorem near_idle (p q : Addr) (w : World) :
    CallsD Tryz.prog 66 #[.pointer (some p), .pointer (some q)] .returning w fun e u' w' => e = .returned (.tuple #[]) ∧ u' = .returning ∧ w' = w := by
  refine callsD_of_wpS Tryz.func66 rfl fun c₀ cs hu => ?_
  apply wpS_seq
  apply wpS_region
  simp [wpOpsS, go_sem, recoverD, hu, Tryz.ntmps66, Exit.thenS]
  refine wpS_of_wp ?_
  go_wp2
  cases c₀
  simp_all [bodyPostS, results, Tryz.results66]
set_option maxRecDepth 100000 in
set_option maxHeartbeats 2000000 in
theorem near_take (b1 b2 : Nat) (v1 v2 : Value) (w : World) (h12 : b1 ≠ b2) (c1 : Boxed w b1 22 v1) (c2 : Boxed w b2 4 v2) :
    CallsD Tryz.prog 66 #[.pointer (some ⟨b1, 0, none⟩), .pointer (some ⟨b2, 0, none⟩)] (.panicking noneC) w fun e u' w' => e = .returned (.tuple #[]) ∧ u' = .panicking [{ v := .iface 86 (.agg #[]), recovered := true }] ∧
      w' = ((w.alloc (.cells #[] 86)).setCell ⟨b1, 0, none⟩ (.slice none 0 0)).setCell ⟨b2, 0, none⟩ (.bool false) := by
  have hta : ∀ w, (Instr.typeAssert (.iface 86 (.agg #[])) 20 86 true).run Tryz.prog w = .ok (.tuple #[.agg #[], .bool true]) w := fun _ => by kernel_rfl
  have d1 := c1.alloc (.cells #[] 86)
  have d2 := c2.alloc (.cells #[] 86)
  have e2 : Boxed ((w.alloc (.cells #[] 86)).setCell ⟨b1, 0, none⟩ (.slice none 0 0)) b2 4 v2 := (Below.heap_setCell _ ⟨b1, 0, none⟩ _ b2 (fun e => h12 e.symm)).trans d2
  have x1 := d1.cell
  have x2 := d1.frozen
  have y1 := e2.cell
  have y2 := e2.frozen
  clear c1 c2 d1 d2 e2
  refine callsD_of_wpS Tryz.func66 rfl fun c₀ cs hu => ?_
  apply wpS_seq
  apply wpS_region
  simp [wpOpsS, go_sem, recoverD, hu, Tryz.ntmps66, Exit.thenS]
  refine wpS_of_wp ?_
  go_wp2_with fail
  cases c₀
  simp_all [bodyPostS, results, Tryz.results66]
def CandIs (f : Nat) (lb : Array Value) (oc : Option (List UInt8)) (W : World) : Prop :=
 Calls Tryz.prog f lb W fun e w' => Below W.heap.size W w' ∧ ((∃ x v, oc = some x ∧ e = .returned v ∧ Sl eB w'.heap.size w' v x) ∨ (oc = none ∧ e = .panicked noneC))
abbrev NearIs (oc : Option (List UInt8)) (y : List UInt8) (w : World) : Ending → World → Prop := fun e w' => Below w.heap.size w w' ∧
  ((∃ x f v, oc = some x ∧ wfG x = .ok f ∧ e = .returned (.tuple #[v, .bool (nearG x y)]) ∧ Sl eB w'.heap.size w' v (wordL x f) ∧ ∀ k, v.ownBlock = some k → w.heap.size ≤ k) ∨ ((oc = none ∨ ∃ x m, oc = some x ∧ wfG x = .error m) ∧ e = .returned (.tuple #[.slice none 0 0, .bool false])))
theorem word_most {x f : List UInt8} (h : wfG x = .ok f) : (wordL x f).length ≤ 1000 := by
 obtain ⟨⟨-, h8⟩, hl, -⟩ := wfG_ok h
 rw [wordL_length x f hl]
 have h1 := tb_le x.length (by omega)
 have h2 := wb_le x.length (by omega)
 unfold wlongN longN zb
 omega
theorem near_val {x f : List UInt8} {y : List UInt8} (hf : wfG x = .ok f) (hy : y.length ≤ 1000) : decide (dist (Ed.cut (wordL x f)) (Ed.cut y) ≤ 1) = nearG x y := by
 rw [Ed.cut_same _ (word_most hf), Ed.cut_same _ hy]
 unfold nearG
 rw [hf]
def RetN (w : World) (T : Value → Value → Value → Value → Act) (sy wv : Value) (ws : List UInt8) (r : Bool) (D : Nat → Bool) (a : Act) (w' : World) : Prop :=
 ∃ vb x16 x17 x18 x19, a = T x16 x17 x18 x19 ∧ Below w.heap.size w w' ∧ Boxed w' w.heap.size 22 wv ∧ Boxed w' (w.heap.size + 1) 4 vb ∧ Sl eB w'.heap.size w' wv ws ∧
   (D 0 = true → x16 = wv) ∧ (D 1 = true → x17 = wv) ∧ (D 2 = true → x18 = sy) ∧ (D 3 = true → x19 = .bool r) ∧ (D 5 = true → vb = .bool r)
theorem ready_wpN {P : Program} {o : Oper} {a : Act} {w : World} {K : Act → World → Prop} {Q : Exit → Act → World → Prop} {b : Bool} {R : Prop} (hb : b = true) (h : o.wp P a w K Q) : if b = true then o.wp P a w K Q else R := by
 rw [if_pos hb]; exact h
theorem boxed_other {W : World} {b b' : Nat} {t : TypeId} {x y : Value} (h : Boxed W b t x) (hne : b ≠ b') : Boxed (W.setCell ⟨b', 0, none⟩ y) b t x :=
 (Below.heap_setCell _ _ _ _ hne).trans h
set_option maxRecDepth 100000 in
set_option maxHeartbeats 4000000 in
theorem inear_any (f : Nat) (lb : Array Value) (oc : Option (List UInt8)) (y : List UInt8) (hy : y.length ≤ 1000) (sv : Value) (w : World) (hen : ∀ args w, (callFunc f args).run Tryz.prog w = .ok (.enter f args) w) (hT : Tab w) (hTB : TabB w) (hS : Sl eB w.heap.size w sv y)
    (hwork : CandIs f lb oc ((w.alloc (.cells #[.slice none 0 0] 22)).alloc (.cells #[.bool false] 4))) :
    Calls Tryz.prog 42 #[.func (.func f) #[] lb, sv] w (NearIs oc y w) := by
 have hmf : ∀ (fn : Fn) (first cap : Array Value) (w : World), (Instr.makeFunc fn first cap).run Tryz.prog w = .ok (.func fn first cap) w := fun _ _ _ _ => rfl
 obtain ⟨A, cap, rfl⟩ := hS.len
 have hA := below_trans (below_alloc w (.cells #[.slice none 0 0] 22)) (below_alloc (w.alloc (.cells #[.slice none 0 0] 22)) (.cells #[.bool false] 4))
 have hx := (Boxed.new w 22 (.slice none 0 0)).alloc (.cells #[.bool false] 4)
 have hz := Boxed.new (w.alloc (.cells #[.slice none 0 0] 22)) 4 (.bool false)
 rw [World.size_alloc] at hz
 have hs0 : ((w.alloc (.cells #[.slice none 0 0] 22)).alloc (.cells #[.bool false] 4)).heap.size = w.heap.size + 2 := by simp
 unfold CandIs at hwork
 go_enter_defers Tryz.func42, Tryz.ntmps42
 go_wp2_with fail
 generalize (w.alloc (.cells #[.slice none 0 0] 22)).alloc (.cells #[.bool false] 4) = w0 at *
 refine hwork.mono ?_
 clear hwork
 rintro e w1 ⟨hB, ⟨x, v, rfl, rfl, hv⟩ | ⟨rfl, rfl⟩⟩
 · have hB1 := below_trans hA hB
   have hM := WMake_any v x w1 (hT.below hB1) (hTB.below hB1) hv
   obtain ⟨Av, cv, rfl⟩ := hv.len
   go_wp2_with fail
   go_at_call 67
   refine hM.mono ?_
   clear hM
   rintro e w2 ⟨hB2, ⟨f', u, hf, rfl, hu, hfr⟩ | ⟨m, hf, rfl⟩⟩
   · have hB02 := below_trans hB hB2
     have hx2 : Boxed w2 w.heap.size 22 (.slice none 0 0) := (hB02.block _ (by omega)).trans hx
     have hz2 : Boxed w2 (w.heap.size + 1) 4 (.bool false) := (hB02.block _ (by omega)).trans hz
     obtain ⟨Au, cu, rfl⟩ := hu.len
     have hu3 := sl_set1 (b := w.heap.size) hu (fun k hk => by have := hfr k hk; have := hB.size; omega) 0 (.slice Au (wordL x f').length cu)
     have hx3 := hx2.set (.slice Au (wordL x f').length cu)
     have hz3 : Boxed (w2.setCell ⟨w.heap.size, 0, none⟩ (.slice Au (wordL x f').length cu)) (w.heap.size + 1) 4 (.bool false) := boxed_other hz2 (by omega)
     have hB3 : Below w.heap.size w (w2.setCell ⟨w.heap.size, 0, none⟩ (.slice Au (wordL x f').length cu)) := (below_trans hB1 hB2).setCell (p := ⟨w.heap.size, 0, none⟩) (Nat.le_refl _) _
     have hc := hx2.cell
     have hfz := hx2.frozen
     have Hf := Lib.hid hf
     have Hfr := Lib.hid (show ∀ k, (Value.slice Au (wordL x f').length cu).ownBlock = some k → w.heap.size + 1 < k from fun k hk => by have := hfr k hk; have := hB.size; omega)
     clear hf hfr hu hx2 hz2 hB02 hv
     go_wp2_with fail
     generalize w2.setCell ⟨w.heap.size, 0, none⟩ (.slice Au (wordL x f').length cu) = w3 at *
     go_at_call 68
     refine (imust_ok _).mono ?_
     rintro e w' ⟨rfl, rfl⟩
     obtain ⟨T, hT2⟩ : ∃ T : Value → Value → Value → Value → Act, T = fun x16 x17 x18 x19 => { tmps := #[.func (.func f) #[] lb, .slice A y.length cap, undef, undef, .pointer (some ⟨w.heap.size, 0, none⟩), .pointer (some ⟨w.heap.size + 1, 0, none⟩), .int .i64 0, .func (.func 66) #[] #[.pointer (some ⟨w.heap.size, 0, none⟩), .pointer (some ⟨w.heap.size + 1, 0, none⟩)], .tuple #[.slice Au (wordL x f').length cu, .int .i64 0], .func (.func f) #[] lb, .slice Av x.length cv, .tuple #[.slice Au (wordL x f').length cu, .int .i64 0], .slice Au (wordL x f').length cu, .int .i64 0, .int .i64 0, .tuple #[], x16, x17, x18, x19], defers := [{ target := .fn (.func 66) #[.pointer (some ⟨w.heap.size, 0, none⟩), .pointer (some ⟨w.heap.size + 1, 0, none⟩)], args := #[] }] } := ⟨_, rfl⟩
     have HT := Lib.hid hT2
     clear hT2
     go_wp2_with fail
     refine wp_region_any (by kernel_rfl) (wpAny_inv (RetN w T (.slice A y.length cap) (.slice Au (wordL x f').length cu) (wordL x f') (nearG x y)) (by kernel_rfl) ?step ?fin _ _ _ _ rfl (by kernel_rfl) ?start)
     case start =>
      refine ⟨.bool false, undef, undef, undef, undef, by rw [HT.out], below_trans hB3 (show Below _ _ _ from ⟨rfl, rfl, rfl, Nat.le_refl _, fun _ _ => rfl⟩), hx3, hz3, hu3, ?_, ?_, ?_, ?_, ?_⟩ <;> (intro h; simp at h)
     case step =>
      intro E a' w' i o ho hDi hdep ⟨vb, x16, x17, x18, x19, ha, hBw, bx, bz, hsl, g0, g1, g2, g3, g5⟩ K hK
      subst ha
      rw [HT.out] at hK ⊢
      have kx := bx.cell
      have fx := bx.frozen
      have kz := bz.cell
      have fz := bz.frozen
      rcases i with _ | _ | _ | _ | _ | _ | i
      all_goals
       simp only [List.getElem?_toArray, List.getElem?_cons_zero, List.getElem?_cons_succ, Option.some.injEq, List.getElem?_nil, reduceCtorEq, Nat.zero_add] at ho
      all_goals
       subst ho
       simp [Region.binds] at hdep
       refine ready_wpN rfl ?_
       dsimp only
      · go_simp
        exact hK _ _ ⟨vb, _, x17, x18, x19, rfl, hBw, bx, bz, hsl, fun _ => rfl, by simpa [upd] using g1, by simpa [upd] using g2, by simpa [upd] using g3, by simpa [upd] using g5⟩
      · go_simp
        exact hK _ _ ⟨vb, x16, _, x18, x19, rfl, hBw, bx, bz, hsl, by simpa [upd] using g0, fun _ => rfl, by simpa [upd] using g2, by simpa [upd] using g3, by simpa [upd] using g5⟩
      · go_simp
        exact hK _ _ ⟨vb, x16, x17, _, x19, rfl, hBw, bx, bz, hsl, by simpa [upd] using g0, by simpa [upd] using g1, fun _ => rfl, by simpa [upd] using g3, by simpa [upd] using g5⟩
      · obtain ⟨e1, e2⟩ : E 1 = true ∧ E 2 = true := by simp_all
        obtain rfl := g1 e1
        obtain rfl := g2 e2
        have hcall := Ed.Near_any _ _ (wordL x f') y w' hsl (hS.next hBw)
        rw [near_val Hf.out hy] at hcall
        go_simp
        refine hcall.mono ?_
        rintro e w2 ⟨rfl, hB2⟩
        exact hK _ _ ⟨vb, x16, _, _, _, rfl, below_trans hBw hB2, (hB2.block _ bx.lt).trans bx, (hB2.block _ bz.lt).trans bz, hsl.next hB2, by simpa [upd] using g0, fun _ => rfl, fun _ => rfl, fun _ => rfl, by simpa [upd] using g5⟩
      · have e0 : E 0 = true := by simp_all
        obtain rfl := g0 e0
        have hb1 := bx.set (.slice Au (wordL x f').length cu)
        have hb2 := boxed_other (b' := w.heap.size) (y := .slice Au (wordL x f').length cu) bz (by omega)
        have hBn := hBw.setCell (p := ⟨w.heap.size, 0, none⟩) (by show w.heap.size ≤ w.heap.size; omega) (.slice Au (wordL x f').length cu)
        have hsn := sl_set1 (b := w.heap.size) hsl (fun k hk => by have := Hfr.out k hk; omega) 0 (.slice Au (wordL x f').length cu)
        go_simp
        exact hK _ _ ⟨vb, _, _, _, _, rfl, hBn, hb1, hb2, hsn, fun _ => rfl, by first | exact fun _ => rfl | simpa [upd] using g1, by first | exact fun _ => rfl | simpa [upd] using g2, by first | exact fun _ => rfl | simpa [upd] using g3, by simpa [upd] using g5⟩
      · have e3 : E 3 = true := by simp_all
        obtain rfl := g3 e3
        have hb1 := boxed_other (b' := w.heap.size + 1) (y := .bool (nearG x y)) bx (by omega)
        have hb2 := bz.set (.bool (nearG x y))
        have hBn := hBw.setCell (p := ⟨w.heap.size + 1, 0, none⟩) (by show w.heap.size ≤ w.heap.size + 1; omega) (.bool (nearG x y))
        have hsn := sl_set1 (b := w.heap.size + 1) hsl (fun k hk => by have := Hfr.out k hk; omega) 0 (.bool (nearG x y))
        go_simp
        exact hK _ _ ⟨_, _, _, _, _, rfl, hBn, hb1, hb2, hsn, by first | exact fun _ => rfl | simpa [upd] using g0, by first | exact fun _ => rfl | simpa [upd] using g1, by first | exact fun _ => rfl | simpa [upd] using g2, fun _ => rfl, fun _ => rfl⟩
     case fin =>
      intro E a' w' hall ⟨vb, x16, x17, x18, x19, ha, hBw, bx, bz, hsl, g0, g1, g2, g3, g5⟩
      obtain rfl := g5 (hall 5 (by decide))
      subst ha
      rw [HT.out]
      have kx := bx.cell
      have kz := bz.cell
      go_wp2_with fail
      refine leaves_cons (f := 66) (args := #[.pointer (some ⟨w.heap.size, 0, none⟩), .pointer (some ⟨w.heap.size + 1, 0, none⟩)]) (by simp) (by simp [go_sem]) ?_
      refine (near_idle ⟨w.heap.size, 0, none⟩ ⟨w.heap.size + 1, 0, none⟩ _).mono ?_
      rintro e u' w'' ⟨rfl, rfl, rfl⟩
      refine ⟨.tuple #[.slice Au (wordL x f').length cu, .bool (nearG x y)], ?_, hBw, .inl ⟨x, f', _, rfl, Hf.out, rfl, hsl, fun k hk => by have := Hfr.out k hk; omega⟩⟩
      simp [results, Tryz.f42, go_sem, kx, kz]
   · have hB02 := below_trans hB hB2
     have hx1 : Boxed w2 w.heap.size 22 (.slice none 0 0) := (hB02.block _ (by omega)).trans hx
     have hz1 : Boxed w2 (w.heap.size + 1) 4 (.bool false) := (hB02.block _ (by omega)).trans hz
     have hx2 := hx1.set (.slice none 0 0)
     have hz2 := boxed_other (b' := w.heap.size) (y := .slice none 0 0) hz1 (by omega)
     have hBw := (below_trans hA hB02).setCell (p := ⟨w.heap.size, 0, none⟩) (Nat.le_refl _) (.slice none 0 0)
     have hc := hx1.cell
     have hfz := hx1.frozen
     have Hm := Lib.hid hf
     have hme : m ≠ 0 := by rcases wfG_err hf with rfl | rfl <;> omega
     clear hf hx1 hz1
     go_wp2_with fail
     generalize w2.setCell ⟨w.heap.size, 0, none⟩ (.slice none 0 0) = w3 at *
     go_at_call 68
     refine (imust_not m hme _).mono ?_
     rintro e w' ⟨rfl, rfl⟩
     clear hc hfz
     go_wp2
     have hx3 := (hx2.alloc (.cells #[] 86)).set (.slice none 0 0)
     have hz3 := boxed_other (b' := w.heap.size) (y := .slice none 0 0) (hz2.alloc (.cells #[] 86)) (by omega)
     have kx := (boxed_other (b' := w.heap.size + 1) (y := .bool false) hx3 (by omega)).cell
     have kz := (hz3.set (.bool false)).cell
     have hBf : Below w.heap.size w (((w3.alloc (.cells #[] 86)).setCell ⟨w.heap.size, 0, none⟩ (.slice none 0 0)).setCell ⟨w.heap.size + 1, 0, none⟩ (.bool false)) := ((hBw.alloc hBw.size (.cells #[] 86)).setCell (p := ⟨w.heap.size, 0, none⟩) (Nat.le_refl _) _).setCell (p := ⟨w.heap.size + 1, 0, none⟩) (by show w.heap.size ≤ w.heap.size + 1; omega) _
     refine leaves_cons (f := 66) (args := #[.pointer (some ⟨w.heap.size, 0, none⟩), .pointer (some ⟨w.heap.size + 1, 0, none⟩)]) (by simp) (by simp [go_sem]) ?_
     refine (near_take w.heap.size (w.heap.size + 1) _ _ w3 (by omega) hx2 hz2).mono ?_
     rintro e u' w'' ⟨rfl, rfl, rfl⟩
     refine ⟨.tuple #[.slice none 0 0, .bool false], ?_, hBf, .inr ⟨.inr ⟨x, m, rfl, Hm.out⟩, rfl⟩⟩
     simp [results, Tryz.f42, go_sem, kx, kz]
 · have hx2 : Boxed w1 w.heap.size 22 (.slice none 0 0) := (hB.block _ (by omega)).trans hx
   have hz2 : Boxed w1 (w.heap.size + 1) 4 (.bool false) := (hB.block _ (by omega)).trans hz
   have hBw := below_trans hA hB
   go_wp2
   have hx3 := (hx2.alloc (.cells #[] 86)).set (.slice none 0 0)
   have hz3 := boxed_other (b' := w.heap.size) (y := .slice none 0 0) (hz2.alloc (.cells #[] 86)) (by omega)
   have kx := (boxed_other (b' := w.heap.size + 1) (y := .bool false) hx3 (by omega)).cell
   have kz := (hz3.set (.bool false)).cell
   have hBf : Below w.heap.size w (((w1.alloc (.cells #[] 86)).setCell ⟨w.heap.size, 0, none⟩ (.slice none 0 0)).setCell ⟨w.heap.size + 1, 0, none⟩ (.bool false)) := ((hBw.alloc hBw.size (.cells #[] 86)).setCell (p := ⟨w.heap.size, 0, none⟩) (Nat.le_refl _) _).setCell (p := ⟨w.heap.size + 1, 0, none⟩) (by show w.heap.size ≤ w.heap.size + 1; omega) _
   refine leaves_cons (f := 66) (args := #[.pointer (some ⟨w.heap.size, 0, none⟩), .pointer (some ⟨w.heap.size + 1, 0, none⟩)]) (by simp) (by simp [go_sem]) ?_
   refine (near_take w.heap.size (w.heap.size + 1) _ _ w1 (by omega) hx2 hz2).mono ?_
   rintro e u' w'' ⟨rfl, rfl, rfl⟩
   refine ⟨.tuple #[.slice none 0 0, .bool false], ?_, hBf, .inr ⟨.inl rfl, rfl⟩⟩
   simp [results, Tryz.f42, go_sem, kx, kz]
end Go.Proofs.YtkibigbcdlilkaaGreatDoor
namespace Go.Proofs.YtkibigbcdlilkaaGreatDoor
open Go.RowKit Go.Shelf
attribute [local go_sem] Oper.semAt_some run_store_func
def candL (y : List UInt8) (n : Nat) : List Nat := if y.length + 1 < wlongN n ∨ wlongN n + 1 < y.length then [] else [60, 62]
abbrev candV (b1 b2 : Nat) (g : Nat) : Value := .func (.func g) #[] #[.pointer (some ⟨b1, 0, none⟩), .pointer (some ⟨b2, 0, none⟩)]
theorem own_grown {B : Nat} {I : List Nat → World → Prop} (hI : OwnFrom B I) {pre : List Nat} {X Y : World} (h : I pre X) (hB : Below X.heap.size X Y) : I pre Y :=
 hI _ _ _ none h ⟨hB.os, hB.tape, hB.output, hB.size, fun k hk _ => hB.block k hk⟩ (fun r e => by cases e)
def CandPost (J : List Nat → World → Prop) (JS : World → Prop) (xs : List Nat) (e : Ending) (W' : World) : Prop := (∃ v, e = .returned v ∧ JS W') ∨ ((∃ v, e = .returned v) ∧ J xs W')
theorem CandPost.all {J : List Nat → World → Prop} {JS : World → Prop} {xs : List Nat} {W' : World} (v : Value) (h : J xs W') : CandPost J JS xs (.returned v) W' := .inr ⟨⟨v, rfl⟩, h⟩
theorem CandPost.stop {J : List Nat → World → Prop} {JS : World → Prop} {xs : List Nat} {W' : World} (v : Value) (h : JS W') : CandPost J JS xs (.returned v) W' := .inl ⟨v, rfl, h⟩
set_option maxRecDepth 100000 in
set_option maxHeartbeats 4000000 in
theorem cand_seq (b1 b2 : Nat) (A : Option Addr) (cap : Nat) (y : List UInt8) (n : Nat) (h2 : 2 ≤ n) (h8 : n ≤ 800) (hy : y.length ≤ 5000) (w0 : World) (hb1 : b1 < w0.heap.size) (hb2 : b2 < w0.heap.size)
    (c1 : w0.cell? ⟨b1, 0, none⟩ = some (.slice A y.length cap)) (c2 : w0.cell? ⟨b2, 0, none⟩ = some (.int .i64 n)) (Kp : World → World → Prop) :
    SeqI Fence.wide Tryz.prog 59 #[.pointer (some ⟨b1, 0, none⟩), .pointer (some ⟨b2, 0, none⟩)] (fun g : Nat => #[candV b1 b2 g]) Kp (candL y n) none w0 := by
 intro l J JS W hW hJo hY h0
 have k1 : ∀ W', Below W.heap.size W W' → W'.cell? ⟨b1, 0, none⟩ = some (.slice A y.length cap) := fun W' h => (h.cell (p := ⟨b1, 0, none⟩) (by have := hW.size; show b1 < _; omega)).trans ((hW.cell (p := ⟨b1, 0, none⟩) hb1).trans c1)
 have k2 : ∀ W', Below W.heap.size W W' → W'.cell? ⟨b2, 0, none⟩ = some (.int .i64 n) := fun W' h => (h.cell (p := ⟨b2, 0, none⟩) (by have := hW.size; show b2 < _; omega)).trans ((hW.cell (p := ⟨b2, 0, none⟩) hb2).trans c2)
 have hlg := long_most n h8
 have hwl : wlongN n = n + 1 + 3 * longN n := rfl
 have hL := fun (m : Nat) (w : World) => (callsIn_wide (n := m)).2 (WLong_yes n h2 h8 hlg w)
 have hcl : candL y n = if y.length + 1 < wlongN n ∨ wlongN n + 1 < y.length then [] else [60, 62] := rfl
 obtain ⟨X, hX⟩ : ∃ X, candL y n = X := ⟨_, rfl⟩
 rw [hX] at hcl hY ⊢
 clear hX
 generalize longN n = N at *
 generalize wlongN n = M at *
 obtain ⟨m, hm⟩ : ∃ m : Int, m = (y.length : Int) - (M : Int) := ⟨_, rfl⟩
 have hw1 : wrap64 ((y.length : Int) - (M : Int)) = m := by rw [Ex.wrap64_mid _ (by omega) (by omega)]; omega
 have hw2 : IntKind.i64.wrap ((y.length : Int) - (M : Int)) = m := by rw [IntWalk.i64_in _ (by omega)]; omega
 have Hm := Lib.hid hm
 have Hcl := Lib.hid hcl
 clear hm hwl hlg hcl
 suffices key : CallsIn Fence.wide 1 Tryz.prog 59 (#[.func (.yield l) #[] #[]] ++ #[.pointer (some ⟨b1, 0, none⟩), .pointer (some ⟨b2, 0, none⟩)]) W (CandPost J JS X) from
   key.mono fun e W' h => h.elim .inl fun h => .inr (.inl ⟨rfl, h⟩)
 refine callsIn_of_wp Tryz.func59 rfl trivial ?_ rfl
 simp only [Tryz.ntmps59, List.size_toArray, List.length_cons, List.length_nil, Nat.reduceAdd, Nat.reduceSub, Array.replicate_succ, Array.replicate_zero, List.push_toArray, List.append_toArray, List.nil_append, List.cons_append]
 gi_wp2_with fail
 refine wpIn_region_ghost (G := Unit) (fun _ _ W' => Below W.heap.size W W') (fun _ => [(5, .slice A y.length cap), (6, .int .i64 y.length), (7, .int .i64 n), (8, .int .i64 (M : Nat)), (9, .int .i64 m), (4, .int .i64 m)]) ()
  (by kernel_rfl) (by kernel_rfl) (by kernel_rfl) (by kernel_rfl) (fun _ => by kernel_rfl) ?start ?ok ?fin
 case start =>
  intro D hD
  exact ⟨rfl, rfl, rfl, Nat.le_refl _, fun _ _ => rfl⟩
 case ok =>
  intro T hT
  simp only [putAll, Act.put, List.setIfInBounds_toArray, List.set_cons_zero, List.set_cons_succ] at hT
  simp only [ghAllI]
  refine ⟨?_, ?_, ?_, ?_, ?_, ?_, trivial⟩
  all_goals
   refine ghI_same fun D g w' hD hdp hS => ?_
   have q1 := k1 _ hS
   have q2 := k2 _ hS
   rw [hT g]
   clear hT
  · go_simp
  · go_simp
  · go_simp
  · go_simp
    refine ⟨trivial, (hL _ _).mono ?_⟩
    rintro e w2 ⟨rfl, hB⟩
    exact ⟨rfl, hS.trans (hB.mono hS.size)⟩
  · go_simp
  · go_simp
 case fin =>
  intro T hT D g W2 hD hS
  rw [hT g]
  simp only [putAll, Act.put, List.setIfInBounds_toArray, List.set_cons_zero, List.set_cons_succ]
  clear hT
  have hJ := own_grown hJo h0 hS
  clear k1 k2 hL h0 hw1 hw2
  have hcase : (m < -1 ∧ X = []) ∨ (¬ m < -1 ∧ 1 < m ∧ X = []) ∨ (¬ m < -1 ∧ ¬ 1 < m ∧ X = [60, 62]) := by
   have := Hm.out
   by_cases e1 : m < -1
   · exact .inl ⟨e1, by rw [Hcl.out, if_pos (by omega)]⟩
   · by_cases e2 : 1 < m
     · exact .inr (.inl ⟨e1, e2, by rw [Hcl.out, if_pos (by omega)]⟩)
     · exact .inr (.inr ⟨e1, e2, by rw [Hcl.out, if_neg (by omega)]⟩)
  clear Hcl
  rcases hcase with ⟨e1, rfl⟩ | ⟨e1, e2, rfl⟩ | ⟨e1, e2, rfl⟩
  · have d1 := decide_eq_true e1
    gi_wp2_with fail
    refine bodyPost_ret (results_none rfl _ _ _) rfl ?_
    exact .all _ hJ
  · have d1 := decide_eq_false e1
    have d2 := decide_eq_true e2
    gi_wp2_with fail
    refine bodyPost_ret (results_none rfl _ _ _) rfl ?_
    exact .all _ hJ
  · have d1 := decide_eq_false e1
    have d2 := decide_eq_false e2
    obtain ⟨fn, tmps, assign, body, hy, hR⟩ := hY [] _ W2 hJ ⟨[_], rfl⟩
    gi_wp2_with fail
    refine roundIn_room rfl (hR.mono ?_)
    rintro e W3 (⟨rfl, hJ3, -, -⟩ | ⟨rfl, hS3⟩)
    · obtain ⟨fn, tmps, assign, body, hy, hR⟩ := hY _ _ W3 hJ3 ⟨[], rfl⟩
      gi_wp2_with fail
      refine roundIn_room rfl (hR.mono ?_)
      rintro e W4 (⟨rfl, hJ4, -, -⟩ | ⟨rfl, hS4⟩)
      · gi_wp2_with fail
        go_end0
        exact .all _ hJ4
      · gi_wp2_with fail
        go_end0
        exact .stop _ hS4
    · gi_wp2_with fail
      go_end0
      exact .stop _ hS3
end Go.Proofs.YtkibigbcdlilkaaGreatDoor
namespace Go.Proofs.YtkibigbcdlilkaaGreatDoor
open Go.RowKit Go.Shelf
attribute [local go_sem] Oper.semAt_some run_store_func
set_option maxRecDepth 100000 in
set_option maxHeartbeats 2000000 in
theorem cand1_is (b1 b2 : Nat) (A : Option Addr) (cap : Nat) (y : List UInt8) (n : Nat) (hn : n ≤ y.length) (W : World) (k1 : W.cell? ⟨b1, 0, none⟩ = some (.slice A y.length cap)) (k2 : W.cell? ⟨b2, 0, none⟩ = some (.int .i64 n)) (hS : Sl eB W.heap.size W (.slice A y.length cap) y) :
    CandIs 60 #[.pointer (some ⟨b1, 0, none⟩), .pointer (some ⟨b2, 0, none⟩)] (some (y.take n)) W := by
  obtain ⟨A', cap', e, hc, -⟩ := id hS
  injection e with e1 e2 e3
  subst e1 e3
  have hB := behind_any A y.length cap n (by omega) W
  have hSl := hS.upto (p := n) hn
  unfold CandIs
  go_enter Tryz.func60, Tryz.ntmps60
  go_wp2_with fail
  go_at_call 61
  refine hB.mono ?_
  rintro e w' ⟨rfl, rfl⟩
  go_wp2_with fail
  go_ret
  exact ⟨Below.refl _ _, .inl ⟨_, _, rfl, rfl, hSl⟩⟩
set_option maxRecDepth 100000 in
set_option maxHeartbeats 2000000 in
theorem cand2_is (b1 b2 : Nat) (A : Option Addr) (cap : Nat) (y : List UInt8) (n : Nat) (h2 : 2 ≤ n) (h8 : n ≤ 800) (h1 : wlongN n ≤ y.length + 1) (h3 : y.length ≤ wlongN n + 1) (W : World) (k1 : W.cell? ⟨b1, 0, none⟩ = some (.slice A y.length cap)) (k2 : W.cell? ⟨b2, 0, none⟩ = some (.int .i64 n))
    (hT : Tab W) (hTB : TabB W) (hS : Sl eB W.heap.size W (.slice A y.length cap) y) :
    CandIs 62 #[.pointer (some ⟨b1, 0, none⟩), .pointer (some ⟨b2, 0, none⟩)] (amongG y n) W := by
 have hB := among_any y n h2 h8 h1 h3 _ W hT hTB hS
 clear h1 h3 hT hTB hS
 unfold CandIs
 go_enter Tryz.func62, Tryz.ntmps62
 go_wp2_with fail
 go_at_call 63
 refine hB.mono ?_
 rintro e w' ⟨hBw, ⟨x, v, hx, rfl, hv⟩ | ⟨hx, rfl⟩⟩
 · go_wp2_with fail
   go_ret
   exact ⟨hBw, .inl ⟨x, v, hx, rfl, hv⟩⟩
 · exact ⟨rfl, hBw, .inr ⟨hx, rfl⟩⟩
theorem candidates_any (A : Option Addr) (len cap : Nat) (n : Int) (w : World) :
    Calls Tryz.prog 40 #[.slice A len cap, .int .i64 n] w fun e w' => e = .returned (.func (.func 59) #[] #[.pointer (some ⟨w.heap.size, 0, none⟩), .pointer (some ⟨w.heap.size + 1, 0, none⟩)]) ∧ w' = (w.alloc (.cells #[.slice A len cap] 22)).alloc (.cells #[.int .i64 n] 3) := by
  have hmf : ∀ (fn : Fn) (first cap : Array Value) (w : World), (Instr.makeFunc fn first cap).run Tryz.prog w = .ok (.func fn first cap) w := fun _ _ _ _ => rfl
  go_enter Tryz.func40, Tryz.ntmps40
  go_wp2_with fail
  go_ret
  exact ⟨rfl, rfl⟩
def candO (y : List UInt8) (n g : Nat) : Option (List UInt8) := if g = 60 then some ((lettersL y).take n) else amongG (lettersL y) n
def candN (y : List UInt8) (n g : Nat) : Bool := match candO y n g with
 | some x => nearG x y
 | none => false
theorem candL_letters (y : List UInt8) (n : Nat) : candL (lettersL y) n = candL y n := by unfold candL; rw [lettersL_length]
theorem mend_stop {y : List UInt8} {n g : Nat} {pre : List Nat} (hp : pre ++ [g] <+: candL y n) (hno : ∀ h ∈ pre, candN y n h = false) (hg : candN y n g = true) : ∃ x, candO y n g = some x ∧ mendG y n = some x ∧ nearG x y = true := by
 unfold candL at hp
 split at hp
 · exact absurd hp (by intro ⟨t, e⟩; simp at e)
 · rename_i hl
   obtain ⟨t, e⟩ := hp
   rcases pre with _ | ⟨a, _ | ⟨b, pre⟩⟩
   · simp only [List.nil_append, List.cons_append, List.cons.injEq] at e
     obtain ⟨rfl, -⟩ := e
     have ho : candO y n 60 = some ((lettersL y).take n) := rfl
     unfold candN at hg
     rw [ho] at hg
     exact ⟨_, ho, by unfold mendG; rw [if_neg hl, if_pos hg], hg⟩
   · simp only [List.nil_append, List.cons_append, List.cons.injEq] at e
     obtain ⟨rfl, rfl, -⟩ := e
     have h1 := hno _ (List.mem_cons_self ..)
     have ho1 : candO y n 60 = some ((lettersL y).take n) := rfl
     have ho : candO y n 62 = amongG (lettersL y) n := rfl
     unfold candN at hg h1
     rw [ho1] at h1
     rw [ho] at hg ⊢
     cases ha : amongG (lettersL y) n with
     | none => rw [ha] at hg; cases hg
     | some x =>
       rw [ha] at hg
       simp only at hg h1
       exact ⟨x, rfl, by unfold mendG; rw [if_neg hl, if_neg (by rw [h1]; decide), ha]; simp only [if_pos hg], hg⟩
   · simp at e
theorem mend_done {y : List UInt8} {n : Nat} (hno : ∀ h ∈ candL y n, candN y n h = false) : mendG y n = none := by
 unfold candL at hno
 unfold mendG
 split at hno
 · rename_i hl
   rw [if_pos hl]
 · rename_i hl
   rw [if_neg hl]
   have h1 := hno 60 (by simp)
   have h2 := hno 62 (by simp)
   unfold candN candO at h1 h2
   rw [if_pos rfl] at h1
   rw [if_neg (by decide)] at h2
   simp only at h1
   rw [if_neg (by rw [h1]; decide)]
   cases ha : amongG (lettersL y) n with
   | none => rfl
   | some x =>
     rw [ha] at h2
     simp only at h2 ⊢
     rw [if_neg (by rw [h2]; decide)]
end Go.Proofs.YtkibigbcdlilkaaGreatDoor
namespace Go.Proofs.YtkibigbcdlilkaaGreatDoor
open Go.RowKit Go.Shelf
attribute [local go_sem] Oper.semAt_some run_store_func
abbrev MendIs (y : List UInt8) (n : Nat) (w : World) : Ending → World → Prop := fun e w' => Below w.heap.size w w' ∧
  ((∃ x f v, mendG y n = some x ∧ wfG x = .ok f ∧ nearG x y = true ∧ e = .returned (.tuple #[v, .bool true]) ∧ Sl eB w'.heap.size w' v (wordL x f)) ∨ (mendG y n = none ∧ ∃ v, e = .returned (.tuple #[v, .bool false])))
theorem sl_putO {B D : Nat} {W : World} {v : Value} {xs : List UInt8} {o o' : Obj} (h : Sl eB B W v xs) (ho : W.heap[D]? = some o) (hc : o.isCells = false) : Sl eB B (W.putObj D o') v xs := by
 obtain ⟨A, c, rfl, hl, hcs⟩ := h
 refine ⟨A, c, rfl, hl, fun h0 => ?_⟩
 obtain ⟨b, off, rfl, hb, hcell⟩ := hcs h0
 refine ⟨b, off, rfl, hb, fun j x hx => ?_⟩
 have h1 := hcell j x hx
 have hne : b ≠ D := by
  rintro rfl
  unfold World.cell? at h1
  simp only [ho] at h1
  cases o <;> simp [Obj.isCells] at hc h1
 exact (World.cell?_of_block (w := W) (World.putObj_heap_other hne)).trans h1
theorem sl_kp2 {B N g1 g2 : Nat} {w0 W : World} {v : Value} {xs : List UInt8} (h : Sl eB B w0 v xs) (hf : ∀ k, v.ownBlock = some k → k ≠ g1 ∧ k ≠ g2) (hB : B ≤ N) (hN : N ≤ w0.heap.size) (hK : Kp2 N g1 g2 w0 W) : Sl eB W.heap.size W v xs := by
 obtain ⟨A, c, rfl, hl, hcs⟩ := h
 refine ⟨A, c, rfl, hl, fun h0 => ?_⟩
 obtain ⟨b, off, rfl, hb, hcell⟩ := hcs h0
 obtain ⟨n1, n2⟩ := hf b rfl
 exact ⟨b, off, rfl, by have := kp2_size hK; omega, fun j x hx => (World.cell?_of_block (w := w0) (hK.2 b (by omega) n1 n2)).trans (hcell j x hx)⟩
theorem sl_setB {B : Nat} {W : World} {v : Value} {xs : List UInt8} (b : Nat) (h : Sl eB B W v xs) (hn : ∀ k, v.ownBlock = some k → k ≠ b) (j : Nat) (u : Value) : Sl eB B (W.setCell ⟨b, j, none⟩ u) v xs := by
 obtain ⟨A, c, rfl, hc, hcs⟩ := h
 refine ⟨A, c, rfl, hc, fun h0 => ?_⟩
 obtain ⟨g, off, rfl, hg, hcell⟩ := hcs h0
 have hb := hn g rfl
 exact ⟨g, off, rfl, hg, fun i y hy => (World.cell?_of_block (w := W) (Below.heap_setCell _ _ _ _ (by show g ≠ b; exact hb))).trans (hcell i y hy)⟩
theorem cand_near (b1 b2 : Nat) (Al : Option Addr) (cl : Nat) (y : List UInt8) (n g : Nat) (h2 : 2 ≤ n) (h8 : n ≤ 800) (hy : y.length ≤ 1000) (hg : g ∈ candL y n) (sv : Value) (W : World) (hb1 : b1 < W.heap.size) (hb2 : b2 < W.heap.size)
    (k1 : W.cell? ⟨b1, 0, none⟩ = some (.slice Al (lettersL y).length cl)) (k2 : W.cell? ⟨b2, 0, none⟩ = some (.int .i64 n)) (hT : Tab W) (hTB : TabB W) (hL : Sl eB W.heap.size W (.slice Al (lettersL y).length cl) (lettersL y)) (hS : Sl eB W.heap.size W sv y) :
    Calls Tryz.prog 42 #[candV b1 b2 g, sv] W (NearIs (candO y n g) y W) := by
 have hA := below_trans (below_alloc W (.cells #[.slice none 0 0] 22)) (below_alloc _ (.cells #[.bool false] 4))
 have q1 := (hA.cell (p := ⟨b1, 0, none⟩) hb1).trans k1
 have q2 := (hA.cell (p := ⟨b2, 0, none⟩) hb2).trans k2
 have hwl : wlongN n = n + 1 + 3 * longN n := rfl
 unfold candL at hg
 split at hg
 · cases hg
 · rename_i hl
   have hll := lettersL_length y
   have hle : n ≤ (lettersL y).length := by omega
   simp only [List.mem_cons, List.not_mem_nil, or_false] at hg
   rcases hg with rfl | rfl
   · exact inear_any 60 _ (some ((lettersL y).take n)) y hy sv W (enters_of Tryz.func60 (by kernel_rfl) rfl) hT hTB hS (cand1_is b1 b2 Al cl (lettersL y) n hle _ q1 q2 (hL.next hA))
   · exact inear_any 62 _ (amongG (lettersL y) n) y hy sv W (enters_of Tryz.func62 (by kernel_rfl) rfl) hT hTB hS (cand2_is b1 b2 Al cl (lettersL y) n h2 h8 (by omega) (by omega) _ q1 q2 (hT.below hA) (hTB.below hA) (hL.next hA))
set_option maxRecDepth 100000 in
set_option maxHeartbeats 4000000 in
theorem mended_any (y : List UInt8) (n : Nat) (h2 : 2 ≤ n) (h8 : n ≤ 800) (hy : y.length ≤ 1000) (sv : Value) (w : World) (hT : Tab w) (hTB : TabB w) (hS : Sl eB w.heap.size w sv y) :
    Calls Tryz.prog 24 #[sv, .int .i64 n] w (MendIs y n w) := by
  obtain ⟨A, cap, rfl⟩ := hS.len
  have hA := below_trans (below_trans (below_alloc w (.cells #[.slice A y.length cap] 22)) (below_alloc _ (.cells #[.slice none 0 0] 22))) (below_alloc _ (.cells #[.bool false] 4))
  have hq := ((Boxed.new w 22 (.slice A y.length cap)).alloc (.cells #[.slice none 0 0] 22)).alloc (.cells #[.bool false] 4)
  have hx := (Boxed.new (w.alloc (.cells #[.slice A y.length cap] 22)) 22 (.slice none 0 0)).alloc (.cells #[.bool false] 4)
  have hz := Boxed.new ((w.alloc (.cells #[.slice A y.length cap] 22)).alloc (.cells #[.slice none 0 0] 22)) 4 (.bool false)
  simp only [World.size_alloc] at hx hz
  have hs0 : (((w.alloc (.cells #[.slice A y.length cap] 22)).alloc (.cells #[.slice none 0 0] 22)).alloc (.cells #[.bool false] 4)).heap.size = w.heap.size + 3 := by simp
  have hT0 := hT.below hA
  have hTB0 := hTB.below hA
  have hS0 := hS.next hA
  obtain ⟨w0, hw0⟩ : ∃ w0, ((w.alloc (.cells #[.slice A y.length cap] 22)).alloc (.cells #[.slice none 0 0] 22)).alloc (.cells #[.bool false] 4) = w0 := ⟨_, rfl⟩
  rw [hw0] at hA hq hx hz hs0 hT0 hTB0 hS0
  have hL := letters_any (.slice A y.length cap) y (by omega) w0 hT0 hS0
  have kq := hq.cell
  have Hw0 := Lib.hid hw0
  clear hw0
  refine (callsIn_wide (n := 5)).1 ?_
  refine callsIn_of_wp_marks Tryz.func24 rfl trivial ?_ rfl
  simp only [Tryz.ntmps24, List.size_toArray, List.length_cons, List.length_nil, Nat.reduceAdd, Nat.reduceSub, Array.replicate_succ, Array.replicate_zero, List.push_toArray, List.append_toArray, List.nil_append, List.cons_append]
  gi_wp2_with fail
  rw [Hw0.out]
  apply wpIn_scope_straight
  gi_wp2_with fail
  apply wpIn_label
  gi_wp2_with fail
  refine ⟨trivial, ?_⟩
  gi_at_call 41
  refine (callsIn_wide.2 hL).mono ?_
  clear hL
  rintro e w1 ⟨v, rfl, hO, hB1⟩
  have hSl := hO.sl
  obtain ⟨Al, cl, rfl⟩ := hSl.len
  have hbs := fun k hk => own_base hO k hk
  have hC := candidates_any Al (lettersL y).length cl n w1
  clear hO
  gi_wp2_with fail
  refine ⟨trivial, ?_⟩
  gi_at_call 40
  refine (callsIn_wide.2 hC).mono ?_
  clear hC
  rintro e w2 ⟨rfl, hw2⟩
  have hB2 : Below w1.heap.size w1 w2 := by rw [hw2]; exact (below_alloc w1 _).alloc (by simp) _
  have c1 : Boxed w2 w1.heap.size 22 (.slice Al (lettersL y).length cl) := by rw [hw2]; exact (Boxed.new w1 22 _).alloc _
  have c2 : Boxed w2 (w1.heap.size + 1) 3 (.int .i64 n) := by
   rw [hw2]
   have := Boxed.new (w1.alloc (.cells #[.slice Al (lettersL y).length cl] 22)) 3 (.int .i64 n)
   rwa [World.size_alloc] at this
  have hs2 : w2.heap.size = w1.heap.size + 2 := by rw [hw2]; simp
  clear hw2
  have hB02 := below_trans hB1 hB2
  have hBw2 := below_trans hA hB02
  have hq2 : Boxed w2 w.heap.size 22 (.slice A y.length cap) := (hB02.block _ (by omega)).trans hq
  have hx2 : Boxed w2 (w.heap.size + 1) 22 (.slice none 0 0) := (hB02.block _ (by omega)).trans hx
  have hz2 : Boxed w2 (w.heap.size + 1 + 1) 4 (.bool false) := (hB02.block _ (by omega)).trans hz
  have hs1 := hB1.size
  have hTw := hT.below hBw2
  have hTBw := hTB.below hBw2
  have hSlw := hSl.next hB2
  have hseq := cand_seq w1.heap.size (w1.heap.size + 1) Al cl (lettersL y) n h2 h8 (by rw [lettersL_length]; omega) w2 c1.lt c2.lt c1.cell c2.cell (fun _ _ => True)
  rw [candL_letters] at hseq
  gi_wp2_with fail
  refine wpIn_range_J (gf := 59) (lb := #[.pointer (some ⟨w1.heap.size, 0, none⟩), .pointer (some ⟨w1.heap.size + 1, 0, none⟩)]) rfl rfl trivial rfl (enters_of Tryz.func59 (by kernel_rfl) rfl)
   hseq (fun _ _ _ _ _ => trivial) (fun _ _ _ _ _ _ _ => trivial) (Below.refl _ _) (fun _ => rfl)
   (fun (pre : List Nat) W => ((∀ g ∈ pre, candN y n g = false) ∧ Kp2 w2.heap.size (w.heap.size + 1) (w.heap.size + 1 + 1) w2 W) ∧ (∃ A n c, Boxed W (w.heap.size + 1) 22 (.slice A n c)) ∧ Boxed W (w.heap.size + 1 + 1) 4 (.bool false))
   (fun c' W => (c' = .exit 0 ∧ ∃ x f v, mendG y n = some x ∧ wfG x = .ok f ∧ nearG x y = true ∧ Boxed W (w.heap.size + 1) 22 v ∧ Sl eB W.heap.size W v (wordL x f) ∧ Boxed W (w.heap.size + 1 + 1) 4 (.bool true) ∧ ∀ k, v.ownBlock = some k → w2.heap.size ≤ k) ∧ Below w.heap.size w W)
   ?own1 ⟨⟨by simp, kp2_of (Below.refl _ _)⟩, ⟨_, _, _, hx2⟩, hz2⟩
   (fun c' D W o o' hD ho hc ⟨⟨hc', x, f, v, e1, e2, e3, e4, e5, e6, e7⟩, e8⟩ => ⟨⟨hc', x, f, v, e1, e2, e3, (World.putObj_heap_other (by omega)).trans e4, ?sl1, (World.putObj_heap_other (by omega)).trans e6, e7⟩, Ex.below_put2 e8 o' (by omega)⟩)
   ?act1 ?assign1 ?body1 ?done1 ?stop1 ?pan1
  case sl1 =>
   have hsz : (W.putObj D o').heap.size = W.heap.size := by simp [World.putObj]
   rw [hsz]
   exact sl_putO e5 ho hc
  case own1 =>
   rintro pre X Y row ⟨⟨a1, a2⟩, ⟨v1, v2, v3, a3⟩, a4⟩ hg hr
   have hne : ∀ k, k < w2.heap.size → some k ≠ row := fun k hk e => by have := (hr k e.symm).1; omega
   have hXs := kp2_size a2
   have hKg : Kp2 w2.heap.size (w.heap.size + 1) (w.heap.size + 1 + 1) X Y := ⟨⟨hg.os, hg.tape, hg.output, hg.size⟩, fun k hk _ _ => hg.block k (by omega) (hne k hk)⟩
   exact ⟨⟨a1, kp2_t a2 hKg⟩, ⟨v1, v2, v3, (hg.block _ (by omega) (hne _ (by omega))).trans a3⟩, (hg.block _ (by omega) (hne _ (by omega))).trans a4⟩
  case act1 => exact fun g => { tmps := #[.slice A y.length cap, .int .i64 n, .pointer (some ⟨w.heap.size, 0, none⟩), undef, .pointer (some ⟨w.heap.size + 1, 0, none⟩), .pointer (some ⟨w.heap.size + 1 + 1, 0, none⟩), candV w1.heap.size (w1.heap.size + 1) g, .slice A y.length cap, .slice Al (lettersL y).length cl, .int .i64 n, .func (.func 59) #[] #[.pointer (some ⟨w1.heap.size, 0, none⟩), .pointer (some ⟨w1.heap.size + 1, 0, none⟩)], candV w1.heap.size (w1.heap.size + 1) g, undef, undef, undef, undef, undef, undef, undef, undef, undef], defers := [] }
  case assign1 =>
   intro l g W K hK
   gi_wp2
   exact hK
  case pan1 =>
   rintro ch D W hf
   cases hf
  case body1 =>
   rintro l pre g W ⟨⟨hno, hK⟩, ⟨v1, v2, v3, bx⟩, bz⟩ hpre
   have hgm : g ∈ candL y n := by
    obtain ⟨t, e⟩ := hpre
    rw [← e]
    simp
   have hKs := kp2_size hK
   have hbq : Boxed W w.heap.size 22 (.slice A y.length cap) := hK.boxed hq2 (by omega) (by omega) (by omega)
   have hBW : Below w.heap.size w W := below_of_kp2 hK hBw2 (by omega) (by omega) (by omega)
   have d1 := (hK.boxed c1 c1.lt (by omega) (by omega)).cell
   have d2 := (hK.boxed c2 c2.lt (by omega) (by omega)).cell
   have hLW := sl_kp2 hSlw (fun k hk => by have := hbs k hk; omega) (Nat.le_refl _) (Nat.le_refl _) hK
   have hN := cand_near w1.heap.size (w1.heap.size + 1) Al cl y n g h2 h8 hy hgm (.slice A y.length cap) W (by omega) (by omega) d1 d2 (hT.below hBW) (hTB.below hBW) hLW (hS.next hBW)
   have kq := hbq.cell
   have Hno := Lib.hid hno
   have Hpre := Lib.hid hpre
   clear d1 d2 hLW hno hpre hgm hseq
   gi_wp2_with fail
   refine ⟨trivial, ?_⟩
   gi_at_call 42
   refine (CallsIn.inRound l (callsIn_wide.2 hN)).mono ?_
   clear hN
   rintro e W3 ⟨hB3, ⟨x, f, v, ho, hf, rfl, hv, hfr⟩ | ⟨hnn, rfl⟩⟩
   · have hbx : Boxed W3 (w.heap.size + 1) 22 (.slice v1 v2 v3) := (hB3.block _ (by omega)).trans bx
     have hbz : Boxed W3 (w.heap.size + 1 + 1) 4 (.bool false) := (hB3.block _ (by omega)).trans bz
     obtain ⟨Av, cv, rfl⟩ := hv.len
     have st : ∀ b : Bool, Kp2 w2.heap.size (w.heap.size + 1) (w.heap.size + 1 + 1) W ((W3.setCell ⟨w.heap.size + 1, 0, none⟩ (.slice Av (wordL x f).length cv)).setCell ⟨w.heap.size + 1 + 1, 0, none⟩ (.bool b)) ∧ KeepsFrom w2.heap.size W ((W3.setCell ⟨w.heap.size + 1, 0, none⟩ (.slice Av (wordL x f).length cv)).setCell ⟨w.heap.size + 1 + 1, 0, none⟩ (.bool b)) ∧
         Boxed ((W3.setCell ⟨w.heap.size + 1, 0, none⟩ (.slice Av (wordL x f).length cv)).setCell ⟨w.heap.size + 1 + 1, 0, none⟩ (.bool b)) (w.heap.size + 1) 22 (.slice Av (wordL x f).length cv) ∧ Boxed ((W3.setCell ⟨w.heap.size + 1, 0, none⟩ (.slice Av (wordL x f).length cv)).setCell ⟨w.heap.size + 1 + 1, 0, none⟩ (.bool b)) (w.heap.size + 1 + 1) 4 (.bool b) := fun b =>
       ⟨kp2_t (kp2_t (kp2_of (hB3.mono hKs)) (kp2_set1 _ _ _ _ _ _)) (kp2_set2 _ _ _ _ _ _),
        KeepsFrom.trans (keepsFrom_below hB3) (KeepsFrom.trans ((KeepsOthers.setCell W3 ⟨w.heap.size + 1, 0, none⟩ _).from _) ((KeepsOthers.setCell _ ⟨w.heap.size + 1 + 1, 0, none⟩ _).from _)),
        boxed_other (hbx.set _) (by omega), (boxed_other hbz (by omega)).set _⟩
     have kx := hbx.cell
     have fx := hbx.frozen
     have hbz4 := boxed_other (b' := w.heap.size + 1) (y := .slice Av (wordL x f).length cv) hbz (by omega)
     have kz := hbz4.cell
     have fz := hbz4.frozen
     cases hr : nearG x y with
     | true =>
       obtain ⟨s1, s2, s3, s4⟩ := st true
       have hcn : candN y n g = true := by unfold candN; rw [ho]; exact hr
       obtain ⟨x', hx', hmx, -⟩ := mend_stop Hpre.out Hno.out hcn
       rw [ho] at hx'
       obtain rfl := Option.some.inj hx'
       have hsl4 := sl_set1 (b := w.heap.size + 1) hv (fun k hk => by have := hfr k hk; omega) 0 (.slice Av (wordL x f).length cv)
       have hsl5 := sl_set1 (b := w.heap.size + 1 + 1) hsl4 (fun k hk => by have := hfr k hk; omega) 0 (.bool true)
       have hBf := below_of_kp2 (kp2_t hK s1) hBw2 (by omega) (by omega) (by omega)
       have kt := s4.cell
       have Hx := Lib.hid (And.intro s2 (And.intro hmx (And.intro hf (And.intro hr (And.intro s3 (And.intro hsl5 (And.intro s4 hBf)))))))
       clear s1 s2 s3 s4 st hmx hf hsl4 hsl5 hBf hcn hbx hbz hbz4 ho hv
       gi_wp2_with fail
       obtain ⟨s2, hmx, hf, hr, s3, hsl5, s4, hBf⟩ := Hx.out
       exact ⟨s2, ⟨rfl, x, f, _, hmx, hf, hr, s3, hsl5, s4, fun k hk => by have := hfr k hk; omega⟩, hBf⟩
     | false =>
       obtain ⟨s1, s2, s3, s4⟩ := st false
       have hcn : candN y n g = false := by unfold candN; rw [ho]; exact hr
       have kt := s4.cell
       have Hx := Lib.hid (And.intro s1 (And.intro s2 (And.intro s3 (And.intro s4 hcn))))
       clear s1 s2 s3 s4 st hf hcn hbx hbz hbz4 ho hv
       gi_wp2_with fail
       obtain ⟨s1, s2, s3, s4, hcn⟩ := Hx.out
       refine ⟨s2, trivial, ⟨fun h hh => ?_, kp2_t hK s1⟩, ⟨_, _, _, s3⟩, s4⟩
       rcases List.mem_append.1 hh with h1 | h1
       · exact Hno.out h h1
       · obtain rfl := List.mem_singleton.1 h1
         exact hcn
   · have hbx : Boxed W3 (w.heap.size + 1) 22 (.slice v1 v2 v3) := (hB3.block _ (by omega)).trans bx
     have hbz : Boxed W3 (w.heap.size + 1 + 1) 4 (.bool false) := (hB3.block _ (by omega)).trans bz
     have s1 : Kp2 w2.heap.size (w.heap.size + 1) (w.heap.size + 1 + 1) W ((W3.setCell ⟨w.heap.size + 1, 0, none⟩ (.slice none 0 0)).setCell ⟨w.heap.size + 1 + 1, 0, none⟩ (.bool false)) := kp2_t (kp2_t (kp2_of (hB3.mono hKs)) (kp2_set1 _ _ _ _ _ _)) (kp2_set2 _ _ _ _ _ _)
     have s2 : KeepsFrom w2.heap.size W ((W3.setCell ⟨w.heap.size + 1, 0, none⟩ (.slice none 0 0)).setCell ⟨w.heap.size + 1 + 1, 0, none⟩ (.bool false)) := KeepsFrom.trans (keepsFrom_below hB3) (KeepsFrom.trans ((KeepsOthers.setCell W3 ⟨w.heap.size + 1, 0, none⟩ _).from _) ((KeepsOthers.setCell _ ⟨w.heap.size + 1 + 1, 0, none⟩ _).from _))
     have kx := hbx.cell
     have fx := hbx.frozen
     have hbz4 := boxed_other (b' := w.heap.size + 1) (y := .slice none 0 0) hbz (by omega)
     have s3 := boxed_other (b' := w.heap.size + 1 + 1) (y := .bool false) (hbx.set (.slice none 0 0)) (by omega)
     have s4 := hbz4.set (.bool false)
     have kz := hbz4.cell
     have fz := hbz4.frozen
     have hcn : candN y n g = false := by
      unfold candN
      rcases hnn with h | ⟨x, m, h, hm⟩
      · rw [h]
      · rw [h]
        unfold nearG
        simp only [hm]
     have kt := s4.cell
     have Hx := Lib.hid (And.intro s1 (And.intro s2 (And.intro s3 (And.intro s4 hcn))))
     clear s1 s2 s3 s4 hcn hbx hbz hbz4 hnn
     gi_wp2_with fail
     obtain ⟨s1, s2, s3, s4, hcn⟩ := Hx.out
     refine ⟨s2, trivial, ⟨fun h hh => ?_, kp2_t hK s1⟩, ⟨_, _, _, s3⟩, s4⟩
     rcases List.mem_append.1 hh with h1 | h1
     · exact Hno.out h h1
     · obtain rfl := List.mem_singleton.1 h1
       exact hcn
  case done1 =>
   rintro - D W hD ⟨⟨hno, hK⟩, ⟨v1, v2, v3, bx⟩, bz⟩ hk
   have hg := mend_done hno
   have hBW : Below w.heap.size w W := below_of_kp2 hK hBw2 (by omega) (by omega) (by omega)
   have Hg := Lib.hid hg
   clear hno hg hK hseq
   gi_wp2_with fail
   refine wpIn_wide.2 ?_
   refine wp_region_det (fun W' => Below w.heap.size w W' ∧ Boxed W' (w.heap.size + 1) 22 (.slice v1 v2 v3) ∧ Boxed W' (w.heap.size + 1 + 1) 4 (.bool false) ∧ W'.heap[D]? = some (.deferred (some []))) [(19, .slice v1 v2 v3), (20, .bool false)]
     (by kernel_rfl) (by kernel_rfl) (by kernel_rfl) (by kernel_rfl) (by kernel_rfl) ⟨below_trans hBW (show Below _ _ _ from ⟨rfl, rfl, rfl, Nat.le_refl _, fun _ _ => rfl⟩), bx, bz, hk⟩ ?okD ?finD
   case okD =>
    intro a ha
    simp only [putAll, Act.put, List.setIfInBounds_toArray, List.set_cons_zero, List.set_cons_succ] at ha
    subst ha
    simp only [detAll]
    refine ⟨?_, ?_, ?_, ?_, trivial⟩
    all_goals
     rintro W' ⟨e1, e2, e3, e4⟩
     have kx := e2.cell
     have fx := e2.frozen
     have kz := e3.cell
     have fz := e3.frozen
     go_simp
    all_goals first
     | exact ⟨e1, e2, e3, e4⟩
     | exact ⟨e1.setCell (p := ⟨w.heap.size + 1, 0, none⟩) (by show w.heap.size ≤ w.heap.size + 1; omega) _, e2.set _, boxed_other e3 (by omega), (Below.heap_setCell _ _ _ _ (by show D ≠ w.heap.size + 1; omega)).trans e4⟩
     | exact ⟨e1.setCell (p := ⟨w.heap.size + 1 + 1, 0, none⟩) (by show w.heap.size ≤ w.heap.size + 1 + 1; omega) _, boxed_other e2 (by omega), e3.set _, (Below.heap_setCell _ _ _ _ (by show D ≠ w.heap.size + 1 + 1; omega)).trans e4⟩
   case finD =>
    rintro a ha W' ⟨e1, e2, e3, e4⟩
    simp only [putAll, Act.put, List.setIfInBounds_toArray, List.set_cons_zero, List.set_cons_succ] at ha
    subst ha
    have kx := e2.cell
    have kz := e3.cell
    gi_wp2_with fail
    have p2 : Boxed (W'.putObj D (.deferred none)) (w.heap.size + 1) 22 (.slice v1 v2 v3) := (World.putObj_heap_other (by omega)).trans e2
    have p3 : Boxed (W'.putObj D (.deferred none)) (w.heap.size + 1 + 1) 4 (.bool false) := (World.putObj_heap_other (by omega)).trans e3
    have kx := p2.cell
    have kz := p3.cell
    refine ⟨by simp, .inl ⟨_, _, rfl, run_takeDeferred e4, ?_⟩⟩
    refine ⟨.tuple #[.slice v1 v2 v3, .bool false], ?_, Ex.below_put2 e1 _ (by omega), .inr ⟨Hg.out, _, rfl⟩⟩
    simp [results, Tryz.f24, go_sem, kx, kz]
  case stop1 =>
   rintro c' D W hD ⟨⟨rfl, x, f, v, hm, hf, hr, bx, hsl, bz, hv⟩, hBW⟩ hk
   obtain ⟨v1, v3, rfl⟩ := hsl.len
   obtain ⟨v2, hv2⟩ : ∃ v2, v2 = (wordL x f).length := ⟨_, rfl⟩
   rw [← hv2] at bx hsl hv
   have Hg := Lib.hid (And.intro hm (And.intro hf hr))
   clear hm hf hr hseq hv2
   gi_wp2_with fail
   refine wpIn_wide.2 ?_
   refine wp_region_det (fun W' => Below w.heap.size w W' ∧ Boxed W' (w.heap.size + 1) 22 (.slice v1 v2 v3) ∧ Boxed W' (w.heap.size + 1 + 1) 4 (.bool true) ∧ W'.heap[D]? = some (.deferred (some [])) ∧ Sl eB W'.heap.size W' (.slice v1 v2 v3) (wordL x f)) [(19, .slice v1 v2 v3), (20, .bool true)]
     (by kernel_rfl) (by kernel_rfl) (by kernel_rfl) (by kernel_rfl) (by kernel_rfl) ⟨below_trans hBW (show Below _ _ _ from ⟨rfl, rfl, rfl, Nat.le_refl _, fun _ _ => rfl⟩), bx, bz, hk, hsl⟩ ?okS ?finS
   case okS =>
    intro a ha
    simp only [putAll, Act.put, List.setIfInBounds_toArray, List.set_cons_zero, List.set_cons_succ] at ha
    subst ha
    simp only [detAll]
    refine ⟨?_, ?_, ?_, ?_, trivial⟩
    all_goals
     rintro W' ⟨e1, e2, e3, e4, e5⟩
     have kx := e2.cell
     have fx := e2.frozen
     have kz := e3.cell
     have fz := e3.frozen
     go_simp
    all_goals first
     | exact ⟨e1, e2, e3, e4, e5⟩
     | exact ⟨e1.setCell (p := ⟨w.heap.size + 1, 0, none⟩) (by show w.heap.size ≤ w.heap.size + 1; omega) _, e2.set _, boxed_other e3 (by omega), (Below.heap_setCell _ _ _ _ (by show D ≠ w.heap.size + 1; omega)).trans e4, sl_setB (w.heap.size + 1) e5 (fun k hk => by have := hv k hk; omega) 0 _⟩
     | exact ⟨e1.setCell (p := ⟨w.heap.size + 1 + 1, 0, none⟩) (by show w.heap.size ≤ w.heap.size + 1 + 1; omega) _, boxed_other e2 (by omega), e3.set _, (Below.heap_setCell _ _ _ _ (by show D ≠ w.heap.size + 1 + 1; omega)).trans e4, sl_setB (w.heap.size + 1 + 1) e5 (fun k hk => by have := hv k hk; omega) 0 _⟩
   case finS =>
    rintro a ha W' ⟨e1, e2, e3, e4, e5⟩
    simp only [putAll, Act.put, List.setIfInBounds_toArray, List.set_cons_zero, List.set_cons_succ] at ha
    subst ha
    have kx := e2.cell
    have kz := e3.cell
    gi_wp2_with fail
    have p2 : Boxed (W'.putObj D (.deferred none)) (w.heap.size + 1) 22 (.slice v1 v2 v3) := (World.putObj_heap_other (by omega)).trans e2
    have p3 : Boxed (W'.putObj D (.deferred none)) (w.heap.size + 1 + 1) 4 (.bool true) := (World.putObj_heap_other (by omega)).trans e3
    have kx := p2.cell
    have kz := p3.cell
    refine ⟨by simp, .inl ⟨_, _, rfl, run_takeDeferred e4, ?_⟩⟩
    refine ⟨.tuple #[.slice v1 v2 v3, .bool true], ?_, Ex.below_put2 e1 _ (by omega), .inl ⟨x, f, _, Hg.out.1, Hg.out.2.1, Hg.out.2.2, rfl, ?_⟩⟩
    · simp [results, Tryz.f24, go_sem, kx, kz]
    · have hsz : (W'.putObj D (.deferred none)).heap.size = W'.heap.size := by simp [World.putObj]
      rw [hsz]
      exact sl_putO e5 e4 rfl
end Go.Proofs.YtkibigbcdlilkaaGreatDoor
namespace Go.Proofs.YtkibigbcdlilkaaGreatDoor
open Go.RowKit Go.Shelf
attribute [local go_sem] Oper.semAt_some run_store_func
def decG (y : List UInt8) (n : Int) : Except Int (List UInt8) :=
 if 2 ≤ n ∧ n ≤ 800 then (match mendG y n.toNat with
  | some x => .ok x
  | none => .error 130) else .error 2
theorem okO_some {e : Except Int (List UInt8)} {x : List UInt8} (h : okO e = some x) : e = .ok x := by
 cases e with
 | ok a => cases h; rfl
 | error m => cases h
theorem gap_len {y x : List UInt8} {t s : Int} (h : Gp.gapG y t s = .ok x) : x.length = y.length + 1 := by
 unfold Gp.gapG at h
 split at h
 · cases h
 · split at h
   · cases h
   · split at h
     · cases h
     · rename_i p hp
       cases h
       obtain ⟨-, hq, -⟩ := List.find?_range_eq_some.1 hp
       exact insW_length y p _ (by simp at hq; omega)
theorem swap_len {y x : List UInt8} {s u : Int} (h : Sw.swapG y s u = .ok x) : x.length = y.length := by
 unfold Sw.swapG at h
 split at h
 · cases h
 · split at h
   · cases h; rfl
   · unfold Sw.byG at h
     split at h
     · cases h
     · split at h
       · cases h
       · split at h
         · cases h
         · cases h
           exact List.length_set
theorem among_len {y x : List UInt8} {n : Nat} (h : amongG y n = some x) (h2 : 2 ≤ n) (h1 : wlongN n ≤ y.length + 1) (h3 : y.length ≤ wlongN n + 1) : x.length = n := by
 have hwl : wlongN n = n + 1 + 3 * longN n := rfl
 unfold amongG at h
 split at h
 · cases h
 · split at h
   · have := gap_len (okO_some h)
     rw [List.length_take] at this
     omega
   · split at h
     · have := swap_len (okO_some h)
       rw [List.length_take] at this
       omega
     · rename_i a b c _ _ _
       cases hf : Ex.findE (y.take (n + 1)) a b c with
       | error m => rw [hf] at h; cases h
       | ok p =>
         rw [hf] at h
         cases h
         have hp := Ex.findE_lt hf
         have := delW_length (y.take (n + 1)) p hp
         rw [List.length_take] at this hp
         show (delW (y.take (n + 1)) p).length = n
         omega
theorem mend_length {y x : List UInt8} {n : Nat} (h : mendG y n = some x) (h2 : 2 ≤ n) : x.length = n := by
 have hwl : wlongN n = n + 1 + 3 * longN n := rfl
 unfold mendG at h
 split at h
 · cases h
 · rename_i hl
   have hll := lettersL_length y
   split at h
   · cases h
     rw [List.length_take]
     omega
   · split at h
     · cases h
     · rename_i z hz
       split at h
       · cases h
         exact among_len hz h2 (by omega) (by omega)
       · cases h
set_option maxRecDepth 100000 in
set_option maxHeartbeats 2000000 in
theorem decode_arg (n : Int) (h : ¬ (2 ≤ n ∧ n ≤ 800)) (sv : Value) (w : World) :
    Calls Tryz.prog 9 #[sv, .int .i64 n] w fun e w' => e = .returned (.tuple #[.slice none 0 0, .int .i64 2]) ∧ w = w' := by
  have hL := WLong_no n (by omega) w
  clear h
  go_enter Tryz.func9, Tryz.ntmps9
  go_wp2_with fail
  go_at_call 23
  refine hL.mono ?_
  rintro e w' ⟨rfl, rfl⟩
  go_wp2_with fail
  go_ret2
  exact ⟨rfl, rfl⟩
set_option maxRecDepth 100000 in
set_option maxHeartbeats 2000000 in
theorem decode_in (y : List UInt8) (n : Nat) (h2 : 2 ≤ n) (h8 : n ≤ 800) (hy : y.length ≤ 1000) (sv : Value) (w : World) (hT : Tab w) (hTB : TabB w) (hS : Sl eB w.heap.size w sv y) :
    Calls Tryz.prog 9 #[sv, .int .i64 n] w fun e w' => Below w.heap.size w w' ∧ ((∃ x v, mendG y n = some x ∧ e = .returned (.tuple #[v, .int .i64 0]) ∧ Sl eB w'.heap.size w' v x) ∨ (mendG y n = none ∧ e = .returned (.tuple #[.slice none 0 0, .int .i64 130]))) := by
  have hL := WLong_yes n h2 h8 (long_most n h8) w
  have hM := fun w hT hTB hS => mended_any y n h2 h8 hy sv w hT hTB hS
  obtain ⟨M, hM0⟩ : ∃ M, wlongN n = M := ⟨_, rfl⟩
  rw [hM0] at hL
  have d1 : decide ((M : Int) < 0) = false := decide_eq_false (by omega)
  clear hM0
  go_enter Tryz.func9, Tryz.ntmps9
  go_wp2_with fail
  go_at_call 23
  refine hL.mono ?_
  clear hL
  rintro e w1 ⟨rfl, hB1⟩
  have hM1 := hM w1 (hT.below hB1) (hTB.below hB1) (hS.next hB1)
  clear hM
  go_wp2_with fail
  go_at_call 24
  refine hM1.mono ?_
  clear hM1
  rintro e w2 ⟨hB2, ⟨x, f, v, hm, hf, -, rfl, hv⟩ | ⟨hm, v, rfl⟩⟩
  · have hl := mend_length hm h2
    have hB02 := below_trans hB1 hB2
    obtain ⟨Av, cv, rfl, hcv, -⟩ := id hv
    have hwl := wordL_length x f (wfG_ok hf).2.1
    have hnw : n ≤ (wordL x f).length := by rw [hwl, hl]; unfold wlongN; omega
    have hup := hv.upto (p := n) hnw
    have hx : (wordL x f).take n = x := by rw [← hl]; exact word_take x f
    rw [hx] at hup
    have hCl := BClone_any _ x (by omega) w2 hup
    have hnc : n ≤ cv := Nat.le_trans hnw hcv
    have Hm := Lib.hid hm
    clear hm hx hwl hf hv hup hcv hl
    go_wp2_with fail
    go_at_call 25
    refine hCl.mono ?_
    rintro e w3 ⟨u, rfl, hu, hB3⟩
    go_wp2_with fail
    go_ret2
    exact ⟨below_trans hB02 hB3, .inl ⟨x, u, Hm.out, rfl, hu.sl⟩⟩
  · have hB02 := below_trans hB1 hB2
    have Hm := Lib.hid hm
    clear hm
    go_wp2_with fail
    go_ret2
    exact ⟨hB02, .inr ⟨Hm.out, rfl⟩⟩
theorem Decode_any (y : List UInt8) (n : Int) (hy : y.length ≤ 1000) (sv : Value) (w : World) (hT : Tab w) (hTB : TabB w) (hS : Sl eB w.heap.size w sv y) :
    Calls Tryz.prog 9 #[sv, .int .i64 n] w fun e w' => Below w.heap.size w w' ∧ ((∃ x v, decG y n = .ok x ∧ e = .returned (.tuple #[v, .int .i64 0]) ∧ Sl eB w'.heap.size w' v x) ∨ (∃ m, decG y n = .error m ∧ e = .returned (.tuple #[.slice none 0 0, .int .i64 m]))) := by
  unfold decG
  by_cases h : 2 ≤ n ∧ n ≤ 800
  · obtain ⟨k, rfl⟩ : ∃ k : Nat, n = k := ⟨n.toNat, by omega⟩
    refine (decode_in y k (by omega) (by omega) hy sv w hT hTB hS).mono ?_
    rintro e w' ⟨hB, ⟨x, v, hm, rfl, hv⟩ | ⟨hm, rfl⟩⟩
    · exact ⟨hB, .inl ⟨x, v, by rw [if_pos h, Int.toNat_natCast, hm], rfl, hv⟩⟩
    · exact ⟨hB, .inr ⟨130, by rw [if_pos h, Int.toNat_natCast, hm], rfl⟩⟩
  · refine (decode_arg n h sv w).mono ?_
    rintro e w' ⟨rfl, rfl⟩
    exact ⟨Below.refl _ _, .inr ⟨2, by rw [if_neg h], rfl⟩⟩
end Go.Proofs.YtkibigbcdlilkaaGreatDoor
