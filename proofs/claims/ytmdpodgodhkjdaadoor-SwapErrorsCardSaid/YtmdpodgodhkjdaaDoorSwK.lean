/- SwapErrors. -/
import Derived.Test.YtmdpodgodhkjdaaDoorSwI
import Derived.Deep.CutRange
namespace Go.Proofs.YtmdpodgodhkjdaaDoor
open Go.RowKit Go.Shelf
attribute [local go_sem] Oper.semAt_some run_store_func

theorem bad_sums (x : List UInt8) (p : Nat) (c : UInt8) (h2 : 2 ≤ x.length) (h1 : x.length ≤ 1000) (hp : p < x.length) (hc : codeOf c.toNat = -1) : sumsG (x.set p c) = .error 10 := by
  have hl : (x.set p c).length = x.length := by simp
  rcases sums_cases (x.set p c) with ⟨h, _⟩ | ⟨_, _, _, e⟩ | ⟨_, _, h, _⟩
  · exfalso
    unfold mayB at h
    rw [hl, decide_eq_true (by omega), decide_eq_true (by omega)] at h
    cases h
  · exact e
  · exact absurd hc (by have := h p (by rw [hl]; exact hp); rwa [atB_set x p c hp] at this)
theorem long_sums (x : List UInt8) (h : x.length < 2 ∨ 1000 < x.length) : sumsG x = .error 2 := by
  have hm : mayB x.length = false := by
    unfold mayB
    rcases h with h | h
    · rw [decide_eq_false (by omega)]; rfl
    · rw [decide_eq_false (show ¬ ((x.length : Int) ≤ 1000) by omega), Bool.and_false]
  rw [sumsG, if_pos hm]
theorem swapG_err (x : List UInt8) (s u m : Int) (h : sumsG x = .error m) : swapG x s u = .error m := by rw [swapG, findG, h]
theorem byG_err (x : List UInt8) (p : Nat) (c : UInt8) (m : Int) (h1 : x.length ≤ 1000) (hp : p < x.length) (h : sumsG x = .error m) : byG x p c = .error m := by rw [byG, if_neg (by omega), h]
theorem byG_out (x : List UInt8) (z : Int) (c : UInt8) (h : z < 0 ∨ (x.length : Int) ≤ z) : byG x z c = .error 2 := by rw [byG, if_pos (by omega)]
theorem byG_bad (x : List UInt8) (p : Nat) (c : UInt8) (h2 : 2 ≤ x.length) (h1 : x.length ≤ 1000) (hx : FourL x) (hp : p < x.length) (hc : codeOf c.toNat = -1) : byG x p c = .error 10 := by
  rw [byG, if_neg (by omega), four_sums x h2 h1 hx]
  simp only [if_pos hc]
theorem beq_lett {c k : UInt8} (h : c ≠ k) : ((c.toNat : Int) == (k.toNat : Int)) = false := by
  rw [beq_eq_false_iff_ne]
  intro e
  exact h (UInt8.toNat_inj.1 (by omega))
/-- How long a slice is. -/
def lenOf : Value → Nat
  | .slice _ l _ => l
  | _ => 0
theorem out1 (n : Nat) (z : Int) (h0 : 0 ≤ z) (h1 : z ≤ 9223372036854775807) (hn : n ≤ 200) : wrap64 ((n : Int) + z) < 0 ∨ (n : Int) ≤ wrap64 ((n : Int) + z) := by
  unfold wrap64
  omega
theorem out2 (n : Nat) (hn : n ≤ 200) : wrap64 (n : Int) < 0 ∨ (n : Int) ≤ wrap64 (n : Int) := by
  unfold wrap64
  omega
set_option maxRecDepth 100000 in
set_option maxHeartbeats 8000000 in
theorem SwapErrors_main (v0 : Value) (l : List Int) (c : UInt8) (z1 : Int) (w : World) (hS : Sl eI w.heap.size w v0 l) (hT : Tab w) (h2 : 2 ≤ l.length) (h1 : l.length ≤ 200) (hc : codeOf c.toNat = -1) (hzr : z1 ≤ 9223372036854775807) :
    Calls Tryd.prog 12 #[v0, eB c, .int .i64 z1] w fun e w' => e = .returned (.bool true) ∧ Below w.heap.size w w' := by
  have HO1 := Lib.hid (fun h0 => out1 l.length z1 h0 hzr h1)
  have HO2 := Lib.hid (out2 l.length h1)
  clear hzr
  have hw := wakes_any
  have hrw := row_any v0 l (by omega) w hS
  obtain ⟨i0, hi, hz0, hz1, hz2⟩ := info_parts info_u8
  obtain ⟨A0, c0, rfl⟩ := hS.len
  have hxl := textL_length l
  have hx4 := textL_FourL l
  obtain ⟨p, hp, hat1⟩ := at_is z1 l.length (by omega) h1
  have d1 : decide ((l.length : Int) < 2) = false := decide_eq_false (by omega)
  have d2 : decide ((200 : Int) < (l.length : Int)) = false := decide_eq_false (by omega)
  obtain ⟨n65, n67, n71, n84⟩ := code_none hc
  have b65 : ((c.toNat : Int) == 65) = false := beq_lett n65
  have b67 : ((c.toNat : Int) == 67) = false := beq_lett n67
  have b71 : ((c.toNat : Int) == 71) = false := beq_lett n71
  have b84 : ((c.toNat : Int) == 84) = false := beq_lett n84
  clear n65 n67 n71 n84
  have hzl : ((textL l).set p c).length = l.length := by simp [hxl]
  have s1 := fun v w => Swap_no _ 0 0 _ (swapG_err _ 0 0 _ (bad_sums (textL l) p c (by omega) (by omega) (by omega) hc)) (by omega) v w
  have s3 := fun v w => Swap_no _ 0 0 _ (swapG_err _ 0 0 _ (long_sums ((textL l).take 1) (.inl (by simp; omega)))) (by simp; omega) v w
  have s4 := fun v w => By_no _ p c _ (byG_bad (textL l) p c (by omega) (by omega) hx4 (by omega) hc) (by omega) v w
  have s5 := fun z h v w => By_no _ z 65 _ (byG_out (textL l) z 65 h) (by omega) v w
  have s7 := fun v w => By_no _ p 65 _ (byG_err _ p 65 _ (by omega) (by omega) (bad_sums (textL l) p c (by omega) (by omega) (by omega) hc)) (by omega) v w
  obtain ⟨long, hlong⟩ : ∃ long, long = textL l ++ List.replicate (1001 - l.length) 65 := ⟨_, rfl⟩
  have hll : long.length = 1001 := by rw [hlong]; simp [hxl]; omega
  have s2 := fun v w => Swap_no _ 0 0 _ (swapG_err _ 0 0 _ (long_sums long (.inr (by omega)))) (by omega) v w
  have HL := Lib.hid hlong
  have HLl := Lib.hid hll
  obtain ⟨C, hCs, hmk⟩ : ∃ C : Array Value, C.size = 1001 ∧ ∀ w, (Instr.makeSlice 22 (.int .i64 0) (.int .i64 1001)).run Tryd.prog w = .ok (.slice (some ⟨w.heap.size, 0, none⟩) 0 1001) (w.alloc (.cells C 5)) := by
    refine ⟨madeCells (Value.cells (.int .u8 0)) (1001 * i0.size), by simp [madeCells, hz1, Value.cells], fun w => ?_⟩
    have := run_make w 22 5 i0 (.int .u8 0) Tryd.underlying22 hi hz0 .i64 .i64 0 1001 (by omega) (by omega) (by rw [hz2]; omega) (by omega)
    simpa using this
  have n0 : ¬ (l.length : Int) = 0 := by omega
  have n0' : ¬ l.length = 0 := by omega
  have Hxl := Lib.hid hxl
  have Hzl := Lib.hid hzl
  have Hp := Lib.hid hp
  have Hl1 := Lib.hid h1
  have Hl2 := Lib.hid h2
  rw [hxl] at s5
  clear hS hx4 h2 h1 hp hxl hzl hc hlong hll
  generalize hzd : (textL l).set p c = z at *
  generalize textL l = x at *
  have Hz := Lib.hid hzd
  clear hzd
  go_enter Tryd.func12, Tryd.ntmps12
  go_wp2_with fail
  go_at_call 32
  refine hrw.mono ?_
  rintro e w1 ⟨vx, rfl, hx, hB⟩
  have hx := hx.sl
  have hT := hT.below hB
  obtain ⟨Ax, cx, rfl⟩ := hx.len
  rw [Hxl.out] at hx ⊢
  clear hrw d1 d2
  have hrow0 := row_made w1
  have hA1 := below_alloc w1 (.cells #[] 5)
  have hm1 : l.length + 0 ≤ maxLen := by unfold maxLen; have := Hl1.out; omega
  go_upto_region 7 with
    (at_builtin
     refine wpList_append_sl _ rfl (.tmp 62) (.tmp 63) _ rfl w1.heap.size 5 i0 (.int .u8 0) 1 Tryd.underlying22 hi hz0 hz1 hz2 rfl _ 0 [] hrow0 rfl w1.heap.size (.slice Ax l.length cx) x (hx.below hA1) rfl (fun _ => rfl) (by unfold maxLen; have := Hl1.out; have := Hxl.out; omega) (by have := Hl1.out; have := Hxl.out; omega) (by simp) ?_
     intro v1 w2 hown1 hg1 hat1
     have hB2 := hA1.trans (below_grown hrow0 hg1 (by simp) (Nat.le_refl _))
     obtain ⟨g, cap1, rfl, hgB, hgl, hput⟩ := own_put (show w2.ownsRow w1.heap.size 5 1 v1 x.length (x.map eB) by simpa using hown1) p c (by rw [Hxl.out]; exact Hp.out)
     obtain ⟨⟨x0, hc0⟩, hf0, hsl⟩ := hput w2 rfl
     have hzs := hsl w2.heap.size hgl
     rw [Hz.out, Hxl.out] at hzs
     rw [Hxl.out]
     have hpl : (p : Int) < (l.length : Int) := by have := Hp.out; omega
     clear hput hsl hown1 hg1 hat1)
  have hC : Below w1.heap.size w1 (w2.setCell ⟨g, p, none⟩ (.int .u8 c.toNat)) := hB2.setCell (p := ⟨g, p, none⟩) hgB _
  have hx := hx.next hC
  have hT := hT.below hC
  have hB := below_trans hB hC
  have hz : Sl eB (w2.setCell ⟨g, p, none⟩ (.int .u8 c.toNat)).heap.size (w2.setCell ⟨g, p, none⟩ (.int .u8 c.toNat)) (.slice (some ⟨g, 0, none⟩) l.length cap1) z := by simpa using hzs
  clear hC hzs hB2 hgB hgl hc0 hf0 hrow0 hA1
  generalize w2.setCell ⟨g, p, none⟩ (.int .u8 c.toNat) = w3 at *
  have hrow1 : (w3.alloc (.cells C 5)).ownsRow w3.heap.size 5 1 (.slice (some ⟨w3.heap.size, 0, none⟩) 0 1001) 0 [] := World.ownsRow_made w3 C 1001 (Nat.le_refl _) (by unfold maxLen; omega) (by omega)
  have hA1 := below_alloc w3 (.cells C 5)
  go_upto_region 8 with
    (at_builtin
     refine wpList_append_sl _ rfl (.tmp 69) (.tmp 70) _ rfl w3.heap.size 5 i0 (.int .u8 0) 1 Tryd.underlying22 hi hz0 hz1 hz2 rfl _ 0 [] hrow1 rfl w3.heap.size (.slice Ax l.length cx) x (hx.below hA1) rfl (fun _ => rfl) (by unfold maxLen; have := Hl1.out; have := Hxl.out; omega) (by have := Hl1.out; have := Hxl.out; omega) (by simp) ?_
     intro v2 w4 hown2 hg2 hat2
     have hB4 := hA1.trans (below_grown hrow1 hg2 (by simp) (Nat.le_refl _)))
  have hown3 : w4.ownsRow w3.heap.size 5 1 v2 (l.length + 0) ((x ++ List.replicate 0 65).map eB) := by
    have h := hown2
    rw [Hxl.out] at h
    simpa using h
  clear hown2 hg2 hat2 hrow1 hA1 hmk
  go_wp2_with fail
  go_loopw [10] (fun v wr => ∃ k : Nat, k ≤ 1001 - l.length ∧ wr.ownsRow w3.heap.size 5 1 v (l.length + k) ((x ++ List.replicate k 65).map eB) ∧ Below w3.heap.size w3 wr) (fun v _ => 1001 - lenOf v)
  case atStart => exact ⟨0, Nat.zero_le _, hown3, hB4⟩
  case round =>
    obtain ⟨k, hk, hrow, hBr⟩ := hrel
    obtain ⟨Av, cv, ev⟩ := (Sl.of_own (enc := eB) (xs := x ++ List.replicate k 65) hrow).len
    rw [show (x ++ List.replicate k (65 : UInt8)).length = l.length + k by simp [Hxl.out]] at ev
    subst ev
    have hl1 := Hl1.out
    by_cases hlt : l.length + k ≤ 1000
    · have hle : ((l.length + k : Nat) : Int) ≤ 1000 := by omega
      have hrep : x ++ List.replicate (k + 1) 65 = (x ++ List.replicate k 65) ++ [65] := by rw [List.replicate_succ', List.append_assoc]
      have H := Lib.hid hrep
      have Hk := Lib.hid hlt
      have hm : l.length + k + 1 ≤ maxLen := by unfold maxLen; omega
      clear hrep hlt
      go_wp2_with (at_builtin; refine wpList_append_own _ rfl _ _ 22 rfl w3.heap.size 5 i0 (.int .u8 0) 1 1 Tryd.underlying22 hi hz0 hz1 hz2 rfl (by decide) _ _ _ rfl (hrow.alloc _) ⟨wr.heap.size, 0, none⟩ 1 1 [eB 65] rfl rfl (cell_one_new _ _ _) (by simp [Value.oneCell']) hm (by omega) (by have := hBr.size; simp; omega) ?_; intro v' w5 hown' hgrow _)
      have hB5 : Below w3.heap.size w3 w5 := (hBr.alloc hBr.size _).trans (below_grown (hrow.alloc _) hgrow (by have := hBr.size; simp; omega) (Nat.le_refl _))
      have hl5 : lenOf v' = l.length + (k + 1) := by
        obtain ⟨A5, c5, e5⟩ := (Sl.of_own (enc := eB) (xs := x ++ List.replicate (k + 1) 65) (by rw [H.out]; simpa using hown')).len
        rw [e5]
        simp [lenOf, Hxl.out]
      go_roundw
      case rel => exact ⟨k + 1, by omega, by rw [H.out]; simpa [Nat.add_assoc] using hown', hB5⟩
      case measure =>
        simp only [lenOf] at *
        have := Hk.out
        simp
        omega
    · obtain rfl : k = 1001 - l.length := by omega
      have e1001 : l.length + (1001 - l.length) = 1001 := by omega
      rw [← HL.out, e1001] at hrow
      rw [e1001]
      have hx := hx.next hBr
      have hz := hz.next hBr
      have hT := hT.below hBr
      have hB := below_trans hB hBr
      have hlo : Sl eB wr.heap.size wr (.slice Av 1001 cv) long := Sl.of_own hrow
      have hcx : l.length ≤ cx := by
        obtain ⟨A', c', e, hc, _⟩ := hx
        injection e with e1 e2 e3
        rw [Hxl.out] at hc
        omega
      have hcx1 : (1 : Int) ≤ cx := by have := Hl2.out; omega
      have hx1 := hx.upto (p := 1) (by rw [Hxl.out]; have := Hl2.out; omega)
      have Hx1 := Lib.hid (show 1 ≤ l.length by have := Hl2.out; omega)
      have s5a := s5 (-1) (.inl (by omega))
      clear hrow e1001 hk hBr hlt
      go_wp2_with fail
      go_at_call 27
      refine (s1 _ _ hT hz).mono ?_
      rintro e w6 ⟨rfl, hC⟩
      have hx := hx.next hC
      have hz := hz.next hC
      have hlo := hlo.next hC
      have hx1 := hx1.next hC
      have hT := hT.below hC
      have hB := below_trans hB hC
      clear hC
      go_wp2_with fail
      go_at_call 27
      refine (s2 _ _ hT hlo).mono ?_
      rintro e w7 ⟨rfl, hC⟩
      have hx := hx.next hC
      have hz := hz.next hC
      have hx1 := hx1.next hC
      have hT := hT.below hC
      have hB := below_trans hB hC
      clear hC
      go_wp2_with fail
      go_at_call 27
      refine (s3 _ _ hT hx1).mono ?_
      rintro e w8 ⟨rfl, hC⟩
      have hx := hx.next hC
      have hz := hz.next hC
      have hT := hT.below hC
      have hB := below_trans hB hC
      clear hC
      go_wp2_with fail
      go_at_call 29
      refine (s4 _ _ hT hx).mono ?_
      rintro e w9 ⟨rfl, hC⟩
      have hx := hx.next hC
      have hz := hz.next hC
      have hT := hT.below hC
      have hB := below_trans hB hC
      clear hC
      go_wp2_with fail
      case inl h =>
        go_at_call 29
        refine (s5 (wrap64 (l.length : Int)) HO2.out _ _ hT hx).mono ?_
        rintro e w10 ⟨rfl, hC⟩
        have hx := hx.next hC
        have hz := hz.next hC
        have hT := hT.below hC
        have hB := below_trans hB hC
        clear hC
        go_wp2_with fail
        go_at_call 29
        refine (s5a _ _ hT hx).mono ?_
        rintro e w11 ⟨rfl, hC⟩
        have hz := hz.next hC
        have hT := hT.below hC
        have hB := below_trans hB hC
        clear hC
        go_wp2_with fail
        go_at_call 29
        refine (s7 _ _ hT hz).mono ?_
        rintro e w12 ⟨rfl, hC⟩
        have hT := hT.below hC
        have hB := below_trans hB hC
        clear hC
        go_wp2_with (go_at_call 24; refine (hw _ hT).mono ?_; rintro e w' ⟨rfl, hC⟩)
        go_ret
        exact ⟨rfl, below_trans hB hC⟩
      case inr h =>
        go_at_call 29
        refine (s5 (wrap64 ((l.length : Int) + z1)) (HO1.out h) _ _ hT hx).mono ?_
        rintro e w10 ⟨rfl, hC⟩
        have hx := hx.next hC
        have hz := hz.next hC
        have hT := hT.below hC
        have hB := below_trans hB hC
        clear hC
        go_wp2_with fail
        go_at_call 29
        refine (s5a _ _ hT hx).mono ?_
        rintro e w11 ⟨rfl, hC⟩
        have hz := hz.next hC
        have hT := hT.below hC
        have hB := below_trans hB hC
        clear hC
        go_wp2_with fail
        go_at_call 29
        refine (s7 _ _ hT hz).mono ?_
        rintro e w12 ⟨rfl, hC⟩
        have hT := hT.below hC
        have hB := below_trans hB hC
        clear hC
        go_wp2_with (go_at_call 24; refine (hw _ hT).mono ?_; rintro e w' ⟨rfl, hC⟩)
        go_ret
        exact ⟨rfl, below_trans hB hC⟩
set_option maxRecDepth 100000 in
set_option maxHeartbeats 1000000 in
theorem SwapErrors_any (v0 : Value) (l : List Int) (c : UInt8) (z1 : Int) (w : World) (hS : Sl eI w.heap.size w v0 l) (hzr : z1 ≤ 9223372036854775807) (hT : Tab w) :
    Calls Tryd.prog 12 #[v0, eB c, .int .i64 z1] w fun e w' => e = .returned (.bool true) ∧ Below w.heap.size w w' := by
  have hw := wakes_any
  by_cases h2 : l.length < 2
  · have d1 : decide ((l.length : Int) < 2) = true := decide_eq_true (by omega)
    obtain ⟨A0, c0, rfl⟩ := hS.len
    go_enter Tryd.func12, Tryd.ntmps12
    go_wp2_with (go_at_call 24; refine (hw _ hT).mono ?_; rintro e w' ⟨rfl, hC⟩)
    go_ret
    exact ⟨rfl, hC⟩
  by_cases h1 : 200 < l.length
  · have d1 : decide ((l.length : Int) < 2) = false := decide_eq_false (by omega)
    have d2 : decide ((200 : Int) < (l.length : Int)) = true := decide_eq_true (by omega)
    obtain ⟨A0, c0, rfl⟩ := hS.len
    go_enter Tryd.func12, Tryd.ntmps12
    go_wp2_with (go_at_call 24; refine (hw _ hT).mono ?_; rintro e w' ⟨rfl, hC⟩)
    go_ret
    exact ⟨rfl, hC⟩
  by_cases hc : codeOf c.toNat = -1
  · exact SwapErrors_main v0 l c z1 w hS hT (by omega) (by omega) hc hzr
  · have d1 : decide ((l.length : Int) < 2) = false := decide_eq_false (by omega)
    have d2 : decide ((200 : Int) < (l.length : Int)) = false := decide_eq_false (by omega)
    obtain ⟨A0, c0, rfl⟩ := hS.len
    rcases code_four hc with rfl | rfl | rfl | rfl
    all_goals
      clear hc
      go_enter Tryd.func12, Tryd.ntmps12
      go_wp2_with (go_at_call 24; refine (hw _ hT).mono ?_; rintro e w' ⟨rfl, hC⟩)
      go_ret
      exact ⟨rfl, hC⟩
theorem i64_le {z : Int} (h : (Lit.int .i64 z).wf = true) : z ≤ 9223372036854775807 := by
  simp [Lit.wf, show IntKind.i64.min = -9223372036854775808 from rfl, show IntKind.i64.max = 9223372036854775807 from rfl] at h
  omega
end Go.Proofs.YtmdpodgodhkjdaaDoor
