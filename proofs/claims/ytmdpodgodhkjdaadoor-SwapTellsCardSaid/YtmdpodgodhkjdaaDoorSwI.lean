/- SwapTwo. -/
import Derived.Test.YtmdpodgodhkjdaaDoorSwH
import Derived.Test.YtmdpodgodhkjdaaDoorRoA
import Derived.Deep.QuietTactic
namespace Go.Proofs.YtmdpodgodhkjdaaDoor
open Go.RowKit Go.Shelf
attribute [local go_sem] Oper.semAt_some run_store_func

theorem byG_ok (y : List UInt8) (p : Nat) (c : UInt8) (h2 : 2 ≤ y.length) (h1 : y.length ≤ 1000) (hy : FourL y) (hp : p < y.length) (hc : codeOf c.toNat ≠ -1) : byG y p c = .ok (y.set p c) := by
  rw [byG, if_neg (by omega), four_sums y h2 h1 hy]
  simp only [if_neg hc, Int.toNat_natCast]
theorem rOf_four (y : List UInt8) (h2 : 2 ≤ y.length) (h1 : y.length ≤ 1000) (hy : FourL y) (sv : Value) (w : World) (hS : Sl eB w.heap.size w sv y) :
    Calls Tryd.prog 22 #[sv] w fun e w' => e = .returned (.tuple #[v3 (sT y y.length % y.length) (sS y y.length % 4) (sW y y.length % (6 * y.length + 1)), .int .i64 0]) ∧ Below w.heap.size w w' :=
  (rOf_any sv y (by omega) w hS).mono (by
    rintro e w' ⟨hB, ⟨a, b, c, h, rfl⟩ | ⟨m, h, rfl⟩⟩
    · rw [four_sums y h2 h1 hy] at h; cases h; exact ⟨rfl, hB⟩
    · rw [four_sums y h2 h1 hy] at h; cases h)
theorem at_isB (z : Int) (L : Nat) (h0 : 0 < L) (hL : L ≤ 1000000) : ∃ k : Nat, k < L ∧ (wrap64 (z.tmod (L : Int) + (L : Int))).tmod (L : Int) = (k : Int) := by
  have h1 : z.tmod (L : Int) < L := Int.tmod_lt_of_pos _ (by omega)
  have h2 : -(L : Int) ≤ z.tmod (L : Int) := by
    rw [Int.tmod_eq_emod]
    have := Int.emod_nonneg z (b := (L : Int)) (by omega)
    split <;> simp <;> omega
  rw [IntWalk.wrap64_in _ (by omega)]
  have h3 := Int.tmod_nonneg (L : Int) (a := z.tmod (L : Int) + (L : Int)) (by omega)
  have h4 := Int.tmod_lt_of_pos (z.tmod (L : Int) + (L : Int)) (b := (L : Int)) (by omega)
  exact ⟨((z.tmod (L : Int) + (L : Int)).tmod (L : Int)).toNat, by omega, by omega⟩

theorem textL_FourL (l : List Int) : FourL (textL l) := textL_four l
theorem cells_of_row {W : World} {g : Nat} {p q r : Int} (h : Rowed W g 36 (c3 p q r)) : W.cell? ⟨g, 0, none⟩ = some (.int .i64 p) ∧ W.cell? ⟨g, 1, none⟩ = some (.int .i64 q) ∧ W.cell? ⟨g, 2, none⟩ = some (.int .i64 r) := by
  have k0 := h.cell 0
  have k1 := h.cell 1
  have k2 := h.cell 2
  simp at k0 k1 k2
  exact ⟨k0, k1, k2⟩
set_option maxRecDepth 100000 in
set_option maxHeartbeats 4000000 in
theorem SwapTwo_main (v0 : Value) (l : List Int) (z1 z2 c d : Int) (w : World) (hS : Sl eI w.heap.size w v0 l) (hT : Tab w) (h2 : 2 ≤ l.length) (h1 : l.length ≤ 200) :
    Calls Tryd.prog 11 #[v0, .int .i64 z1, .int .i64 z2, .int .i64 c, .int .i64 d] w fun e w' => e = .returned (.bool true) ∧ Below w.heap.size w w' := by
  have hw := wakes_any
  have hrw := row_any v0 l (by omega) w hS
  obtain ⟨A0, c0, rfl⟩ := hS.len
  have hxl := textL_length l
  have hx4 := textL_FourL l
  obtain ⟨p, hp, hat1⟩ := at_is z1 l.length (by omega) h1
  obtain ⟨q, hq, hat2⟩ := at_is z2 l.length (by omega) h1
  have d1 : decide ((l.length : Int) < 2) = false := decide_eq_false (by omega)
  have d2 : decide ((200 : Int) < (l.length : Int)) = false := decide_eq_false (by omega)
  have hy4 := hx4.set p (letterOf_ok c)
  have hz4 := hy4.set q (letterOf_ok d)
  have hyl : ((textL l).set p (letterOf c)).length = l.length := by simp [hxl]
  have hzl : (((textL l).set p (letterOf c)).set q (letterOf d)).length = l.length := by simp [hxl]
  have hBy1 := fun v w => By_yes _ p _ _ (byG_ok (textL l) p (letterOf c) (by omega) (by omega) hx4 (by omega) (letterOf_ok c)) (by omega) v w
  have hBy2 := fun v w => By_yes _ q _ _ (byG_ok ((textL l).set p (letterOf c)) q (letterOf d) (by omega) (by omega) hy4 (by omega) (letterOf_ok d)) (by omega) v w
  have hO1 := rOf_four (textL l) (by omega) (by omega) hx4
  have hO2 := rOf_four (((textL l).set p (letterOf c)).set q (letterOf d)) (by omega) (by omega) hz4
  have hsame := Lib.hid (fun eS eW => swap_same (textL l) p q (letterOf c) (letterOf d) (by omega) (by omega) (by omega) hx4 (by rw [hxl, ← hzl]; exact hz4) eS eW)
  rw [hzl] at hO2
  rw [hxl] at hO1 hsame
  generalize sT (textL l) l.length % (l.length : Int) = ta at *
  generalize sS (textL l) l.length % 4 = sa at *
  generalize sW (textL l) l.length % (6 * (l.length : Int) + 1) = wa at *
  generalize ((textL l).set p (letterOf c)).set q (letterOf d) = z at *
  generalize (textL l).set p (letterOf c) = y at *
  generalize sT z l.length % (l.length : Int) = tb at *
  generalize sS z l.length % 4 = sb at *
  generalize sW z l.length % (6 * (l.length : Int) + 1) = wb at *
  generalize textL l = x at *
  have hc3 := bits_and3 c
  have hd3 := bits_and3 d
  have hic := run_acgt c
  have hid := run_acgt d
  have hc0 : 0 ≤ c % 4 := by omega
  have hc4 : c % 4 < 4 := by omega
  have hd0 : 0 ≤ d % 4 := by omega
  have hd4 : d % 4 < 4 := by omega
  have n0 : ¬ (l.length : Int) = 0 := by omega
  have n0' : ¬ l.length = 0 := by omega
  have g1 : ((l.length : Int) != (l.length : Int)) = false := by simp
  have Hyl := Lib.hid hyl
  have Hxl := Lib.hid hxl
  clear hS hx4 hy4 hz4 h2 h1 hp hq hyl hxl hzl
  go_enter Tryd.func11, Tryd.ntmps11
  go_wp2_with fail
  go_at_call 32
  refine hrw.mono ?_
  rintro e w1 ⟨vx, rfl, hx, hB⟩
  have hx := hx.sl
  have hT := hT.below hB
  obtain ⟨Ax, cx, rfl⟩ := hx.len
  rw [Hxl.out] at hx ⊢
  clear hrw d1 d2
  go_wp2_with fail
  go_quiet (fail)
  have hD : Below w1.heap.size w1 (w1.drewN nq) := ⟨rfl, rfl, rfl, Nat.le_refl _, fun _ _ => rfl⟩
  have hx := hx.next hD
  have hT := hT.below hD
  have hB := below_trans hB hD
  clear hD hat1 hat2
  generalize w1.drewN nq = w2 at *
  go_wp2_with fail
  go_at_call 29
  refine (hBy1 _ _ hT hx).mono ?_
  rintro e w3 ⟨vy, rfl, hy, hC⟩
  have hx := hx.next hC
  have hT := hT.below hC
  have hB := below_trans hB hC
  clear hC hBy1 hc3 hic
  obtain ⟨Ay, cy, rfl⟩ := hy.len
  rw [Hyl.out] at hy ⊢
  go_wp2_with fail
  go_at_call 29
  refine (hBy2 _ _ hT hy).mono ?_
  rintro e w4 ⟨vz, rfl, hz, hC⟩
  have hx := hx.next hC
  have hT := hT.below hC
  have hB := below_trans hB hC
  clear hC hBy2 hd3 hid
  obtain ⟨Az, cz, rfl⟩ := hz.len
  go_wp2_with fail
  go_at_call 22
  refine (hO1 _ _ hx).mono ?_
  rintro e w5 ⟨rfl, hC⟩
  have hAa := below_alloc w5 (.cells (c3 ta sa wa) 36)
  have hra := Rowed.new w5 36 (c3 ta sa wa)
  have hlta := hra.lt
  have hC := below_trans hC hAa
  have hx := hx.next hC
  have hz := hz.next hC
  have hT := hT.below hC
  have hB := below_trans hB hC
  clear hC hAa hO1
  go_upto_region 10 with fail
  generalize w5.alloc (.cells (c3 ta sa wa) 36) = w6 at *
  generalize w5.heap.size = ga at *
  go_wp2_with fail
  go_at_call 22
  refine (hO2 _ _ hz).mono ?_
  rintro e w7 ⟨rfl, hC⟩
  have hAa := below_alloc w7 (.cells (c3 tb sb wb) 36)
  have hrb := Rowed.new w7 36 (c3 tb sb wb)
  have hC := below_trans hC hAa
  have hra := hra.below hC hlta
  have hx := hx.next hC
  have hz := hz.next hC
  have hT := hT.below hC
  have hB := below_trans hB hC
  clear hC hAa hO2 hlta
  go_upto_region 11 with fail
  generalize w7.alloc (.cells (c3 tb sb wb) 36) = w8 at *
  generalize w7.heap.size = gb at *
  obtain ⟨p0, p1, p2⟩ := cells_of_row hra
  obtain ⟨q0, q1, q2⟩ := cells_of_row hrb
  clear hra hrb
  have hs := same_any (.slice Ax l.length cx) (.slice Az z.length cz) x z w8.heap.size w8 hx hz
  by_cases e1 : sa = sb
  · have k1 : (sa != sb) = false := by simp [e1]
    by_cases e2 : wa = wb
    · have k2 : (wa != wb) = false := by simp [e2]
      have e3 : x = z := (hsame.out e1.symm e2.symm).symm
      rw [decide_eq_true e3] at hs
      clear e1 e2 e3 hx hz
      go_wp2_with fail
      go_at_call 31
      refine hs.mono ?_
      rintro e w' ⟨rfl, rfl⟩
      go_wp2_with (go_at_call 24; refine (hw _ hT).mono ?_; rintro e w' ⟨rfl, hC⟩)
      go_ret
      exact ⟨rfl, below_trans hB hC⟩
    · have k2 : (wa != wb) = true := by simpa using e2
      clear e1 e2 hx hz
      go_wp2_with (go_at_call 24; refine (hw _ hT).mono ?_; rintro e w' ⟨rfl, hC⟩)
      go_ret
      exact ⟨rfl, below_trans hB hC⟩
  · have k1 : (sa != sb) = true := by simpa using e1
    clear e1 hx hz
    go_wp2_with (go_at_call 24; refine (hw _ hT).mono ?_; rintro e w' ⟨rfl, hC⟩)
    go_ret
    exact ⟨rfl, below_trans hB hC⟩
set_option maxRecDepth 100000 in
set_option maxHeartbeats 1000000 in
theorem SwapTwo_any (v0 : Value) (l : List Int) (z1 z2 c d : Int) (w : World) (hS : Sl eI w.heap.size w v0 l) (hT : Tab w) :
    Calls Tryd.prog 11 #[v0, .int .i64 z1, .int .i64 z2, .int .i64 c, .int .i64 d] w fun e w' => e = .returned (.bool true) ∧ Below w.heap.size w w' := by
  have hw := wakes_any
  by_cases h2 : l.length < 2
  · have d1 : decide ((l.length : Int) < 2) = true := decide_eq_true (by omega)
    obtain ⟨A0, c0, rfl⟩ := hS.len
    go_enter Tryd.func11, Tryd.ntmps11
    go_wp2_with (go_at_call 24; refine (hw _ hT).mono ?_; rintro e w' ⟨rfl, hC⟩)
    go_ret
    exact ⟨rfl, hC⟩
  by_cases h1 : 200 < l.length
  · have d1 : decide ((l.length : Int) < 2) = false := decide_eq_false (by omega)
    have d2 : decide ((200 : Int) < (l.length : Int)) = true := decide_eq_true (by omega)
    obtain ⟨A0, c0, rfl⟩ := hS.len
    go_enter Tryd.func11, Tryd.ntmps11
    go_wp2_with (go_at_call 24; refine (hw _ hT).mono ?_; rintro e w' ⟨rfl, hC⟩)
    go_ret
    exact ⟨rfl, hC⟩
  exact SwapTwo_main v0 l z1 z2 c d w hS hT (by omega) (by omega)
end Go.Proofs.YtmdpodgodhkjdaaDoor
