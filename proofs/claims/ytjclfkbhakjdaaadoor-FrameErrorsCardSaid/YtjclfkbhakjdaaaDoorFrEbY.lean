import Derived.Deep.Cut
import Derived.Test.YtjclfkbhakjdaaaDoorDBY
import Derived.Test.YtjclfkbhakjdaaaDoorFrEaY
import Derived.Test.YtjclfkbhakjdaaaDoorFrLbY
import Derived.Test.YtjclfkbhakjdaaaDoorGCY
namespace Go.Proofs.YtjclfkbhakjdaaaDoor
open Go.RowKit Go.Shelf
attribute [local go_sem] Oper.semAt_some run_store_func
abbrev c15 (g0 p0 g1 p1 g2 p2 g3 p3 g4 p4 : Int) (v u : Value) : Array Value := #[.int .i64 g0, .int .i64 p0, v, .int .i64 g1, .int .i64 p1, v, .int .i64 g2, .int .i64 p2, v, .int .i64 g3, .int .i64 p3, v, .int .i64 g4, .int .i64 p4, u]
set_option maxRecDepth 100000 in
set_option maxHeartbeats 8000000 in
theorem FErr_wk (P D R G PL n : Int) (pf : Value) (pay : List UInt8) (h : ¬ (pay.length ≤ 60 ∧ chkF P D R G PL pay.length = 0 ∧ 1 ≤ n ∧ n ≤ 1000)) (w : World) (hT : Tabs w) (hf : Sl eB w.heap.size w pf pay) :
    Calls Tryd.prog 5 #[shV P D R, frV G PL pf, .int .i64 n] w fun e w' => e = .returned (.bool true) ∧ Below w.heap.size w w' := by
  obtain ⟨Af, cf, rfl⟩ := hf.len
  have hc1 : (shV P D R).cells = shB P D R := rfl
  have hc2 : (frV G PL (.slice Af pay.length cf)).cells = frB G PL (.slice Af pay.length cf) := rfl
  obtain ⟨W0, hW0⟩ : ∃ W0, (w.alloc (.cells (shB P D R) 23)).alloc (.cells (frB G PL (.slice Af pay.length cf)) 26) = W0 := ⟨_, rfl⟩
  have hA : Below w.heap.size w W0 := by rw [← hW0]; exact (below_alloc w _).alloc (by simp) _
  have r3 : Rowed W0 w.heap.size 23 (shB P D R) := by rw [← hW0]; exact (Rowed.new w 23 _).alloc _
  have r4 : Rowed W0 (w.heap.size + 1) 26 (frB G PL (.slice Af pay.length cf)) := by
   rw [← hW0]
   have := Rowed.new (w.alloc (.cells (shB P D R) 23)) 26 (frB G PL (.slice Af pay.length cf))
   simpa only [World.size_alloc] using this
  have HC := Lib.hid (fun W (h : Below W0.heap.size W0 W) =>
   have q3 : Rowed W w.heap.size 23 (shB P D R) := (h.block _ r3.lt).trans r3
   have q4 : Rowed W (w.heap.size + 1) 26 (frB G PL (.slice Af pay.length cf)) := (h.block _ r4.lt).trans r4
   show (W.cell? ⟨w.heap.size, 0, none⟩ = some (.int .i64 P) ∧ W.cell? ⟨w.heap.size, 1, none⟩ = some (.int .i64 D) ∧ W.cell? ⟨w.heap.size, 2, none⟩ = some (.int .i64 R)) ∧ (W.cell? ⟨w.heap.size + 1, 0, none⟩ = some (.int .i64 G) ∧ W.cell? ⟨w.heap.size + 1, 1, none⟩ = some (.int .i64 PL) ∧ W.cell? ⟨w.heap.size + 1, 2, none⟩ = some (.slice Af pay.length cf)) from
     ⟨⟨q3.cell 0, q3.cell 1, q3.cell 2⟩, ⟨q4.cell 0, q4.cell 1, q4.cell 2⟩⟩)
  have HW := Lib.hid (fun W (h : Below W0.heap.size W0 W) => below_trans hA h)
  have HT := Lib.hid (fun W (h : Below W0.heap.size W0 W) => hT.below (below_trans hA h))
  have HF := Lib.hid (fun W (h : Below W0.heap.size W0 W) => (hf.next hA).next h)
  have HWK := Lib.hid (fun W (h : Below W0.heap.size W0 W) => wakes_any W (hT.below (below_trans hA h)))
  obtain ⟨⟨a0, a1, a2⟩, ⟨a3, a4, a5⟩⟩ := HC.out W0 (Below.refl _ _)
  have hq := RFCheck_any P D R G PL _ pay W0 (HF.out W0 (Below.refl _ _))
  have hwk0 := HWK.out W0 (Below.refl _ _)
  have HA := Lib.hid hA
  clear HC HT HF hf hT r3 r4 hA
  by_cases h1 : pay.length ≤ 60
  case neg =>
   have d1 : decide ((60 : Int) < (pay.length : Int)) = true := decide_eq_true (by omega)
   have hwk := hwk0
   clear h h1 hq hwk0
   go_enter Tryd.func5, Tryd.ntmps5
   go_wp2_with fail
   go_at_call 6
   refine hwk.mono ?_
   rintro e w9 ⟨rfl, hB⟩
   go_wp2_with fail
   go_ret
   exact ⟨rfl, below_trans HA.out hB⟩
  have d1 : decide ((60 : Int) < (pay.length : Int)) = false := decide_eq_false (by omega)
  clear hwk0
  by_cases hE : chkF P D R G PL pay.length = 0
  case neg =>
   generalize chkF P D R G PL pay.length = E at *
   have hE0 : (E == 0) = false := by rw [beq_eq_false_iff_ne]; exact hE
   have hE1 : (E != 0) = true := by simpa using hE
   clear h h1
   go_enter Tryd.func5, Tryd.ntmps5
   go_wp2_with fail
   go_at_call 8
   refine hq.mono ?_
   rintro e w1 ⟨rfl, hB1⟩
   have hwk := HWK.out w1 hB1
   have hBt := HW.out w1 hB1
   go_wp2_with fail
   go_at_call 6
   refine hwk.mono ?_
   rintro e w9 ⟨rfl, hB⟩
   go_wp2_with fail
   go_ret
   exact ⟨rfl, below_trans hBt hB⟩
  rw [hE] at hq
  by_cases h2 : 1 ≤ n
  case neg =>
   have d2 : decide (n < (1 : Int)) = true := decide_eq_true (by omega)
   clear h h1 hE h2
   go_enter Tryd.func5, Tryd.ntmps5
   go_wp2_with fail
   go_at_call 8
   refine hq.mono ?_
   rintro e w1 ⟨rfl, hB1⟩
   have hwk := HWK.out w1 hB1
   have hBt := HW.out w1 hB1
   go_wp2_with fail
   go_at_call 6
   refine hwk.mono ?_
   rintro e w9 ⟨rfl, hB⟩
   go_wp2_with fail
   go_ret
   exact ⟨rfl, below_trans hBt hB⟩
  have d2 : decide (n < (1 : Int)) = false := decide_eq_false (by omega)
  have d3 : decide ((1000 : Int) < n) = true := decide_eq_true (by have : ¬ n ≤ 1000 := fun h3 => h ⟨h1, hE, h2, h3⟩; omega)
  clear h h1 hE h2
  go_enter Tryd.func5, Tryd.ntmps5
  go_wp2_with fail
  go_at_call 8
  refine hq.mono ?_
  rintro e w1 ⟨rfl, hB1⟩
  have hwk := HWK.out w1 hB1
  have hBt := HW.out w1 hB1
  go_wp2_with fail
  go_at_call 6
  refine hwk.mono ?_
  rintro e w9 ⟨rfl, hB⟩
  go_wp2_with fail
  go_ret
  exact ⟨rfl, below_trans hBt hB⟩
theorem sl_setfive {B : Nat} {W : World} {v : Value} {xs : List UInt8} {q : Nat} {t : TypeId} {g0 p0 g1 p1 g2 p2 g3 p3 g4 p4 : Int} {A0 A1 : Option Addr} {l0 k0 l1 k1 : Nat} (h : Sl eB B W v xs) (hr : Rowed W q t (c15 g0 p0 g1 p1 g2 p2 g3 p3 g4 p4 (.slice A0 l0 k0) (.slice A1 l1 k1))) (j0 : Nat) (u : Value) : Sl eB B (W.setCell ⟨q, j0, none⟩ u) v xs := by
 obtain ⟨A, c, rfl, hc, hcs⟩ := h
 refine ⟨A, c, rfl, hc, fun h0 => ?_⟩
 obtain ⟨bk, off, rfl, hbb, hcell⟩ := hcs h0
 refine ⟨bk, off, rfl, hbb, fun j x hx => ?_⟩
 have hne : bk ≠ q := by
  rintro rfl
  have h1 := hcell j x hx
  rw [hr.cell] at h1
  have h2 : ∀ m, (c15 g0 p0 g1 p1 g2 p2 g3 p3 g4 p4 (.slice A0 l0 k0) (.slice A1 l1 k1))[m]? ≠ some (eB x) := fun m h => by
   have h3 : m < 15 := (Array.getElem?_eq_some_iff.1 h).1
   rcases (show m = 0 ∨ m = 1 ∨ m = 2 ∨ m = 3 ∨ m = 4 ∨ m = 5 ∨ m = 6 ∨ m = 7 ∨ m = 8 ∨ m = 9 ∨ m = 10 ∨ m = 11 ∨ m = 12 ∨ m = 13 ∨ m = 14 by omega) with rfl | rfl | rfl | rfl | rfl | rfl | rfl | rfl | rfl | rfl | rfl | rfl | rfl | rfl | rfl <;> simp [eB] at h
  exact h2 _ h1
 have := hcell j x hx
 rwa [World.cell?_setCell_other]
 intro e
 injection e with e1
 exact hne e1.symm
set_option maxRecDepth 100000 in
set_option maxHeartbeats 8000000 in
theorem FErr_main (P D R G PL n : Int) (pf : Value) (pay : List UInt8) (h1 : pay.length ≤ 60) (hE : chkF P D R G PL pay.length = 0) (h2 : 1 ≤ n) (h3 : n ≤ 1000) (w : World) (hT : Tabs w) (hf : Sl eB w.heap.size w pf pay) :
    Calls Tryd.prog 5 #[shV P D R, frV G PL pf, .int .i64 n] w fun e w' => e = .returned (.bool true) ∧ Below w.heap.size w w' := by
  obtain ⟨Af, cf, rfl⟩ := hf.len
  have hc1 : (shV P D R).cells = shB P D R := rfl
  have hc2 : (frV G PL (.slice Af pay.length cf)).cells = frB G PL (.slice Af pay.length cf) := rfl
  obtain ⟨W0, hW0⟩ : ∃ W0, (w.alloc (.cells (shB P D R) 23)).alloc (.cells (frB G PL (.slice Af pay.length cf)) 26) = W0 := ⟨_, rfl⟩
  have hA : Below w.heap.size w W0 := by rw [← hW0]; exact (below_alloc w _).alloc (by simp) _
  have r3 : Rowed W0 w.heap.size 23 (shB P D R) := by rw [← hW0]; exact (Rowed.new w 23 _).alloc _
  have r4 : Rowed W0 (w.heap.size + 1) 26 (frB G PL (.slice Af pay.length cf)) := by
   rw [← hW0]
   have := Rowed.new (w.alloc (.cells (shB P D R) 23)) 26 (frB G PL (.slice Af pay.length cf))
   simpa only [World.size_alloc] using this
  have HC := Lib.hid (fun W (h : Below W0.heap.size W0 W) =>
   have q3 : Rowed W w.heap.size 23 (shB P D R) := (h.block _ r3.lt).trans r3
   have q4 : Rowed W (w.heap.size + 1) 26 (frB G PL (.slice Af pay.length cf)) := (h.block _ r4.lt).trans r4
   show (W.cell? ⟨w.heap.size, 0, none⟩ = some (.int .i64 P) ∧ W.cell? ⟨w.heap.size, 1, none⟩ = some (.int .i64 D) ∧ W.cell? ⟨w.heap.size, 2, none⟩ = some (.int .i64 R)) ∧ (W.cell? ⟨w.heap.size + 1, 0, none⟩ = some (.int .i64 G) ∧ W.cell? ⟨w.heap.size + 1, 1, none⟩ = some (.int .i64 PL) ∧ W.cell? ⟨w.heap.size + 1, 2, none⟩ = some (.slice Af pay.length cf)) from
     ⟨⟨q3.cell 0, q3.cell 1, q3.cell 2⟩, ⟨q4.cell 0, q4.cell 1, q4.cell 2⟩⟩)
  have HW := Lib.hid (fun W (h : Below W0.heap.size W0 W) => below_trans hA h)
  have HT := Lib.hid (fun W (h : Below W0.heap.size W0 W) => hT.below (below_trans hA h))
  have HF := Lib.hid (fun W (h : Below W0.heap.size W0 W) => (hf.next hA).next h)
  have HWK := Lib.hid (fun W (h : Below W0.heap.size W0 W) => wakes_any W (hT.below (below_trans hA h)))
  obtain ⟨⟨a0, a1, a2⟩, ⟨a3, a4, a5⟩⟩ := HC.out W0 (Below.refl _ _)
  have hq := RFCheck_any P D R G PL _ pay W0 (HF.out W0 (Below.refl _ _))
  rw [hE] at hq
  obtain ⟨hm, c1, c2, c3, c4, c5⟩ := chk_yes hE
  have d1 : decide ((60 : Int) < (pay.length : Int)) = false := decide_eq_false (by omega)
  have d2 : decide (n < (1 : Int)) = false := decide_eq_false (by omega)
  have d3 : decide ((1000 : Int) < n) = false := decide_eq_false (by omega)
  have hDR : D + R ≤ 255 ∧ 1 ≤ D ∧ 0 ≤ R := by obtain ⟨-, x1, x2, x3, x4⟩ := hm; omega
  obtain ⟨hDR, hD1, hR0⟩ := hDR
  have HM := Lib.hid hm
  have HCC := Lib.hid (And.intro c1 (And.intro c2 (And.intro c3 (And.intro c4 c5))))
  have w1x : IntKind.i64.wrap (65535 + n) = 65535 + n := IntWalk.i64_in _ (by omega)
  have w2x : IntKind.i64.wrap (-n) = -n := IntWalk.i64_in _ (by omega)
  have w3x : IntKind.i64.wrap (D + R) = D + R := IntWalk.i64_in _ (by omega)
  have w4x : IntKind.i64.wrap (D + R - 1) = D + R - 1 := IntWalk.i64_in _ (by omega)
  have w5x : IntKind.i64.wrap (D + R - 1 + n) = D + R - 1 + n := IntWalk.i64_in _ (by omega)
  obtain ⟨i0, hi, hz0, hz1, hz2⟩ := info_parts info_u8
  obtain ⟨k, hk, hP⟩ := Sh.payOk_at hm.1
  have hl5 : (saidG G PL pay).length = 5 * (k + 1) := by rw [saidG_length]; unfold Sh.pay at hP; omega
  have hl0 : letE P D R G PL pay = lettersG (saidG G PL pay) := if_pos hE
  have hlen := letters_len hk hl5
  have HLA := Lib.hid (fun W (h : Below W0.heap.size W0 W) => Letters_any P D R G PL _ pay W (HT.out W h) (HF.out W h))
  rw [hE, hl0] at HLA
  obtain ⟨x, hx⟩ : ∃ x, lettersG (saidG G PL pay) = x := ⟨_, rfl⟩
  rw [hx] at HLA hlen
  have hx140 : 30 ≤ x.length ∧ x.length ≤ 140 := by unfold Sh.innerK Sh.bodyK Sh.indexK at hlen; split at hlen <;> omega
  have HXL := Lib.hid hx140
  have HX0 := Lib.hid (show 0 < x.length by omega)
  have HNX1 := Lib.hid (show backF P D R (x.drop 1) = .error 2 from by unfold backF; rw [if_pos hm, if_neg (by rw [hP, kOf_pay, ← hlen, List.length_drop]; omega)])
  have HNX2 := Lib.hid (show backF P D R (x ++ [65]) = .error 2 from by unfold backF; rw [if_pos hm, if_neg (by rw [hP, kOf_pay, ← hlen, List.length_append]; simp; omega)])
  have HNN := Lib.hid (And.intro h2 h3)
  have HL60 := Lib.hid h1
  clear hf hT r3 r4 hE hm c1 c2 c3 c4 c5 h1 h2 h3 hk hP hl5 hl0 hlen hx hx140
  go_enter Tryd.func5, Tryd.ntmps5
  go_wp2_with fail
  go_at_call 8
  refine hq.mono ?_
  rintro e w1 ⟨rfl, hB1⟩
  clear hq a0 a1 a2 a3 a4 a5 hW0
  obtain ⟨⟨a0, a1, a2⟩, ⟨a3, a4, a5⟩⟩ := HC.out w1 hB1
  have HSX := Lib.hid (fun W (h : Below W0.heap.size W0 W) => HF.out W h)
  obtain ⟨W2, hW2⟩ : ∃ W2, w1.alloc (.cells (c15 G PL G PL G PL G PL G PL (.slice Af pay.length cf) (.slice Af pay.length cf)) 42) = W2 := ⟨_, rfl⟩
  have hA2 : Below w1.heap.size w1 W2 := by rw [← hW2]; exact below_alloc w1 _
  have R0 : Rowed W2 w1.heap.size 42 (c15 G PL G PL G PL G PL G PL (.slice Af pay.length cf) (.slice Af pay.length cf)) := by rw [← hW2]; exact Rowed.new w1 _ _
  obtain ⟨X1, hX1⟩ : ∃ X, W2.setCell ⟨w1.heap.size, 0, none⟩ (.int .i64 (65535 + n)) = X := ⟨_, rfl⟩
  have R1 : Rowed X1 w1.heap.size 42 (c15 (65535 + n) PL G PL G PL G PL G PL (.slice Af pay.length cf) (.slice Af pay.length cf)) := by rw [← hX1]; exact R0.set 0 _
  obtain ⟨X2, hX2⟩ : ∃ X, X1.setCell ⟨w1.heap.size, 3, none⟩ (.int .i64 (-n)) = X := ⟨_, rfl⟩
  have R2 : Rowed X2 w1.heap.size 42 (c15 (65535 + n) PL (-n) PL G PL G PL G PL (.slice Af pay.length cf) (.slice Af pay.length cf)) := by rw [← hX2]; exact R1.set 3 _
  obtain ⟨X3, hX3⟩ : ∃ X, X2.setCell ⟨w1.heap.size, 7, none⟩ (.int .i64 (D + R - 1 + n)) = X := ⟨_, rfl⟩
  have R3 : Rowed X3 w1.heap.size 42 (c15 (65535 + n) PL (-n) PL G (D + R - 1 + n) G PL G PL (.slice Af pay.length cf) (.slice Af pay.length cf)) := by rw [← hX3]; exact R2.set 7 _
  obtain ⟨X4, hX4⟩ : ∃ X, X3.setCell ⟨w1.heap.size, 10, none⟩ (.int .i64 (-n)) = X := ⟨_, rfl⟩
  have R4 : Rowed X4 w1.heap.size 42 (c15 (65535 + n) PL (-n) PL G (D + R - 1 + n) G (-n) G PL (.slice Af pay.length cf) (.slice Af pay.length cf)) := by rw [← hX4]; exact R3.set 10 _
  have hB4 : Below w1.heap.size w1 X4 := by
   rw [← hX4, ← hX3, ← hX2, ← hX1]
   exact (((hA2.setCell (p := ⟨w1.heap.size, 0, none⟩) (Nat.le_refl _) _).setCell (p := ⟨w1.heap.size, 3, none⟩) (Nat.le_refl _) _).setCell (p := ⟨w1.heap.size, 7, none⟩) (Nat.le_refl _) _).setCell (p := ⟨w1.heap.size, 10, none⟩) (Nat.le_refl _) _
  have hBt4 := below_trans hB1 hB4
  have hB2x : Below w1.heap.size w1 X2 := by
   rw [← hX2, ← hX1]
   exact (hA2.setCell (p := ⟨w1.heap.size, 0, none⟩) (Nat.le_refl _) _).setCell (p := ⟨w1.heap.size, 3, none⟩) (Nat.le_refl _) _
  obtain ⟨⟨e0, e1, e2⟩, -⟩ := HC.out X2 (below_trans hB1 hB2x)
  have z0 := R0.cell 0
  have y0 := R0.frozen 0
  have z3 := R1.cell 3
  have y3 := R1.frozen 3
  have z7 := R2.cell 7
  have y7 := R2.frozen 7
  have z10 := R3.cell 10
  have y10 := R3.frozen 10
  have r1e := row_made X4
  have hB5 := hBt4.alloc (show W0.heap.size ≤ X4.heap.size from hBt4.size) (.cells #[] 5)
  have hS5 := HSX.out _ hB5
  have hy : ∀ w, (convert 3 5 (.int .i64 n)).run Tryd.prog w = .ok (eB (u8Z n)) w := fun w => by
   have h1 := run_convert_int (P := Tryd.prog) (w := w) 3 5 .i64 n (by kernel_rfl) (by kernel_rfl)
   have hk : Tryd.prog.intKind 5 = .u8 := by kernel_rfl
   rw [hk] at h1
   rw [h1, ← u8Z_int]
  generalize u8Z n = by8 at *
  have hl60 := HL60.out
  obtain ⟨-, ⟨-, -, f5⟩⟩ := HC.out _ hB5
  have hb4 := R4.lt
  go_upto_region 8 with fail
  clear hW2 hX1 hX2 hX3 hX4 z0 y0 z3 y3 z7 y7 z10 y10 R0 R1 R2 R3 hA2 w1x w2x w3x w4x w5x a0 a1 a2 e0 e1 e2
  have q5 := (R4.alloc (.cells #[] 5)).cell 0
  go_wp2_with (first
   | (at_builtin
      refine wpList_append_sl _ rfl (.tmp 66) (.tmp 68) _ rfl X4.heap.size 5 i0 (.int .u8 0) 1 Tryd.underlying24 hi hz0 hz1 hz2 rfl _ 0 [] r1e rfl _ _ pay hS5 rfl (fun _ => rfl) (by unfold maxLen; omega) (by omega) (by simp) ?_
      intro v1 w6 hown1 hg1 hat1
      have R6 : Rowed w6 w1.heap.size 42 (c15 (65535 + n) PL (-n) PL G (D + R - 1 + n) G (-n) G PL (.slice Af pay.length cf) (.slice Af pay.length cf)) := (hg1.block _ (by simp; omega) (by simp [Value.ownBlock]; omega)).trans (R4.alloc _)
      have hB6 := hB5.trans (below_grown r1e hg1 (by have := hBt4.size; simp; omega) hBt4.size)
      have hown2 := hown1.alloc (.cells #[eB by8] 5)
      have hc1 := Sl.new eB w6 [by8] #[eB by8] 5 (0, 0) 1 1 rfl (Nat.le_refl _) (by simp)
      have hX4w : X4.heap.size ≤ w6.heap.size := by have := hg1.size; simp at this; omega)
   | (at_builtin
      refine wpList_append_sl _ rfl (.tmp 69) (.tmp 72) _ rfl X4.heap.size 5 i0 (.int .u8 0) 1 Tryd.underlying24 hi hz0 hz1 hz2 rfl _ _ _ hown2 rfl _ _ [by8] hc1 rfl (fun _ => rfl) (by unfold maxLen; simp only [List.length_singleton]; omega) (by simp only [List.length_singleton]; omega) (by rw [World.size_alloc]; omega) ?_
      intro v2 w8 hown8 hg8 hat8
      have hs8 : Sl eB w8.heap.size w8 v2 (pay ++ [by8]) := Sl.of_own (n := 0 + pay.length + [by8].length) (by simpa using hown8)
      have R8 : Rowed w8 w1.heap.size 42 (c15 (65535 + n) PL (-n) PL G (D + R - 1 + n) G (-n) G PL (.slice Af pay.length cf) (.slice Af pay.length cf)) := by
       refine (hg8.block _ (by have := R6.lt; rw [World.size_alloc]; omega) (fun e => ?_)).trans (R6.alloc _)
       rcases hown2.2 with ⟨e0, -⟩ | ⟨gk, cap, cur, e0, hk, -⟩
       · subst e0; cases e
       · subst e0
         have e' : some w1.heap.size = some gk := e
         injection e' with e'
         omega
      have hB8 : Below W0.heap.size W0 w8 := (hB6.alloc (Nat.le_trans hBt4.size hX4w) (.cells #[eB by8] 5)).trans (below_grown hown2 hg8 (by rw [World.size_alloc]; have := hBt4.size; omega) hBt4.size)
      obtain ⟨A8, c8, e8⟩ := hs8.len
      rw [List.length_append, List.length_singleton] at e8
      subst e8
      have z14 := R8.cell 14
      have y14 := R8.frozen 14))
  -- the five frames
  obtain ⟨X9, hX9⟩ : ∃ X, w8.setCell ⟨w1.heap.size, 14, none⟩ (.slice A8 (pay.length + 1) c8) = X := ⟨_, rfl⟩
  have R9 : Rowed X9 w1.heap.size 42 (c15 (65535 + n) PL (-n) PL G (D + R - 1 + n) G (-n) G PL (.slice Af pay.length cf) (.slice A8 (pay.length + 1) c8)) := by rw [← hX9]; exact R8.set 14 _
  have hB9 : Below W0.heap.size W0 X9 := by rw [← hX9]; exact hB8.setCell (p := ⟨w1.heap.size, 14, none⟩) (show W0.heap.size ≤ w1.heap.size from hB1.size) _
  have hsz9 : X9.heap.size = w8.heap.size := by rw [← hX9]; simp
  have hs9 : Sl eB X9.heap.size X9 (.slice A8 (pay.length + 1) c8) (pay ++ [by8]) := by rw [hsz9, ← hX9]; exact sl_setfive hs8 R8 14 _
  have HX9 := Lib.hid hX9
  have HNX := HNN.out
  have HFV := Lib.hid (show ∀ i, i < 5 → ∃ (Gi Li : Int) (vi : Value) (pi : List UInt8), chkF P D R Gi Li pi.length = 2 ∧ ∀ W, Below X9.heap.size X9 W → (W.cell? ⟨w1.heap.size, i * 3, none⟩ = some (.int .i64 Gi) ∧ W.cell? ⟨w1.heap.size, i * 3 + 1, none⟩ = some (.int .i64 Li) ∧ W.cell? ⟨w1.heap.size, i * 3 + 2, none⟩ = some vi) ∧ Sl eB W.heap.size W vi pi from fun i hi => by
   have hRW := fun W (h : Below X9.heap.size X9 W) => show Rowed W w1.heap.size 42 (c15 (65535 + n) PL (-n) PL G (D + R - 1 + n) G (-n) G PL (.slice Af pay.length cf) (.slice A8 (pay.length + 1) c8)) from (h.block _ R9.lt).trans R9
   have hSW := fun W (h : Below X9.heap.size X9 W) => HSX.out W (below_trans hB9 h)
   have hch : ∀ (a b : Int) (l : Nat), ¬ (0 ≤ a ∧ a ≤ 65535 ∧ 0 ≤ b ∧ b < D + R ∧ (l : Int) = P) → chkF P D R a b l = 2 := fun a b l h => by unfold chkF; rw [if_pos HM.out, if_neg h]
   obtain ⟨hn1, hn2⟩ := HNX
   rcases (show i = 0 ∨ i = 1 ∨ i = 2 ∨ i = 3 ∨ i = 4 by omega) with rfl | rfl | rfl | rfl | rfl
   · exact ⟨65535 + n, PL, _, pay, hch _ _ _ (by omega), fun W h => ⟨⟨(hRW W h).cell 0, (hRW W h).cell 1, (hRW W h).cell 2⟩, hSW W h⟩⟩
   · exact ⟨-n, PL, _, pay, hch _ _ _ (by omega), fun W h => ⟨⟨(hRW W h).cell 3, (hRW W h).cell 4, (hRW W h).cell 5⟩, hSW W h⟩⟩
   · exact ⟨G, D + R - 1 + n, _, pay, hch _ _ _ (by omega), fun W h => ⟨⟨(hRW W h).cell 6, (hRW W h).cell 7, (hRW W h).cell 8⟩, hSW W h⟩⟩
   · exact ⟨G, -n, _, pay, hch _ _ _ (by omega), fun W h => ⟨⟨(hRW W h).cell 9, (hRW W h).cell 10, (hRW W h).cell 11⟩, hSW W h⟩⟩
   · exact ⟨G, PL, _, pay ++ [by8], hch _ _ _ (by have := HCC.out.2.2.2.2; simp; omega), fun W h => ⟨⟨(hRW W h).cell 12, (hRW W h).cell 13, (hRW W h).cell 14⟩, hs9.next h⟩⟩)
  have HLN := Lib.hid (fun W (h : Below W0.heap.size W0 W) (Gi Li : Int) (vi : Value) (pi : List UInt8) (hc : chkF P D R Gi Li pi.length = 2) (hv : Sl eB W.heap.size W vi pi) => Letters_no P D R Gi Li vi pi 2 (by decide) hc W (HT.out W h) hv)
  have HCN := Lib.hid (fun W (h : Below W0.heap.size W0 W) (Gi Li : Int) (vi : Value) (pi : List UInt8) (hc : chkF P D R Gi Li pi.length = 2) (hv : Sl eB W.heap.size W vi pi) => show Calls Tryd.prog 15 #[shV P D R, frV Gi Li vi] W fun e w' => e = .returned (.int .i64 2) ∧ Below W.heap.size W w' from by
   have := FCheck_any P D R Gi Li vi pi W (HT.out W h).2.2.2.2 hv
   rwa [hc] at this)
  have HB9 := Lib.hid hB9
  rw [HX9.out]
  clear hg1 hat1 hown1 hown2 hc1 hg8 hat8 hown8 hs8 R8 R6 R4 R9 hs9 hsz9 hX9 HX9 hB8 hB6 hB5 hB9 hS5 r1e z14 y14 HNX hy q5 f5 hX4w hb4
  have hdr : Tryd.prog.follows .mixedOrders = true := by kernel_rfl
  go_wp2_with fail
  go_loopw [8] (fun t wr => ∃ i : Nat, i ≤ 5 ∧ t = .int .i64 i ∧ Below X9.heap.size X9 wr) (fun t _ => 5 - (RowKit.intOf t).toNat)
  case atStart => exact ⟨0, Nat.zero_le _, rfl, Below.refl _ _⟩
  case round =>
   obtain ⟨i, hi5, rfl, hB⟩ := hrel
   by_cases hlt : i < 5
   · obtain ⟨Gi, Li, vi, pi, hch, hcl⟩ := HFV.out i hlt
     obtain ⟨Av, cv, rfl⟩ := (hcl X9 (Below.refl _ _)).2.len
     have hci : (i : Int) < 5 := by omega
     have hB0 := below_trans HB9.out hB
     have HK := Lib.hid (fun W (h : Below wr.heap.size wr W) => HC.out W (below_trans hB0 h))
     have HK2 := Lib.hid (fun W (h : Below wr.heap.size wr W) => hcl W (below_trans hB h))
     have HL := Lib.hid (fun W (h : Below wr.heap.size wr W) => HLN.out W (below_trans hB0 h) Gi Li _ pi hch (hcl W (below_trans hB h)).2)
     have HCk := Lib.hid (fun W (h : Below wr.heap.size wr W) => HCN.out W (below_trans hB0 h) Gi Li _ pi hch (hcl W (below_trans hB h)).2)
     have HI := Lib.hid hlt
     have HB := Lib.hid hB
     clear hcl hch hlt hi5 hB hB0
     go_wp2_with fail
     refine wp_region_detB (Below wr.heap.size wr) [(81, shV P D R), (82, .int .i64 i), (83, .pointer (some ⟨w1.heap.size, i * 3, none⟩)), (84, frV Gi Li (.slice Av pi.length cv)), (85, .tuple #[.slice none 0 0, .int .i64 2]), (80, .tuple #[.slice none 0 0, .int .i64 2]), (86, .slice none 0 0), (87, .int .i64 2), (9, .slice none 0 0), (10, .int .i64 2)]
       (by kernel_rfl) (by kernel_rfl) (by kernel_rfl) (by kernel_rfl) (by kernel_rfl) ⟨rfl, rfl, rfl, Nat.le_refl _, fun _ _ => rfl⟩ ?ok1 ?fin1
     case ok1 =>
      intro A' hA'
      simp only [putAll, Act.put, List.setIfInBounds_toArray, List.set_cons_zero, List.set_cons_succ] at hA'
      subst hA'
      simp only [detAll]
      refine ⟨?_, ?_, ?_, ?_, ?_, ?_, ?_, ?_, ?_, ?_, trivial⟩
      all_goals
       intro w' hS'
       have HSS := Lib.hid hS'
       have q1 := HL.out w' hS'
       obtain ⟨⟨a0, a1, a2⟩, -⟩ := HK.out w' hS'
       obtain ⟨⟨e0, e1, e2⟩, -⟩ := HK2.out w' hS'
       clear hS'
       go_simp
       all_goals first
        | exact HSS.out
        | exact ⟨rfl, HSS.out⟩
        | (refine q1.mono ?_; rintro e w'' ⟨rfl, hB⟩; exact ⟨rfl, below_trans HSS.out hB⟩)
     case fin1 =>
      intro A' hA' w5 hS5
      simp only [putAll, Act.put, List.setIfInBounds_toArray, List.set_cons_zero, List.set_cons_succ] at hA'
      subst hA'
      have HW5 := Lib.hid (fun W (h : Below w5.heap.size w5 W) => below_trans hS5 h)
      clear hS5
      go_wp2_with fail
      refine wp_region_detB (Below w5.heap.size w5) [(88, .int .i64 2), (89, .bool false), (90, .bool false), (91, .slice none 0 0), (92, .int .i64 0), (93, .bool false), (94, .bool false), (95, .bool false), (96, shV P D R), (97, .int .i64 i), (98, .pointer (some ⟨w1.heap.size, i * 3, none⟩)), (99, frV Gi Li (.slice Av pi.length cv)), (100, .int .i64 2), (101, .bool false), (102, .bool false)]
        (by kernel_rfl) (by kernel_rfl) (by kernel_rfl) (by kernel_rfl) (by kernel_rfl) ⟨rfl, rfl, rfl, Nat.le_refl _, fun _ _ => rfl⟩ ?ok2 ?fin2
      case ok2 =>
       intro A' hA'
       simp only [putAll, Act.put, List.setIfInBounds_toArray, List.set_cons_zero, List.set_cons_succ] at hA'
       subst hA'
       simp only [detAll]
       refine ⟨?_, ?_, ?_, ?_, ?_, ?_, ?_, ?_, ?_, ?_, ?_, ?_, ?_, ?_, ?_, trivial⟩
       all_goals
        intro w' hS'
        have HSS := Lib.hid hS'
        have q1 := HCk.out w' (HW5.out w' hS')
        obtain ⟨⟨a0, a1, a2⟩, -⟩ := HK.out w' (HW5.out w' hS')
        obtain ⟨⟨e0, e1, e2⟩, -⟩ := HK2.out w' (HW5.out w' hS')
        clear hS'
        go_simp
        all_goals first
         | exact HSS.out
         | exact ⟨rfl, HSS.out⟩
         | (refine q1.mono ?_; rintro e w'' ⟨rfl, hB⟩; exact ⟨rfl, below_trans HSS.out hB⟩)
      case fin2 =>
       intro A' hA' w6 hS6
       simp only [putAll, Act.put, List.setIfInBounds_toArray, List.set_cons_zero, List.set_cons_succ] at hA'
       subst hA'
       have HB6 := Lib.hid (below_trans HB.out (HW5.out w6 hS6))
       clear hS6
       go_wp2_with fail
       go_roundw
       case rel => exact ⟨i + 1, HI.out, by go_num, HB6.out⟩
       case measure => have := HI.out; simp [RowKit.intOf]; omega
   · obtain rfl : i = 5 := by omega
     have hB0 := below_trans HB9.out hB
     have hq := HLA.out wr hB0
     obtain ⟨⟨a0, a1, a2⟩, ⟨a3, a4, a5⟩⟩ := HC.out wr hB0
     clear HFV HLN HCN hlt hi5 hB
     go_wp2_with fail
     go_at_call 7
     refine hq.mono ?_
     rintro e w5 ⟨vx, rfl, hx, hB5⟩
     have hBt5 := below_trans hB0 hB5
     obtain ⟨Ax, cx, hA, hcx, hcs⟩ := hx
     subst hA
     obtain ⟨bx, ox, rfl, hbx, hcell⟩ := hcs HX0.out
     have hx : Sl eB w5.heap.size w5 (.slice (some ⟨bx, ox, none⟩) x.length cx) x := ⟨_, cx, rfl, hcx, fun _ => ⟨bx, ox, rfl, hbx, hcell⟩⟩
     have hcn : ¬ cx = 1 := by have := HXL.out; omega
     have hl1 : (1 : Int) ≤ (x.length : Int) := by have := HXL.out; omega
     have hl2 : (1 : Int) ≤ (cx : Int) := by have := HXL.out; omega
     have hl3 : (x.length : Int) ≤ (cx : Int) := by omega
     have hl0 : ¬ x.length = 0 := by have := HXL.out; omega
     have hl4 : ((x.length : Int) == 0) = false := by rw [beq_eq_false_iff_ne]; omega
     have hx1 : Sl eB w5.heap.size w5 (.slice (some ⟨bx, ox + 1, none⟩) (x.length - 1) (cx - 1)) (x.drop 1) := hx.from_ (by omega) _ (fun _ => by simp [Addr.add])
     have HKc := Lib.hid (fun W (h : Below w5.heap.size w5 W) => (HC.out W (below_trans hBt5 h)).1)
     have HBk := Lib.hid (fun W (h : Below w5.heap.size w5 W) => Back_no P D R _ (x.drop 1) 2 HNX1.out W (HT.out W (below_trans hBt5 h)) (hx1.next h))
     have HB5 := Lib.hid hBt5
     have HX5 := Lib.hid hx
     clear a0 a1 a2 a3 a4 a5 hcell hcs hx1 hB5 hB0 hx hBt5
     go_wp2_with fail
     have hdr : Tryd.prog.follows .mixedOrders = true := by kernel_rfl
     refine wp_region_ghostB (FaS 7 8 w5) (fun g => [(117, shV P D R), (118, .slice (some ⟨bx, ox, none⟩) x.length cx), (119, .slice (some ⟨bx, ox + 1, none⟩) (x.length - 1) (cx - 1)), (120, .tuple #[frV 0 0 (.slice none 0 0), .int .i64 2]), (116, .tuple #[frV 0 0 (.slice none 0 0), .int .i64 2]), (121, frV 0 0 (.slice none 0 0)), (122, .int .i64 2), (13, g 7), (14, .int .i64 2)]) (fun _ => undef)
      (by kernel_rfl) (by kernel_rfl) (by kernel_rfl) (by kernel_rfl) (fun _ => by kernel_rfl) ?startA ?okA ?finA
     case startA =>
      intro D hD
      have n7 := hD 7 (by decide)
      have n8 := hD 8 (by decide)
      refine ⟨⟨rfl, rfl, rfl, Nat.le_refl _, fun _ _ => rfl⟩, ?_, ?_⟩
      all_goals (intro h; simp [n7, n8] at h)
     case okA =>
      intro T hT
      simp only [putAll, Act.put, List.setIfInBounds_toArray, List.set_cons_zero, List.set_cons_succ] at hT
      simp only [ghAll]
      refine ⟨?_, ?_, ?_, ?_, ?_, ?_, ?_, ?_, ?_, ?_, trivial⟩
      case refine_1 =>
       refine gh_same fun D g w' hD hdp hS => ?_
       obtain ⟨a0, a1, a2⟩ := HKc.out w' hS.1
       have hS2 := Lib.hid (hS.same (j := 0) (by decide) (by decide))
       rw [hT g]
       clear hT hS hdp hD
       go_simp
       all_goals first
        | exact hS2.out
        | exact ⟨rfl, hS2.out⟩
      case refine_2 =>
       refine gh_same fun D g w' hD hdp hS => ?_
       have hS2 := Lib.hid (hS.same (j := 1) (by decide) (by decide))
       rw [hT g]
       clear hT hS hdp hD
       go_simp
       all_goals first
        | exact hS2.out
        | exact ⟨rfl, hS2.out⟩
      case refine_3 =>
       refine gh_same fun D g w' hD hdp hS => ?_
       have hS2 := Lib.hid (hS.same (j := 2) (by decide) (by decide))
       rw [hT g]
       clear hT hS hdp hD
       go_simp
       all_goals first
        | exact hS2.out
        | exact ⟨rfl, hS2.out⟩
      case refine_4 =>
       refine gh_same fun D g w' hD hdp hS => ?_
       have hq := HBk.out w' hS.1
       have HSS := Lib.hid hS
       rw [hT g]
       clear hT hS hdp hD
       go_simp
       refine hq.mono ?_
       rintro e w'' ⟨rfl, hB⟩
       exact ⟨rfl, HSS.out.call (by decide) (by decide) hB⟩
      case refine_5 =>
       refine gh_same fun D g w' hD hdp hS => ?_
       have hS2 := Lib.hid (hS.same (j := 4) (by decide) (by decide))
       rw [hT g]
       clear hT hS hdp hD
       go_simp
       all_goals first
        | exact hS2.out
        | exact ⟨rfl, hS2.out⟩
      case refine_6 =>
       refine gh_same fun D g w' hD hdp hS => ?_
       have hS2 := Lib.hid (hS.same (j := 5) (by decide) (by decide))
       rw [hT g]
       clear hT hS hdp hD
       go_simp
       all_goals first
        | exact hS2.out
        | exact ⟨rfl, hS2.out⟩
      case refine_7 =>
       refine gh_same fun D g w' hD hdp hS => ?_
       have hS2 := Lib.hid (hS.same (j := 6) (by decide) (by decide))
       rw [hT g]
       clear hT hS hdp hD
       go_simp
       all_goals first
        | exact hS2.out
        | exact ⟨rfl, hS2.out⟩
      case refine_8 =>
       refine gh_put rfl rfl (fun g v => by rw [hT, hT]; rfl) fun D g w' hD hdp hS => ?_
       have hS2 := Lib.hid (hS.made (by decide) hD)
       rw [hT g]
       clear hT hS hdp
       go_simp
       exact hS2.out
      case refine_9 =>
       refine gh_same fun D g w' hD hdp hS => ?_
       have hds : D 7 = true := by simp [Region.binds] at hdp; simp [hdp]
       obtain ⟨q, eq, hNq, hrq⟩ := hS.2.1 hds hD
       have z0 := hrq.cell 0
       have z1 := hrq.cell 1
       have z2 := hrq.cell 2
       have zf := hrq.frozen
       have hS2 := Lib.hid (hS.stored (by decide) hds hD eq (.int .i64 0) (.int .i64 0) (.slice none 0 0))
       rw [hT g, eq]
       clear hT hS hdp hD eq hNq
       go_simp
       exact hS2.out
      case refine_10 =>
       refine gh_same fun D g w' hD hdp hS => ?_
       have hS2 := Lib.hid (hS.same (j := 9) (by decide) (by decide))
       rw [hT g]
       clear hT hS hdp hD
       go_simp
       all_goals first
        | exact hS2.out
        | exact ⟨rfl, hS2.out⟩
     case finA =>
      intro T hT DD g w6 hD hS
      simp only [putAll, Act.put, List.setIfInBounds_toArray, List.set_cons_zero, List.set_cons_succ] at hT
      rw [hT g]
      generalize g 7 = g7 at *
      have hBt6 := below_trans HB5.out hS.1
      have hx6 := HX5.out.next hS.1
      have HXc := Lib.hid (fun W (h : Below w6.heap.size w6 W) => hx6.next h)
      obtain ⟨Ax6, cx6, e6, hcx6, hcs6⟩ := hx6
      injection e6 with e61 e62 e63
      subst e61 e63
      obtain ⟨bx', ox', ex, hbx6, hcell6⟩ := hcs6 HX0.out
      injection ex with ex
      injection ex with ex1 ex2
      subst ex1 ex2
      have HKc := Lib.hid (fun W (h : Below w6.heap.size w6 W) => (HC.out W (below_trans hBt6 h)).1)
      have HCL := Lib.hid (fun W (h : Below w6.heap.size w6 W) (j : Nat) (u : Value) (hu : (x.map eB)[j]? = some u) => show W.cell? ((⟨bx, ox, none⟩ : Addr).add j) = some u from by
       rw [List.getElem?_map] at hu
       obtain ⟨c, hc, rfl⟩ := Option.map_eq_some_iff.1 hu
       rw [show (⟨bx, ox, none⟩ : Addr).add j = ⟨bx, ox + j, none⟩ from by unfold Addr.add; split <;> simp_all]
       exact (h.cell (p := ⟨bx, ox + j, none⟩) hbx6).trans (hcell6 j c hc))
      have HBk := Lib.hid (fun W v (h : Below w6.heap.size w6 W) (hv : Sl eB W.heap.size W v (x ++ [65])) => Back_no P D R v (x ++ [65]) 2 HNX2.out W (HT.out W (below_trans hBt6 h)) hv)
      have HB6 := Lib.hid hBt6
      have hxl := HXL.out
      clear hS hT hD hBt6 HX5 HB5 hcell6 hcs6
      go_wp2_with fail
      refine wp_region_ghostB (ErS w6 x) (fun g => [(124, shV P D R), (125, g 1), (126, .slice (some ⟨bx, ox, none⟩) x.length cx), (127, g 3), (128, g 4), (129, g 5), (130, .tuple #[frV 0 0 (.slice none 0 0), .int .i64 2]), (123, .tuple #[frV 0 0 (.slice none 0 0), .int .i64 2]), (131, frV 0 0 (.slice none 0 0)), (132, .int .i64 2), (15, g 10), (16, .int .i64 2)]) (fun _ => undef)
       (by kernel_rfl) (by kernel_rfl) (by kernel_rfl) (by kernel_rfl) (fun _ => by kernel_rfl) ?startB ?okB ?finB
      case startB =>
       intro D hD
       have n1 := hD 1 (by decide)
       have n3 := hD 3 (by decide)
       have n4 := hD 4 (by decide)
       have n5 := hD 5 (by decide)
       have n10 := hD 10 (by decide)
       have n11 := hD 11 (by decide)
       refine ⟨⟨⟨rfl, rfl, rfl, Nat.le_refl _, fun _ _ => rfl⟩, ?_, ?_⟩, ?_, ?_, ?_, ?_, ?_, ?_⟩
       all_goals (intro h; simp [n1, n3, n4, n5, n10, n11] at h)
      case okB =>
       intro T hT
       simp only [putAll, Act.put, List.setIfInBounds_toArray, List.set_cons_zero, List.set_cons_succ] at hT
       simp only [ghAll]
       refine ⟨?_, ?_, ?_, ?_, ?_, ?_, ?_, ?_, ?_, ?_, ?_, ?_, ?_, trivial⟩
       case refine_1 =>
        refine gh_same fun D g w' hD hdp hS => ?_
        obtain ⟨a0, a1, a2⟩ := HKc.out w' hS.1.1
        have hS2 := Lib.hid (hS.same (j := 0) (by decide) (by decide) (by decide) (by decide) (by decide) (by decide))
        rw [hT g]
        clear hT hS hdp hD
        go_simp
        all_goals first
         | exact hS2.out
         | exact ⟨rfl, hS2.out⟩
       case refine_2 =>
        refine gh_put rfl rfl (fun g v => by rw [hT, hT]; rfl) fun D g w' hD hdp hS => ?_
        have hS2 := Lib.hid (hS.op1 hD)
        rw [hT g]
        clear hT hS hdp
        go_simp
        exact hS2.out
       case refine_3 =>
        refine gh_same fun D g w' hD hdp hS => ?_
        have hS2 := Lib.hid (hS.same (j := 2) (by decide) (by decide) (by decide) (by decide) (by decide) (by decide))
        rw [hT g]
        clear hT hS hdp hD
        go_simp
        all_goals first
         | exact hS2.out
         | exact ⟨rfl, hS2.out⟩
       case refine_4 =>
        refine gh_put rfl rfl (fun g v => by rw [hT, hT]; rfl) fun D g w' hD hdp hS => ?_
        have hds : D 1 = true := by simp [Region.binds] at hdp; simp [hdp]
        obtain ⟨q, hg0, hNq, hrq⟩ := hS.2.1 hds hD
        have hown0 : w'.ownsRow w6.heap.size 5 1 (g 1) 0 [] := by
         rw [hg0]
         exact ⟨by simp, .inr ⟨q, 0, #[], rfl, hNq, hrq, Nat.le_refl _, by unfold maxLen; omega, rfl, rfl⟩⟩
        refine wp_append_own w' (.tmp 125) (.tmp 126) _ rfl w6.heap.size 5 i0 _ 1 1 Tryd.underlying24 hi hz0 hz1 hz2 (by decide) (by decide) (g 1) 0 [] (by rw [hT g]; rfl) hown0 ⟨bx, ox, none⟩ x.length cx (x.map eB) (by rw [hT g]; rfl) (by simp) (HCL.out w' hS.1.1) (by simp [Value.oneCell']) (by unfold maxLen; omega) (by omega) hS.1.1.size ?_
        intro v' w2 hown hgr _
        refine ⟨v', rfl, hS.op3 hD hds hNq hrq ?_ (by rw [hg0] at hgr; exact hgr)⟩
        simpa using hown
       case refine_5 =>
        refine gh_put rfl rfl (fun g v => by rw [hT, hT]; rfl) fun D g w' hD hdp hS => ?_
        have hS2 := Lib.hid (hS.op4 hD)
        rw [hT g]
        clear hT hS hdp
        go_simp
        exact hS2.out
       case refine_6 =>
        refine gh_put rfl rfl (fun g v => by rw [hT, hT]; rfl) fun D g w' hD hdp hS => ?_
        have hds : D 3 = true ∧ D 4 = true := by simp [Region.binds] at hdp; simp [hdp]
        obtain ⟨q, hg4, hrq⟩ := hS.2.2.2.1 hds.2 hD
        have hown2 := hS.2.2.1 hds.1 hD
        have hcq : ∀ j u, [eB 65][j]? = some u → w'.cell? ((⟨q, 0, none⟩ : Addr).add j) = some u := fun j u h => by
         have e : ((⟨q, 0, none⟩ : Addr).add j) = ⟨q, j, none⟩ := by unfold Addr.add; split <;> simp_all
         rw [e, hrq.cell]
         simpa using h
        refine wp_append_own w' (.tmp 127) (.tmp 128) _ rfl w6.heap.size 5 i0 _ 1 1 Tryd.underlying24 hi hz0 hz1 hz2 (by decide) (by decide) (g 3) x.length (x.map eB) (by rw [hT g]; rfl) hown2 ⟨q, 0, none⟩ 1 1 [eB 65] (by rw [hT g]; exact hg4) rfl hcq (by simp [Value.oneCell']) (by unfold maxLen; omega) (by omega) hS.1.1.size ?_
        intro v' w2 hown hgr _
        refine ⟨v', rfl, hS.op5 hds.1 hds.2 hD (Sl.of_own (n := x.length + 1) (by rw [List.map_append]; exact hown)) hgr⟩
       case refine_7 =>
        refine gh_same fun D g w' hD hdp hS => ?_
        have hds : D 5 = true := by simp [Region.binds] at hdp; simp [hdp]
        have hq := HBk.out w' (g 5) hS.1.1 (hS.2.2.2.2.1 hds)
        have HSS := Lib.hid (fun w'' (hB : Below w'.heap.size w' w'') => hS.call (j := 6) (by decide) (by decide) (by decide) (by decide) (by decide) (by decide) hds hB)
        rw [hT g]
        clear hT hS hdp hD
        go_simp
        refine hq.mono ?_
        rintro e w'' ⟨rfl, hB⟩
        exact ⟨rfl, HSS.out w'' hB⟩
       case refine_8 =>
        refine gh_same fun D g w' hD hdp hS => ?_
        have hS2 := Lib.hid (hS.same (j := 7) (by decide) (by decide) (by decide) (by decide) (by decide) (by decide))
        rw [hT g]
        clear hT hS hdp hD
        go_simp
        all_goals first
         | exact hS2.out
         | exact ⟨rfl, hS2.out⟩
       case refine_9 =>
        refine gh_same fun D g w' hD hdp hS => ?_
        have hS2 := Lib.hid (hS.same (j := 8) (by decide) (by decide) (by decide) (by decide) (by decide) (by decide))
        rw [hT g]
        clear hT hS hdp hD
        go_simp
        all_goals first
         | exact hS2.out
         | exact ⟨rfl, hS2.out⟩
       case refine_10 =>
        refine gh_same fun D g w' hD hdp hS => ?_
        have hS2 := Lib.hid (hS.same (j := 9) (by decide) (by decide) (by decide) (by decide) (by decide) (by decide))
        rw [hT g]
        clear hT hS hdp hD
        go_simp
        all_goals first
         | exact hS2.out
         | exact ⟨rfl, hS2.out⟩
       case refine_11 =>
        refine gh_put rfl rfl (fun g v => by rw [hT, hT]; rfl) fun D g w' hD hdp hS => ?_
        have hS2 := Lib.hid (hS.made hD)
        rw [hT g]
        clear hT hS hdp
        go_simp
        exact hS2.out
       case refine_12 =>
        refine gh_same fun D g w' hD hdp hS => ?_
        have hds : D 10 = true ∧ D 5 = true := by simp [Region.binds] at hdp; simp [hdp]
        obtain ⟨q, eq, hNq, hrq⟩ := hS.1.2.1 hds.1 hD
        have z0 := hrq.cell 0
        have z1 := hrq.cell 1
        have z2 := hrq.cell 2
        have zf := hrq.frozen
        have hS2 := Lib.hid (hS.stored hds.2 hds.1 hD eq)
        rw [hT g, eq]
        clear hT hS hdp hD eq hNq
        go_simp
        exact hS2.out
       case refine_13 =>
        refine gh_same fun D g w' hD hdp hS => ?_
        have hS2 := Lib.hid (hS.same (j := 12) (by decide) (by decide) (by decide) (by decide) (by decide) (by decide))
        rw [hT g]
        clear hT hS hdp hD
        go_simp
        all_goals first
         | exact hS2.out
         | exact ⟨rfl, hS2.out⟩
      case finB =>
       intro T hT DD g w7 hD hS
       simp only [putAll, Act.put, List.setIfInBounds_toArray, List.set_cons_zero, List.set_cons_succ] at hT
       rw [hT g]
       have hS1 := hS.1.1
       have hBt7 := below_trans HB6.out hS1
       have hq := Back_no 3 1 0 _ x 180 (if_neg (by decide)) w7 (HT.out w7 hBt7) (HXc.out w7 hS1)
       generalize g 1 = g1 at *
       generalize g 3 = g3 at *
       generalize g 4 = g4 at *
       generalize g 5 = g5 at *
       generalize g 10 = g10 at *
       have b23 : ∀ w, (Instr.build 23 #[(0, .int .i64 3), (1, .int .i64 1)]).run Tryd.prog w = .ok (shV 3 1 0) w := fun _ => by kernel_rfl
       clear hS hT hD HBk HCL HKc HXc hS1
       go_wp2_with fail
       go_at_call 9
       refine hq.mono ?_
       rintro e w8 ⟨rfl, hB8⟩
       have hBt8 := below_trans hBt7 hB8
       have hA9 := below_alloc w8 (.cells (frB 0 0 (.slice none 0 0)) 26)
       have hq := HWK.out _ (below_trans hBt8 hA9)
       clear hB8 hBt7
       go_wp2_with fail
       go_at_call 6
       refine hq.mono ?_
       rintro e w9 ⟨rfl, hB9⟩
       go_wp2_with fail
       go_ret
       exact ⟨rfl, below_trans (HW.out _ (below_trans hBt8 hA9)) hB9⟩
theorem FrameErrors_any (P D R G PL n : Int) (pf : Value) (pay : List UInt8) (w : World) (hT : Tabs w) (hf : Sl eB w.heap.size w pf pay) :
    Calls Tryd.prog 5 #[shV P D R, frV G PL pf, .int .i64 n] w fun e w' => e = .returned (.bool true) ∧ Below w.heap.size w w' := by
  by_cases h : pay.length ≤ 60 ∧ chkF P D R G PL pay.length = 0 ∧ 1 ≤ n ∧ n ≤ 1000
  · exact FErr_main P D R G PL n pf pay h.1 h.2.1 h.2.2.1 h.2.2.2 w hT hf
  · exact FErr_wk P D R G PL n pf pay h w hT hf
end Go.Proofs.YtjclfkbhakjdaaaDoor
