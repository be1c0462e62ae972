import Derived.Test.YtjclfkbhakjdaaaDoorFrRZ
import Derived.Test.YtjclfkbhakjdaaaDoorFrWZ
namespace Go.Proofs.YtjclfkbhakjdaaaDoor
open Go.RowKit Go.Shelf
attribute [local go_sem] Oper.semAt_some run_store_func
theorem below_drewX (W : World) : Below W.heap.size W W.drew := ⟨rfl, rfl, rfl, Nat.le_refl _, fun _ _ => rfl⟩
set_option maxRecDepth 100000 in
set_option maxHeartbeats 8000000 in
theorem FBack_wk (P D R G PL G' PL' : Int) (pf pg : Value) (pay pay' : List UInt8) (h : ¬ (pay.length ≤ 60 ∧ pay'.length ≤ 60)) (w : World) (hT : Tabs w) (hf : Sl eB w.heap.size w pf pay) (hg : Sl eB w.heap.size w pg pay') :
    Calls Tryd.prog 3 #[shV P D R, frV G PL pf, frV G' PL' pg] w fun e w' => e = .returned (.bool true) ∧ Below w.heap.size w w' := by
  obtain ⟨Af, cf, rfl⟩ := hf.len
  obtain ⟨Ag, cg, rfl⟩ := hg.len
  have hc1 : (shV P D R).cells = shB P D R := rfl
  have hc2 : (frV G PL (.slice Af pay.length cf)).cells = frB G PL (.slice Af pay.length cf) := rfl
  have hc3 : (frV G' PL' (.slice Ag pay'.length cg)).cells = frB G' PL' (.slice Ag pay'.length cg) := rfl
  obtain ⟨W0, hW0⟩ : ∃ W0, ((w.alloc (.cells (shB P D R) 23)).alloc (.cells (frB G PL (.slice Af pay.length cf)) 26)).alloc (.cells (frB G' PL' (.slice Ag pay'.length cg)) 26) = W0 := ⟨_, rfl⟩
  have hA : Below w.heap.size w W0 := by rw [← hW0]; exact ((below_alloc w _).alloc (by simp) _).alloc (by simp; omega) _
  have r3 : Rowed W0 w.heap.size 23 (shB P D R) := by rw [← hW0]; exact ((Rowed.new w 23 _).alloc _).alloc _
  have r4 : Rowed W0 (w.heap.size + 1) 26 (frB G PL (.slice Af pay.length cf)) := by
   rw [← hW0]
   have := (Rowed.new (w.alloc (.cells (shB P D R) 23)) 26 (frB G PL (.slice Af pay.length cf))).alloc (.cells (frB G' PL' (.slice Ag pay'.length cg)) 26)
   simpa only [World.size_alloc] using this
  have r5 : Rowed W0 (w.heap.size + 1 + 1) 26 (frB G' PL' (.slice Ag pay'.length cg)) := by
   rw [← hW0]
   have := Rowed.new ((w.alloc (.cells (shB P D R) 23)).alloc (.cells (frB G PL (.slice Af pay.length cf)) 26)) 26 (frB G' PL' (.slice Ag pay'.length cg))
   simpa only [World.size_alloc] using this
  have HC := Lib.hid (fun W (h : Below W0.heap.size W0 W) =>
   have q3 : Rowed W w.heap.size 23 (shB P D R) := (h.block _ r3.lt).trans r3
   have q4 : Rowed W (w.heap.size + 1) 26 (frB G PL (.slice Af pay.length cf)) := (h.block _ r4.lt).trans r4
   have q5 : Rowed W (w.heap.size + 1 + 1) 26 (frB G' PL' (.slice Ag pay'.length cg)) := (h.block _ r5.lt).trans r5
   show (W.cell? ⟨w.heap.size, 0, none⟩ = some (.int .i64 P) ∧ W.cell? ⟨w.heap.size, 1, none⟩ = some (.int .i64 D) ∧ W.cell? ⟨w.heap.size, 2, none⟩ = some (.int .i64 R)) ∧ (W.cell? ⟨w.heap.size + 1, 0, none⟩ = some (.int .i64 G) ∧ W.cell? ⟨w.heap.size + 1, 1, none⟩ = some (.int .i64 PL) ∧ W.cell? ⟨w.heap.size + 1, 2, none⟩ = some (.slice Af pay.length cf)) ∧ (W.cell? ⟨w.heap.size + 1 + 1, 0, none⟩ = some (.int .i64 G') ∧ W.cell? ⟨w.heap.size + 1 + 1, 1, none⟩ = some (.int .i64 PL') ∧ W.cell? ⟨w.heap.size + 1 + 1, 2, none⟩ = some (.slice Ag pay'.length cg)) from
     ⟨⟨q3.cell 0, q3.cell 1, q3.cell 2⟩, ⟨q4.cell 0, q4.cell 1, q4.cell 2⟩, ⟨q5.cell 0, q5.cell 1, q5.cell 2⟩⟩)
  have HW := Lib.hid (fun W (h : Below W0.heap.size W0 W) => below_trans hA h)
  have HT := Lib.hid (fun W (h : Below W0.heap.size W0 W) => hT.below (below_trans hA h))
  have HF := Lib.hid (fun W (h : Below W0.heap.size W0 W) => (hf.next hA).next h)
  have HG := Lib.hid (fun W (h : Below W0.heap.size W0 W) => (hg.next hA).next h)
  obtain ⟨⟨a0, a1, a2⟩, ⟨a3, a4, a5⟩, ⟨a6, a7, a8⟩⟩ := HC.out W0 (Below.refl _ _)
  have hwk := wakes_any W0 (HT.out W0 (Below.refl _ _))
  have HA := Lib.hid hA
  clear HC HW HT HF HG hf hg hT r3 r4 r5 hA
  by_cases h1 : pay.length ≤ 60
  · have d1 : decide ((60 : Int) < (pay.length : Int)) = false := decide_eq_false (by omega)
    have d2 : decide ((60 : Int) < (pay'.length : Int)) = true := decide_eq_true (by have : ¬ pay'.length ≤ 60 := fun h2 => h ⟨h1, h2⟩; omega)
    clear h h1
    go_enter Tryd.func3, Tryd.ntmps3
    go_wp2_with fail
    go_at_call 6
    refine hwk.mono ?_
    rintro e w1 ⟨rfl, hB⟩
    go_wp2_with fail
    go_ret
    exact ⟨rfl, below_trans HA.out hB⟩
  · have d1 : decide ((60 : Int) < (pay.length : Int)) = true := decide_eq_true (by omega)
    clear h h1
    go_enter Tryd.func3, Tryd.ntmps3
    go_wp2_with fail
    go_at_call 6
    refine hwk.mono ?_
    rintro e w1 ⟨rfl, hB⟩
    go_wp2_with fail
    go_ret
    exact ⟨rfl, below_trans HA.out hB⟩
set_option maxRecDepth 100000 in
set_option maxHeartbeats 8000000 in
theorem FBack_bad (P D R G PL G' PL' : Int) (pf pg : Value) (pay pay' : List UInt8) (h1 : pay.length ≤ 60) (h2 : pay'.length ≤ 60) (E : Int) (hn : E ≠ 0) (hE : chkF P D R G PL pay.length = E) (w : World) (hT : Tabs w) (hf : Sl eB w.heap.size w pf pay) (hg : Sl eB w.heap.size w pg pay') :
    Calls Tryd.prog 3 #[shV P D R, frV G PL pf, frV G' PL' pg] w fun e w' => e = .returned (.bool true) ∧ Below w.heap.size w w' := by
  obtain ⟨Af, cf, rfl⟩ := hf.len
  obtain ⟨Ag, cg, rfl⟩ := hg.len
  have hc1 : (shV P D R).cells = shB P D R := rfl
  have hc2 : (frV G PL (.slice Af pay.length cf)).cells = frB G PL (.slice Af pay.length cf) := rfl
  have hc3 : (frV G' PL' (.slice Ag pay'.length cg)).cells = frB G' PL' (.slice Ag pay'.length cg) := rfl
  obtain ⟨W0, hW0⟩ : ∃ W0, ((w.alloc (.cells (shB P D R) 23)).alloc (.cells (frB G PL (.slice Af pay.length cf)) 26)).alloc (.cells (frB G' PL' (.slice Ag pay'.length cg)) 26) = W0 := ⟨_, rfl⟩
  have hA : Below w.heap.size w W0 := by rw [← hW0]; exact ((below_alloc w _).alloc (by simp) _).alloc (by simp; omega) _
  have r3 : Rowed W0 w.heap.size 23 (shB P D R) := by rw [← hW0]; exact ((Rowed.new w 23 _).alloc _).alloc _
  have r4 : Rowed W0 (w.heap.size + 1) 26 (frB G PL (.slice Af pay.length cf)) := by
   rw [← hW0]
   have := (Rowed.new (w.alloc (.cells (shB P D R) 23)) 26 (frB G PL (.slice Af pay.length cf))).alloc (.cells (frB G' PL' (.slice Ag pay'.length cg)) 26)
   simpa only [World.size_alloc] using this
  have r5 : Rowed W0 (w.heap.size + 1 + 1) 26 (frB G' PL' (.slice Ag pay'.length cg)) := by
   rw [← hW0]
   have := Rowed.new ((w.alloc (.cells (shB P D R) 23)).alloc (.cells (frB G PL (.slice Af pay.length cf)) 26)) 26 (frB G' PL' (.slice Ag pay'.length cg))
   simpa only [World.size_alloc] using this
  have HC := Lib.hid (fun W (h : Below W0.heap.size W0 W) =>
   have q3 : Rowed W w.heap.size 23 (shB P D R) := (h.block _ r3.lt).trans r3
   have q4 : Rowed W (w.heap.size + 1) 26 (frB G PL (.slice Af pay.length cf)) := (h.block _ r4.lt).trans r4
   have q5 : Rowed W (w.heap.size + 1 + 1) 26 (frB G' PL' (.slice Ag pay'.length cg)) := (h.block _ r5.lt).trans r5
   show (W.cell? ⟨w.heap.size, 0, none⟩ = some (.int .i64 P) ∧ W.cell? ⟨w.heap.size, 1, none⟩ = some (.int .i64 D) ∧ W.cell? ⟨w.heap.size, 2, none⟩ = some (.int .i64 R)) ∧ (W.cell? ⟨w.heap.size + 1, 0, none⟩ = some (.int .i64 G) ∧ W.cell? ⟨w.heap.size + 1, 1, none⟩ = some (.int .i64 PL) ∧ W.cell? ⟨w.heap.size + 1, 2, none⟩ = some (.slice Af pay.length cf)) ∧ (W.cell? ⟨w.heap.size + 1 + 1, 0, none⟩ = some (.int .i64 G') ∧ W.cell? ⟨w.heap.size + 1 + 1, 1, none⟩ = some (.int .i64 PL') ∧ W.cell? ⟨w.heap.size + 1 + 1, 2, none⟩ = some (.slice Ag pay'.length cg)) from
     ⟨⟨q3.cell 0, q3.cell 1, q3.cell 2⟩, ⟨q4.cell 0, q4.cell 1, q4.cell 2⟩, ⟨q5.cell 0, q5.cell 1, q5.cell 2⟩⟩)
  have HW := Lib.hid (fun W (h : Below W0.heap.size W0 W) => below_trans hA h)
  have HT := Lib.hid (fun W (h : Below W0.heap.size W0 W) => hT.below (below_trans hA h))
  have HF := Lib.hid (fun W (h : Below W0.heap.size W0 W) => (hf.next hA).next h)
  have HG := Lib.hid (fun W (h : Below W0.heap.size W0 W) => (hg.next hA).next h)
  obtain ⟨⟨a0, a1, a2⟩, ⟨a3, a4, a5⟩, ⟨a6, a7, a8⟩⟩ := HC.out W0 (Below.refl _ _)
  have d1 : decide ((60 : Int) < (pay.length : Int)) = false := decide_eq_false (by omega)
  have d2 : decide ((60 : Int) < (pay'.length : Int)) = false := decide_eq_false (by omega)
  have hq := Letters_any P D R G PL _ pay W0 (HT.out W0 (Below.refl _ _)) (HF.out W0 (Below.refl _ _))
  have HQ2 := Lib.hid (fun W (h : Below W0.heap.size W0 W) => Letters_any P D R G' PL' _ pay' W (HT.out W h) (HG.out W h))
  have HQ3 := Lib.hid (fun W (h : Below W0.heap.size W0 W) => RFCheck_any P D R G PL _ pay W (HF.out W h))
  have HWK := Lib.hid (fun W (h : Below W0.heap.size W0 W) => wakes_any W (HT.out W h))
  have hl0 : letE P D R G PL pay = [] := if_neg (by rw [hE]; exact hn)
  rw [hE, hl0] at hq
  rw [hE] at HQ3
  have hE0 : (E == 0) = false := by rw [beq_eq_false_iff_ne]; exact hn
  have hEE : (E == E) = true := beq_self_eq_true _
  clear hf hg hT r3 r4 r5 HF HG HT h1 h2 hE hn hl0
  go_enter Tryd.func3, Tryd.ntmps3
  go_wp2_with fail
  go_at_call 7
  refine hq.mono ?_
  rintro e w1 ⟨vx, rfl, hx, hB1⟩
  obtain ⟨Ax, cx, rfl⟩ := hx.len
  have hq := HQ2.out w1 hB1
  clear a0 a1 a2 a3 a4 a5 a6 a7 a8 hW0
  obtain ⟨⟨a0, a1, a2⟩, ⟨a3, a4, a5⟩, ⟨a6, a7, a8⟩⟩ := HC.out w1 hB1
  go_wp2_with fail
  go_at_call 7
  refine hq.mono ?_
  rintro e w2 ⟨vy, rfl, hy, hB2⟩
  have hBt2 := below_trans hB1 hB2
  have hq := HQ3.out w2 hBt2
  clear a0 a1 a2 a3 a4 a5 a6 a7 a8 hx hy
  obtain ⟨⟨a0, a1, a2⟩, ⟨a3, a4, a5⟩, ⟨a6, a7, a8⟩⟩ := HC.out w2 hBt2
  go_wp2_with fail
  go_at_call 8
  refine hq.mono ?_
  rintro e w3 ⟨rfl, hB3⟩
  have hBt3 := below_trans hBt2 hB3
  have hq := HQ3.out w3 hBt3
  clear a0 a1 a2 a3 a4 a5 a6 a7 a8
  obtain ⟨⟨a0, a1, a2⟩, ⟨a3, a4, a5⟩, ⟨a6, a7, a8⟩⟩ := HC.out w3 hBt3
  go_wp2_with fail
  go_at_call 8
  refine hq.mono ?_
  rintro e w4 ⟨rfl, hB4⟩
  have hBt4 := below_trans hBt3 hB4
  have hq := HWK.out w4 hBt4
  clear a0 a1 a2 a3 a4 a5 a6 a7 a8
  go_wp2_with fail
  go_at_call 6
  refine hq.mono ?_
  rintro e w5 ⟨rfl, hB5⟩
  go_wp2_with fail
  go_ret
  exact ⟨rfl, below_trans (HW.out w4 hBt4) hB5⟩
set_option maxRecDepth 100000 in
set_option maxHeartbeats 8000000 in
theorem FBack_main (P D R G PL G' PL' : Int) (pf pg : Value) (pay pay' : List UInt8) (h1 : pay.length ≤ 60) (h2 : pay'.length ≤ 60) (hE : chkF P D R G PL pay.length = 0) (w : World) (hT : Tabs w) (hf : Sl eB w.heap.size w pf pay) (hg : Sl eB w.heap.size w pg pay') :
    Calls Tryd.prog 3 #[shV P D R, frV G PL pf, frV G' PL' pg] w fun e w' => e = .returned (.bool true) ∧ Below w.heap.size w w' := by
  obtain ⟨Af, cf, rfl⟩ := hf.len
  obtain ⟨Ag, cg, rfl⟩ := hg.len
  have hc1 : (shV P D R).cells = shB P D R := rfl
  have hc2 : (frV G PL (.slice Af pay.length cf)).cells = frB G PL (.slice Af pay.length cf) := rfl
  have hc3 : (frV G' PL' (.slice Ag pay'.length cg)).cells = frB G' PL' (.slice Ag pay'.length cg) := rfl
  obtain ⟨W0, hW0⟩ : ∃ W0, ((w.alloc (.cells (shB P D R) 23)).alloc (.cells (frB G PL (.slice Af pay.length cf)) 26)).alloc (.cells (frB G' PL' (.slice Ag pay'.length cg)) 26) = W0 := ⟨_, rfl⟩
  have hA : Below w.heap.size w W0 := by rw [← hW0]; exact ((below_alloc w _).alloc (by simp) _).alloc (by simp; omega) _
  have r3 : Rowed W0 w.heap.size 23 (shB P D R) := by rw [← hW0]; exact ((Rowed.new w 23 _).alloc _).alloc _
  have r4 : Rowed W0 (w.heap.size + 1) 26 (frB G PL (.slice Af pay.length cf)) := by
   rw [← hW0]
   have := (Rowed.new (w.alloc (.cells (shB P D R) 23)) 26 (frB G PL (.slice Af pay.length cf))).alloc (.cells (frB G' PL' (.slice Ag pay'.length cg)) 26)
   simpa only [World.size_alloc] using this
  have r5 : Rowed W0 (w.heap.size + 1 + 1) 26 (frB G' PL' (.slice Ag pay'.length cg)) := by
   rw [← hW0]
   have := Rowed.new ((w.alloc (.cells (shB P D R) 23)).alloc (.cells (frB G PL (.slice Af pay.length cf)) 26)) 26 (frB G' PL' (.slice Ag pay'.length cg))
   simpa only [World.size_alloc] using this
  have HC := Lib.hid (fun W (h : Below W0.heap.size W0 W) =>
   have q3 : Rowed W w.heap.size 23 (shB P D R) := (h.block _ r3.lt).trans r3
   have q4 : Rowed W (w.heap.size + 1) 26 (frB G PL (.slice Af pay.length cf)) := (h.block _ r4.lt).trans r4
   have q5 : Rowed W (w.heap.size + 1 + 1) 26 (frB G' PL' (.slice Ag pay'.length cg)) := (h.block _ r5.lt).trans r5
   show (W.cell? ⟨w.heap.size, 0, none⟩ = some (.int .i64 P) ∧ W.cell? ⟨w.heap.size, 1, none⟩ = some (.int .i64 D) ∧ W.cell? ⟨w.heap.size, 2, none⟩ = some (.int .i64 R)) ∧ (W.cell? ⟨w.heap.size + 1, 0, none⟩ = some (.int .i64 G) ∧ W.cell? ⟨w.heap.size + 1, 1, none⟩ = some (.int .i64 PL) ∧ W.cell? ⟨w.heap.size + 1, 2, none⟩ = some (.slice Af pay.length cf)) ∧ (W.cell? ⟨w.heap.size + 1 + 1, 0, none⟩ = some (.int .i64 G') ∧ W.cell? ⟨w.heap.size + 1 + 1, 1, none⟩ = some (.int .i64 PL') ∧ W.cell? ⟨w.heap.size + 1 + 1, 2, none⟩ = some (.slice Ag pay'.length cg)) from
     ⟨⟨q3.cell 0, q3.cell 1, q3.cell 2⟩, ⟨q4.cell 0, q4.cell 1, q4.cell 2⟩, ⟨q5.cell 0, q5.cell 1, q5.cell 2⟩⟩)
  have HW := Lib.hid (fun W (h : Below W0.heap.size W0 W) => below_trans hA h)
  have HT := Lib.hid (fun W (h : Below W0.heap.size W0 W) => hT.below (below_trans hA h))
  have HF := Lib.hid (fun W (h : Below W0.heap.size W0 W) => (hf.next hA).next h)
  have HG := Lib.hid (fun W (h : Below W0.heap.size W0 W) => (hg.next hA).next h)
  obtain ⟨⟨a0, a1, a2⟩, ⟨a3, a4, a5⟩, ⟨a6, a7, a8⟩⟩ := HC.out W0 (Below.refl _ _)
  have d1 : decide ((60 : Int) < (pay.length : Int)) = false := decide_eq_false (by omega)
  have d2 : decide ((60 : Int) < (pay'.length : Int)) = false := decide_eq_false (by omega)
  have hq := Letters_any P D R G PL _ pay W0 (HT.out W0 (Below.refl _ _)) (HF.out W0 (Below.refl _ _))
  have HQ2 := Lib.hid (fun W (h : Below W0.heap.size W0 W) => Letters_any P D R G' PL' _ pay' W (HT.out W h) (HG.out W h))
  have HQ3 := Lib.hid (fun W (h : Below W0.heap.size W0 W) => RFCheck_any P D R G PL _ pay W (HF.out W h))
  obtain ⟨hm, c1, c2, c3, c4, c5⟩ := chk_yes hE
  obtain ⟨k, hk, hP⟩ := Sh.payOk_at hm.1
  have hl5 : (saidG G PL pay).length = 5 * (k + 1) := by rw [saidG_length]; unfold Sh.pay at hP; omega
  have HWK := Lib.hid (fun W (h : Below W0.heap.size W0 W) => wakes_any W (HT.out W h))
  have hl0 : letE P D R G PL pay = lettersG (saidG G PL pay) := if_pos hE
  have HBK := Lib.hid (back_let hE)
  have hlen := letters_len hk hl5
  have hhalf := half_let hl5 hk
  have hrun := run_let (saidG G PL pay)
  rw [hE, hl0] at hq
  rw [hE] at HQ3
  obtain ⟨x, hx⟩ : ∃ x, lettersG (saidG G PL pay) = x := ⟨_, rfl⟩
  rw [hx] at hq HBK hlen hhalf hrun
  have hx140 : x.length ≤ 140 := by unfold Sh.innerK Sh.bodyK Sh.indexK at hlen; split at hlen <;> omega
  have HIN := Lib.hid (fun (W : World) => Sh.RInner_yes k hk D R hm.2 W)
  rw [← hP, ← hlen] at HIN
  have HBX := Lib.hid (fun W v (h : Below W0.heap.size W0 W) (hx : Sl eB W.heap.size W v x) => Back_any P D R v x W (HT.out W h) hx)
  have HGC := Lib.hid (fun (W : World) v (h : Sl eB W.heap.size W v x) => Bt.Gc_any v x (by omega) W.heap.size W h)
  have HRN := Lib.hid (fun (W : World) v (h : Sl eB W.heap.size W v x) => rRun_any v x (by omega) W h)
  obtain ⟨gc, hgc⟩ : ∃ g, Bt.gcOf x = g := ⟨_, rfl⟩
  obtain ⟨rn, hrn⟩ : ∃ g, runS x = g := ⟨_, rfl⟩
  rw [hgc] at HGC hhalf
  rw [hrn] at HRN hrun
  have hgl : ((2 * (gc : Int)) == (x.length : Int)) = true := by rw [beq_iff_eq]; omega
  have hgl2 : (((gc : Int) * 2) == (x.length : Int)) = true := by rw [beq_iff_eq]; omega
  have hgw : IntKind.i64.wrap (2 * (gc : Int)) = 2 * (gc : Int) := IntWalk.i64_in _ (by omega)
  have hgw2 : IntKind.i64.wrap ((gc : Int) * 2) = (gc : Int) * 2 := IntWalk.i64_in _ (by omega)
  have hrl : decide ((3 : Int) < (rn : Int)) = false := decide_eq_false (by omega)
  have HSX := Lib.hid (fun W (u v : Value) (y : List UInt8) (h1 : Sl eB W.heap.size W u x) (h2 : Sl eB W.heap.size W v y) => same_any u v x y W.heap.size W h1 h2)
  have HSM := Lib.hid (fun W (v : Value) (h : Below W0.heap.size W0 W) (hv : Sl eB W.heap.size W v pay) => RSame_any G PL G PL v (.slice Af pay.length cf) pay pay W hv (HF.out W h))
  have HSG := Lib.hid (fun W (h : Below W0.heap.size W0 W) => RSame_any G PL G' PL' (.slice Af pay.length cf) (.slice Ag pay'.length cg) pay pay' W (HF.out W h) (HG.out W h))
  rw [decide_eq_true (show G = G ∧ PL = PL ∧ pay = pay from ⟨rfl, rfl, rfl⟩)] at HSM
  have HEQ := Lib.hid (show chkF P D R G' PL' pay'.length = 0 → decide (x = letE P D R G' PL' pay') = decide (G = G' ∧ PL = PL' ∧ pay = pay') from fun h' => by
   have hl' : letE P D R G' PL' pay' = lettersG (saidG G' PL' pay') := if_pos h'
   rw [hl', ← hx]
   refine decide_eq_decide.2 ⟨fun e => ?_, fun e => by rw [e.1, e.2.1, e.2.2]⟩
   have b1 := back_let hE
   have b2 := back_let h'
   rw [e, b2] at b1
   injection b1 with b1
   injection b1 with e1 e2
   injection e2 with e2 e3
   exact ⟨e1.symm, e2.symm, e3.symm⟩)
  obtain ⟨E2, hE2⟩ : ∃ e, chkF P D R G' PL' pay'.length = e := ⟨_, rfl⟩
  obtain ⟨y, hy⟩ : ∃ y, letE P D R G' PL' pay' = y := ⟨_, rfl⟩
  rw [hE2, hy] at HQ2 HEQ
  have hdr : Tryd.prog.follows .mixedOrders = true := by kernel_rfl
  clear hf hg hT r3 r4 r5 HF HG HT h1 h2 hE hl0 hm c1 c2 c3 c4 c5 hk hP hl5 hlen hhalf hrun hx hx140 hgc hrn hE2 hy
  go_enter Tryd.func3, Tryd.ntmps3
  go_wp2_with fail
  go_at_call 7
  refine hq.mono ?_
  rintro e w1 ⟨vx, rfl, hx, hB1⟩
  obtain ⟨Ax, cx, rfl⟩ := hx.len
  have hq := HQ2.out w1 hB1
  clear a0 a1 a2 a3 a4 a5 a6 a7 a8 hW0 HQ2
  obtain ⟨⟨a0, a1, a2⟩, ⟨a3, a4, a5⟩, ⟨a6, a7, a8⟩⟩ := HC.out w1 hB1
  go_wp2_with fail
  go_at_call 7
  refine hq.mono ?_
  rintro e w2 ⟨vy, rfl, hy, hB2⟩
  obtain ⟨Ay, cy, rfl⟩ := hy.len
  have hBt2 := below_trans hB1 hB2
  have hx2 := hx.next hB2
  have hq := HQ3.out w2 hBt2
  clear a0 a1 a2 a3 a4 a5 a6 a7 a8 hx hB1 hB2 HQ3
  obtain ⟨⟨a0, a1, a2⟩, ⟨a3, a4, a5⟩, ⟨a6, a7, a8⟩⟩ := HC.out w2 hBt2
  go_wp2_with fail
  go_at_call 8
  refine hq.mono ?_
  rintro e w3 ⟨rfl, hB3⟩
  have hBt3 := below_trans hBt2 hB3
  have hx3 := hx2.next hB3
  have hy3 := hy.next hB3
  have hq := HBX.out w3 _ hBt3 hx3
  clear a0 a1 a2 a3 a4 a5 a6 a7 a8 hx2 hy hB3 hBt2 HBX
  obtain ⟨⟨a0, a1, a2⟩, ⟨a3, a4, a5⟩, ⟨a6, a7, a8⟩⟩ := HC.out w3 hBt3
  go_wp2_with fail
  go_at_call 9
  refine hq.mono ?_
  rintro e w4 ⟨Gb, PLb, payb, vb, Eb, rfl, hto, hb, hB4⟩
  obtain ⟨rfl, rfl, rfl, rfl⟩ := back_told hto HBK.out
  obtain ⟨Ab, cb, rfl⟩ := hb.len
  have hBt4 := below_trans hBt3 hB4
  have hx4 := hx3.next hB4
  have hy4 := hy3.next hB4
  clear a0 a1 a2 a3 a4 a5 a6 a7 a8 hx3 hy3 hB4 hBt3 HBK hto hq
  obtain ⟨W5, hW5⟩ : ∃ W5, w4.alloc (.cells (frB Gb PLb (.slice Ab payb.length cb)) 26) = W5 := ⟨_, rfl⟩
  have hA5 : Below w4.heap.size w4 W5 := by rw [← hW5]; exact below_alloc w4 _
  have r11 : Rowed W5 w4.heap.size 26 (frB Gb PLb (.slice Ab payb.length cb)) := by rw [← hW5]; exact Rowed.new w4 _ _
  have hBt5 := below_trans hBt4 hA5
  have hx5 := hx4.next hA5
  have hy5 := hy4.next hA5
  have hq := HSM.out W5 _ hBt5 (hb.next hA5)
  have l0 := r11.cell 0
  have l1 := r11.cell 1
  have l2 := r11.cell 2
  clear hx4 hy4 hb hA5 hBt4 r11 HSM
  obtain ⟨⟨a0, a1, a2⟩, ⟨a3, a4, a5⟩, ⟨a6, a7, a8⟩⟩ := HC.out W5 hBt5
  go_wp2_with fail
  go_at_call 10
  refine hq.mono ?_
  rintro e w6 ⟨rfl, hB6⟩
  have hBt6 := below_trans hBt5 hB6
  have hx6 := hx5.next hB6
  have hy6 := hy5.next hB6
  have hq := HIN.out w6
  clear a0 a1 a2 a3 a4 a5 a6 a7 a8 l0 l1 l2 hx5 hy5 hB6 hBt5 hW5
  obtain ⟨⟨a0, a1, a2⟩, ⟨a3, a4, a5⟩, ⟨a6, a7, a8⟩⟩ := HC.out w6 hBt6
  go_wp2_with fail
  go_at_call 11
  refine hq.mono ?_
  rintro e w7 ⟨rfl, hB7⟩
  have hBt7 := below_trans hBt6 hB7
  have hx7 := hx6.next hB7
  have hy7 := hy6.next hB7
  have hq := HGC.out w7 _ hx7
  clear a0 a1 a2 a3 a4 a5 a6 a7 a8 hx6 hy6 hB7 hBt6
  go_wp2_with fail
  go_at_call 12
  refine hq.mono ?_
  rintro e w8 ⟨rfl, rfl⟩
  have hq := HRN.out w7 _ hx7
  go_wp2_with fail
  go_at_call 13
  refine hq.mono ?_
  rintro e w8 ⟨rfl, hB8⟩
  have hBt8 := below_trans hBt7 hB8
  have hx8 := hx7.next hB8
  have hy8 := hy7.next hB8
  clear hq hx7 hy7 hB8 hBt7 HGC HRN HIN
  go_wp2_with fail
  have HK := Lib.hid (fun W (h : Below w8.heap.size w8 W) => HC.out W (below_trans hBt8 h))
  have HS1 := Lib.hid (fun W (h : Below w8.heap.size w8 W) => HSX.out W _ _ y (hx8.next h) (hy8.next h))
  have HS2 := Lib.hid (fun W (h : Below w8.heap.size w8 W) => HSG.out W (below_trans hBt8 h))
  have HS3 := Lib.hid (fun W (h : Below w8.heap.size w8 W) => HWK.out W (below_trans hBt8 h))
  have HBx := Lib.hid (fun W (h : Below w8.heap.size w8 W) => HW.out W (below_trans hBt8 h))
  clear HC HSX HSG HWK hx8 hy8 hBt8 HW
  by_cases he : E2 = 0
  · have hbb := HEQ.out he
    subst he
    rw [hbb] at HS1
    generalize decide (Gb = G' ∧ PLb = PL' ∧ payb = pay') = bb at *
    have hbeq : (bb == bb) = true := beq_self_eq_true _
    clear HEQ hbb
    refine wp_region_det (Below w8.heap.size w8) [(91, .int .i64 0), (92, .bool false), (93, .bool false), (94, .slice Ax x.length cx), (95, .slice Ay y.length cy), (96, .bool bb), (97, frV Gb PLb (.slice Af payb.length cf)), (98, frV G' PL' (.slice Ag pay'.length cg)), (99, .bool bb), (100, .bool true), (101, .bool true), (102, .bool true), (103, .bool true), (104, .bool true), (6, .bool true)]
      (by kernel_rfl) (by kernel_rfl) (by kernel_rfl) (by kernel_rfl) (by kernel_rfl) (below_drewX _) ?ok1 ?fin1
    case ok1 =>
     intro A' hA'
     simp only [putAll, Act.put, List.setIfInBounds_toArray, List.set_cons_zero, List.set_cons_succ] at hA'
     subst hA'
     simp only [detAll]
     refine ⟨?_, ?_, ?_, ?_, ?_, ?_, ?_, ?_, ?_, ?_, ?_, ?_, ?_, ?_, ?_, trivial⟩
     all_goals
      intro w' hS'
      have HSS := Lib.hid hS'
      have q1 := HS1.out w' hS'
      have q2 := HS2.out w' hS'
      have q3 := HS3.out w' hS'
      obtain ⟨⟨a0, a1, a2⟩, ⟨a3, a4, a5⟩, ⟨a6, a7, a8⟩⟩ := HK.out w' hS'
      clear hS'
      go_simp
      all_goals first
       | exact HSS.out
       | exact ⟨rfl, HSS.out⟩
       | (refine q1.mono ?_; rintro e w'' ⟨rfl, rfl⟩; exact ⟨rfl, HSS.out⟩)
       | (refine q2.mono ?_; rintro e w'' ⟨rfl, hB⟩; exact ⟨rfl, below_trans HSS.out hB⟩)
       | (refine q3.mono ?_; rintro e w'' ⟨rfl, hB⟩; exact ⟨rfl, below_trans HSS.out hB⟩)
    case fin1 =>
     intro A' hA' w9 hS9
     simp only [putAll, Act.put, List.setIfInBounds_toArray, List.set_cons_zero, List.set_cons_succ] at hA'
     subst hA'
     have HB9 := Lib.hid (HBx.out w9 hS9)
     clear hS9
     go_wp2_with fail
     go_ret
     exact ⟨rfl, HB9.out⟩
  · have hE0 : (E2 == 0) = false := by rw [beq_eq_false_iff_ne]; exact he
    have HE0 := Lib.hid he
    clear HEQ he
    refine wp_region_det (Below w8.heap.size w8) [(91, .int .i64 E2), (92, .bool true), (93, .bool true), (94, undef), (95, undef), (96, undef), (97, undef), (98, undef), (99, undef), (100, undef), (101, .bool true), (102, .bool true), (103, .bool true), (104, .bool true), (6, .bool true)]
      (by kernel_rfl) (by kernel_rfl) (by kernel_rfl) (by kernel_rfl) (by kernel_rfl) (below_drewX _) ?ok2 ?fin2
    case ok2 =>
     intro A' hA'
     simp only [putAll, Act.put, List.setIfInBounds_toArray, List.set_cons_zero, List.set_cons_succ] at hA'
     subst hA'
     simp only [detAll]
     refine ⟨?_, ?_, ?_, ?_, ?_, ?_, ?_, ?_, ?_, ?_, ?_, ?_, ?_, ?_, ?_, trivial⟩
     all_goals
      intro w' hS'
      have HSS := Lib.hid hS'
      have q3 := HS3.out w' hS'
      clear hS'
      go_simp
      all_goals first
       | exact HSS.out
       | exact ⟨rfl, HSS.out⟩
       | exact ⟨HE0.out, HSS.out⟩
       | (refine q3.mono ?_; rintro e w'' ⟨rfl, hB⟩; exact ⟨rfl, below_trans HSS.out hB⟩)
    case fin2 =>
     intro A' hA' w9 hS9
     simp only [putAll, Act.put, List.setIfInBounds_toArray, List.set_cons_zero, List.set_cons_succ] at hA'
     subst hA'
     have HB9 := Lib.hid (HBx.out w9 hS9)
     clear hS9
     go_wp2_with fail
     go_ret
     exact ⟨rfl, HB9.out⟩
  all_goals (rename_i hne; exact (hne (beq_iff_eq.1 hgl2)).elim)
theorem FrameBack_any (P D R G PL G' PL' : Int) (pf pg : Value) (pay pay' : List UInt8) (w : World) (hT : Tabs w) (hf : Sl eB w.heap.size w pf pay) (hg : Sl eB w.heap.size w pg pay') :
    Calls Tryd.prog 3 #[shV P D R, frV G PL pf, frV G' PL' pg] w fun e w' => e = .returned (.bool true) ∧ Below w.heap.size w w' := by
  by_cases h : pay.length ≤ 60 ∧ pay'.length ≤ 60
  · by_cases hE : chkF P D R G PL pay.length = 0
    · exact FBack_main P D R G PL G' PL' pf pg pay pay' h.1 h.2 hE w hT hf hg
    · exact FBack_bad P D R G PL G' PL' pf pg pay pay' h.1 h.2 _ hE rfl w hT hf hg
  · exact FBack_wk P D R G PL G' PL' pf pg pay pay' h w hT hf hg
end Go.Proofs.YtjclfkbhakjdaaaDoor
