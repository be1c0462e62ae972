import Derived.Test.YtjclfkbhakjdaaaDoorFrWZ
import Derived.Test.YtjclfkbhakjdaaaDoorFrZZ
import Derived.Test.YtjclfkbhakjdaaaDoorKPrZ
namespace Go.Proofs.YtjclfkbhakjdaaaDoor
open Go.RowKit Go.Shelf
attribute [local go_sem] Oper.semAt_some run_store_func
def RowL (cur : Array Value) (xs : List UInt8) : Prop := ∀ (j : Nat) (x : UInt8), xs[j]? = some x → cur[j]? = some (eB x)
theorem RowL.put {cur : Array Value} {xs : List UInt8} (h : RowL cur xs) (p : Nat) (y : UInt8) : RowL (cur.setIfInBounds p (eB y)) (xs.set p y) := by
 intro j x hx
 have hj : j < xs.length := by have := (List.getElem?_eq_some_iff.1 hx).1; simpa using this
 have hc := h j xs[j] (by simp [hj])
 rw [List.getElem?_set] at hx
 by_cases e : p = j
 · subst e
   have hpc : p < cur.size := (Array.getElem?_eq_some_iff.1 hc).1
   rw [if_pos rfl, if_pos hj] at hx
   cases hx
   rw [Array.getElem?_setIfInBounds_self_of_lt hpc]
 · rw [if_neg e] at hx
   rw [Array.getElem?_setIfInBounds_ne e]
   exact h j x hx
theorem sl_rowed {W : World} {g : Nat} {t : TypeId} {cur : Array Value} {xs : List UInt8} {cap : Nat} (hr : Rowed W g t cur) (h : RowL cur xs) (hc : xs.length ≤ cap) : Sl eB W.heap.size W (.slice (some ⟨g, 0, none⟩) xs.length cap) xs :=
 ⟨some ⟨g, 0, none⟩, cap, rfl, hc, fun _ => ⟨g, 0, rfl, hr.lt, fun j x hx => by rw [Nat.zero_add, hr.cell j]; exact h j x hx⟩⟩
theorem own_rowed {W : World} {base n : Nat} {v : Value} {xs : List UInt8} (h : W.ownsRow base 5 1 v n (xs.map eB)) (h0 : 0 < xs.length) : ∃ g cap cur, v = .slice (some ⟨g, 0, none⟩) xs.length cap ∧ v.ownBlock = some g ∧ xs.length ≤ cap ∧ Rowed W g 5 cur ∧ RowL cur xs := by
 have hl : xs.length = n := by have := h.1; simpa using this
 subst hl
 rcases h.2 with ⟨_, e0⟩ | ⟨g, cap, cur, rfl, hb, hg, hn, hcm, hsz, htk⟩
 · omega
 have hr0 : Rowed W g 5 cur := hg
 refine ⟨g, cap, cur, rfl, rfl, hn, hr0, fun j x hx => ?_⟩
 have := World.ownsRow.cells h (g := g) rfl j (eB x) (by simp [hx])
 rwa [show (⟨g, 0, none⟩ : Addr).add j = ⟨g, j, none⟩ from by unfold Addr.add; split <;> simp_all, hr0.cell j] at this
theorem place_in (at_ : Int) (n : Nat) (h : 0 < n) (hn : n ≤ 9000000000000000) : ∃ p : Nat, p < n ∧ (wrap64 (at_.tmod (n : Int) + n)).tmod (n : Int) = p := by
 have h1 : at_.tmod (n : Int) < (n : Int) := Int.tmod_lt_of_pos _ (by omega)
 have h2 : -(n : Int) < at_.tmod (n : Int) := Int.lt_tmod_of_pos _ (by omega)
 generalize at_.tmod (n : Int) = t at *
 rw [IntWalk.wrap64_in (t + n) (by omega), Int.tmod_eq_emod_of_nonneg (by omega)]
 have h3 := Int.emod_nonneg (t + n) (b := (n : Int)) (by omega)
 have h4 := Int.emod_lt_of_pos (t + n) (b := (n : Int)) (by omega)
 exact ⟨((t + n) % (n : Int)).toNat, by omega, by omega⟩
def acgtn (q : Nat) : UInt8 := if q = 0 then 65 else if q = 1 then 67 else if q = 2 then 71 else if q = 3 then 84 else 78
theorem run_acgtn (q : Nat) (hq : q < 5) (w : World) : (Instr.index 9 (.string ⟨#[65, 67, 71, 84, 78]⟩) (.int .i64 q)).run Tryd.prog w = .ok (eB (acgtn q)) w := by
 rcases (show q = 0 ∨ q = 1 ∨ q = 2 ∨ q = 3 ∨ q = 4 by omega) with rfl | rfl | rfl | rfl | rfl <;> kernel_rfl
set_option maxRecDepth 100000 in
set_option maxHeartbeats 8000000 in
theorem FOnly_wk (P D R G PL : Int) (pf pv : Value) (pay : List UInt8) (n : Nat) (F Q : Nat → Int) (h : ¬ (pay.length ≤ 60 ∧ n ≤ 20)) (w : World) (hT : Tabs w) (hf : Sl eB w.heap.size w pf pay) (hp : Prs w.heap.size w pv n F Q) :
    Calls Tryd.prog 4 #[shV P D R, frV G PL pf, pv] w fun e w' => e = .returned (.bool true) ∧ Below w.heap.size w w' := by
  obtain ⟨Af, cf, rfl⟩ := hf.len
  obtain ⟨Ap, cp, rfl, hpc⟩ := hp
  have hc1 : (shV P D R).cells = shB P D R := rfl
  have hc2 : (frV G PL (.slice Af pay.length cf)).cells = frB G PL (.slice Af pay.length cf) := rfl
  obtain ⟨W0, hW0⟩ : ∃ W0, (w.alloc (.cells (shB P D R) 23)).alloc (.cells (frB G PL (.slice Af pay.length cf)) 26) = W0 := ⟨_, rfl⟩
  have hA : Below w.heap.size w W0 := by rw [← hW0]; exact (below_alloc w _).alloc (by simp) _
  have r3 : Rowed W0 w.heap.size 23 (shB P D R) := by rw [← hW0]; exact (Rowed.new w 23 _).alloc _
  have r4 : Rowed W0 (w.heap.size + 1) 26 (frB G PL (.slice Af pay.length cf)) := by
   rw [← hW0]
   have := Rowed.new (w.alloc (.cells (shB P D R) 23)) 26 (frB G PL (.slice Af pay.length cf))
   simpa only [World.size_alloc] using this
  have HC := Lib.hid (fun W (h : Below W0.heap.size W0 W) =>
   have q3 : Rowed W w.heap.size 23 (shB P D R) := (h.block _ r3.lt).trans r3
   have q4 : Rowed W (w.heap.size + 1) 26 (frB G PL (.slice Af pay.length cf)) := (h.block _ r4.lt).trans r4
   show (W.cell? ⟨w.heap.size, 0, none⟩ = some (.int .i64 P) ∧ W.cell? ⟨w.heap.size, 1, none⟩ = some (.int .i64 D) ∧ W.cell? ⟨w.heap.size, 2, none⟩ = some (.int .i64 R)) ∧ (W.cell? ⟨w.heap.size + 1, 0, none⟩ = some (.int .i64 G) ∧ W.cell? ⟨w.heap.size + 1, 1, none⟩ = some (.int .i64 PL) ∧ W.cell? ⟨w.heap.size + 1, 2, none⟩ = some (.slice Af pay.length cf)) from
     ⟨⟨q3.cell 0, q3.cell 1, q3.cell 2⟩, ⟨q4.cell 0, q4.cell 1, q4.cell 2⟩⟩)
  have HW := Lib.hid (fun W (h : Below W0.heap.size W0 W) => below_trans hA h)
  have HT := Lib.hid (fun W (h : Below W0.heap.size W0 W) => hT.below (below_trans hA h))
  have HF := Lib.hid (fun W (h : Below W0.heap.size W0 W) => (hf.next hA).next h)
  have HWK := Lib.hid (fun W (h : Below W0.heap.size W0 W) => wakes_any W (hT.below (below_trans hA h)))
  obtain ⟨⟨a0, a1, a2⟩, ⟨a3, a4, a5⟩⟩ := HC.out W0 (Below.refl _ _)
  have hwk := HWK.out W0 (Below.refl _ _)
  have HA := Lib.hid hA
  clear HC HW HT HF HWK hf hT r3 r4 hA hpc
  by_cases h1 : pay.length ≤ 60
  · have d1 : decide ((60 : Int) < (pay.length : Int)) = false := decide_eq_false (by omega)
    have d2 : decide ((20 : Int) < (n : Int)) = true := decide_eq_true (by have : ¬ n ≤ 20 := fun h2 => h ⟨h1, h2⟩; omega)
    clear h h1
    go_enter Tryd.func4, Tryd.ntmps4
    go_wp2_with fail
    go_at_call 6
    refine hwk.mono ?_
    rintro e w1 ⟨rfl, hB⟩
    go_wp2_with fail
    go_ret
    exact ⟨rfl, below_trans HA.out hB⟩
  · have d1 : decide ((60 : Int) < (pay.length : Int)) = true := decide_eq_true (by omega)
    clear h h1
    go_enter Tryd.func4, Tryd.ntmps4
    go_wp2_with fail
    go_at_call 6
    refine hwk.mono ?_
    rintro e w1 ⟨rfl, hB⟩
    go_wp2_with fail
    go_ret
    exact ⟨rfl, below_trans HA.out hB⟩
set_option maxRecDepth 100000 in
set_option maxHeartbeats 8000000 in
theorem FOnly_bad (P D R G PL : Int) (pf pv : Value) (pay : List UInt8) (n : Nat) (F Q : Nat → Int) (h1 : pay.length ≤ 60) (h2 : n ≤ 20) (E : Int) (hn : E ≠ 0) (hE : chkF P D R G PL pay.length = E) (w : World) (hT : Tabs w) (hf : Sl eB w.heap.size w pf pay) (hp : Prs w.heap.size w pv n F Q) :
    Calls Tryd.prog 4 #[shV P D R, frV G PL pf, pv] w fun e w' => e = .returned (.bool true) ∧ Below w.heap.size w w' := by
  obtain ⟨Af, cf, rfl⟩ := hf.len
  obtain ⟨Ap, cp, rfl, hpc⟩ := hp
  have hc1 : (shV P D R).cells = shB P D R := rfl
  have hc2 : (frV G PL (.slice Af pay.length cf)).cells = frB G PL (.slice Af pay.length cf) := rfl
  obtain ⟨W0, hW0⟩ : ∃ W0, (w.alloc (.cells (shB P D R) 23)).alloc (.cells (frB G PL (.slice Af pay.length cf)) 26) = W0 := ⟨_, rfl⟩
  have hA : Below w.heap.size w W0 := by rw [← hW0]; exact (below_alloc w _).alloc (by simp) _
  have r3 : Rowed W0 w.heap.size 23 (shB P D R) := by rw [← hW0]; exact (Rowed.new w 23 _).alloc _
  have r4 : Rowed W0 (w.heap.size + 1) 26 (frB G PL (.slice Af pay.length cf)) := by
   rw [← hW0]
   have := Rowed.new (w.alloc (.cells (shB P D R) 23)) 26 (frB G PL (.slice Af pay.length cf))
   simpa only [World.size_alloc] using this
  have HC := Lib.hid (fun W (h : Below W0.heap.size W0 W) =>
   have q3 : Rowed W w.heap.size 23 (shB P D R) := (h.block _ r3.lt).trans r3
   have q4 : Rowed W (w.heap.size + 1) 26 (frB G PL (.slice Af pay.length cf)) := (h.block _ r4.lt).trans r4
   show (W.cell? ⟨w.heap.size, 0, none⟩ = some (.int .i64 P) ∧ W.cell? ⟨w.heap.size, 1, none⟩ = some (.int .i64 D) ∧ W.cell? ⟨w.heap.size, 2, none⟩ = some (.int .i64 R)) ∧ (W.cell? ⟨w.heap.size + 1, 0, none⟩ = some (.int .i64 G) ∧ W.cell? ⟨w.heap.size + 1, 1, none⟩ = some (.int .i64 PL) ∧ W.cell? ⟨w.heap.size + 1, 2, none⟩ = some (.slice Af pay.length cf)) from
     ⟨⟨q3.cell 0, q3.cell 1, q3.cell 2⟩, ⟨q4.cell 0, q4.cell 1, q4.cell 2⟩⟩)
  have HW := Lib.hid (fun W (h : Below W0.heap.size W0 W) => below_trans hA h)
  have HT := Lib.hid (fun W (h : Below W0.heap.size W0 W) => hT.below (below_trans hA h))
  have HF := Lib.hid (fun W (h : Below W0.heap.size W0 W) => (hf.next hA).next h)
  have HWK := Lib.hid (fun W (h : Below W0.heap.size W0 W) => wakes_any W (hT.below (below_trans hA h)))
  obtain ⟨⟨a0, a1, a2⟩, ⟨a3, a4, a5⟩⟩ := HC.out W0 (Below.refl _ _)
  have d1 : decide ((60 : Int) < (pay.length : Int)) = false := decide_eq_false (by omega)
  have d2 : decide ((20 : Int) < (n : Int)) = false := decide_eq_false (by omega)
  have hq := Letters_own P D R G PL _ pay W0 (HT.out W0 (Below.refl _ _)) (HF.out W0 (Below.refl _ _))
  have HQ3 := Lib.hid (fun W (h : Below W0.heap.size W0 W) => RFCheck_any P D R G PL _ pay W (HF.out W h))
  rw [hE] at hq HQ3
  have hE0 : (E == 0) = false := by rw [beq_eq_false_iff_ne]; exact hn
  have hE1 : (E != 0) = true := by simpa using hn
  clear hf hT r3 r4 HF HT h1 h2 hE hpc
  go_enter Tryd.func4, Tryd.ntmps4
  go_wp2_with fail
  go_at_call 7
  refine hq.mono ?_
  rintro e w1 ⟨vx, rfl, -, hB1⟩
  have hq := HQ3.out w1 hB1
  clear a0 a1 a2 a3 a4 a5 hW0
  obtain ⟨⟨a0, a1, a2⟩, ⟨a3, a4, a5⟩⟩ := HC.out w1 hB1
  go_wp2_with fail
  go_at_call 8
  refine hq.mono ?_
  rintro e w2 ⟨rfl, hB2⟩
  have hBt2 := below_trans hB1 hB2
  have hq := HWK.out w2 hBt2
  clear a0 a1 a2 a3 a4 a5
  go_wp2_with fail
  go_at_call 6
  refine hq.mono ?_
  rintro e w5 ⟨rfl, hB5⟩
  go_wp2_with fail
  go_ret
  exact ⟨rfl, below_trans (HW.out w2 hBt2) hB5⟩
set_option maxRecDepth 100000 in
set_option maxHeartbeats 8000000 in
theorem FOnly_main (P D R G PL : Int) (pf pv : Value) (pay : List UInt8) (n : Nat) (F Q : Nat → Int) (h1 : pay.length ≤ 60) (h2 : n ≤ 20) (hE : chkF P D R G PL pay.length = 0) (w : World) (hT : Tabs w) (hf : Sl eB w.heap.size w pf pay) (hp : Prs w.heap.size w pv n F Q) :
    Calls Tryd.prog 4 #[shV P D R, frV G PL pf, pv] w fun e w' => e = .returned (.bool true) ∧ Below w.heap.size w w' := by
  obtain ⟨Af, cf, rfl⟩ := hf.len
  obtain ⟨Ap, cp, rfl, hpc⟩ := hp
  have hc1 : (shV P D R).cells = shB P D R := rfl
  have hc2 : (frV G PL (.slice Af pay.length cf)).cells = frB G PL (.slice Af pay.length cf) := rfl
  obtain ⟨W0, hW0⟩ : ∃ W0, (w.alloc (.cells (shB P D R) 23)).alloc (.cells (frB G PL (.slice Af pay.length cf)) 26) = W0 := ⟨_, rfl⟩
  have hA : Below w.heap.size w W0 := by rw [← hW0]; exact (below_alloc w _).alloc (by simp) _
  have r3 : Rowed W0 w.heap.size 23 (shB P D R) := by rw [← hW0]; exact (Rowed.new w 23 _).alloc _
  have r4 : Rowed W0 (w.heap.size + 1) 26 (frB G PL (.slice Af pay.length cf)) := by
   rw [← hW0]
   have := Rowed.new (w.alloc (.cells (shB P D R) 23)) 26 (frB G PL (.slice Af pay.length cf))
   simpa only [World.size_alloc] using this
  have HC := Lib.hid (fun W (h : Below W0.heap.size W0 W) =>
   have q3 : Rowed W w.heap.size 23 (shB P D R) := (h.block _ r3.lt).trans r3
   have q4 : Rowed W (w.heap.size + 1) 26 (frB G PL (.slice Af pay.length cf)) := (h.block _ r4.lt).trans r4
   show (W.cell? ⟨w.heap.size, 0, none⟩ = some (.int .i64 P) ∧ W.cell? ⟨w.heap.size, 1, none⟩ = some (.int .i64 D) ∧ W.cell? ⟨w.heap.size, 2, none⟩ = some (.int .i64 R)) ∧ (W.cell? ⟨w.heap.size + 1, 0, none⟩ = some (.int .i64 G) ∧ W.cell? ⟨w.heap.size + 1, 1, none⟩ = some (.int .i64 PL) ∧ W.cell? ⟨w.heap.size + 1, 2, none⟩ = some (.slice Af pay.length cf)) from
     ⟨⟨q3.cell 0, q3.cell 1, q3.cell 2⟩, ⟨q4.cell 0, q4.cell 1, q4.cell 2⟩⟩)
  have HW := Lib.hid (fun W (h : Below W0.heap.size W0 W) => below_trans hA h)
  have HT := Lib.hid (fun W (h : Below W0.heap.size W0 W) => hT.below (below_trans hA h))
  have HF := Lib.hid (fun W (h : Below W0.heap.size W0 W) => (hf.next hA).next h)
  have HWK := Lib.hid (fun W (h : Below W0.heap.size W0 W) => wakes_any W (hT.below (below_trans hA h)))
  obtain ⟨⟨a0, a1, a2⟩, ⟨a3, a4, a5⟩⟩ := HC.out W0 (Below.refl _ _)
  have d1 : decide ((60 : Int) < (pay.length : Int)) = false := decide_eq_false (by omega)
  have d2 : decide ((20 : Int) < (n : Int)) = false := decide_eq_false (by omega)
  have hq := Letters_own P D R G PL _ pay W0 (HT.out W0 (Below.refl _ _)) (HF.out W0 (Below.refl _ _))
  obtain ⟨hm, c1, c2, c3, c4, c5⟩ := chk_yes hE
  obtain ⟨k, hk, hP⟩ := Sh.payOk_at hm.1
  have hl5 : (saidG G PL pay).length = 5 * (k + 1) := by rw [saidG_length]; unfold Sh.pay at hP; omega
  have hl0 : letE P D R G PL pay = lettersG (saidG G PL pay) := if_pos hE
  have hlen := letters_len hk hl5
  rw [hE, hl0] at hq
  obtain ⟨x, hx⟩ : ∃ x, lettersG (saidG G PL pay) = x := ⟨_, rfl⟩
  rw [hx] at hq hlen
  have hx140 : 0 < x.length ∧ x.length ≤ 140 := by unfold Sh.innerK Sh.bodyK Sh.indexK at hlen; split at hlen <;> omega
  have HBX := Lib.hid (fun W v xs (h : Below W0.heap.size W0 W) (hx : Sl eB W.heap.size W v xs) => Back_any P D R v xs W (HT.out W h) hx)
  have HLX := Lib.hid (fun W v (G' PL' : Int) (pay' : List UInt8) (h : Below W0.heap.size W0 W) (hx : Sl eB W.heap.size W v pay') => Letters_any P D R G' PL' v pay' W (HT.out W h) hx)
  have HRX := Lib.hid (fun W v (G' PL' : Int) (pay' : List UInt8) (hx : Sl eB W.heap.size W v pay') => RFCheck_any P D R G' PL' v pay' W hx)
  have HPC := Lib.hid (fun W (h : Below W0.heap.size W0 W) (i : Nat) (hi : i < n) => show ∃ b off, Ap = some ⟨b, off, none⟩ ∧ W.cell? ⟨b, off + i * 2, none⟩ = some (eI (F i)) ∧ W.cell? ⟨b, off + i * 2 + 1, none⟩ = some (eI (Q i)) from by
   obtain ⟨b, off, e, hb, hcell⟩ := hpc (by omega)
   have hBW := below_trans hA h
   exact ⟨b, off, e, (hBW.cell (p := ⟨b, off + i * 2, none⟩) hb).trans (hcell i hi).1, (hBW.cell (p := ⟨b, off + i * 2 + 1, none⟩) hb).trans (hcell i hi).2⟩)
  obtain ⟨hx0, hx1⟩ := hx140
  have hs0 := hA.size
  have hws : W0.heap.size = w.heap.size + 1 + 1 := by rw [← hW0]; simp
  have HWS := Lib.hid hws
  have hnx : ((x.length : Int) == 0) = false := by rw [beq_eq_false_iff_ne]; omega
  clear hf hT r3 r4 HF HT h1 hE hl0 hm c1 c2 c3 c4 c5 hk hP hl5 hlen hx hpc hA hs0 hws
  go_enter Tryd.func4, Tryd.ntmps4
  go_wp2_with fail
  go_at_call 7
  refine hq.mono ?_
  rintro e w1 ⟨vx, rfl, hown, hB1⟩
  obtain ⟨g, cap, cur0, rfl, hob, hcap, hrow0, hRL0⟩ := own_rowed hown hx0
  have hgb : W0.heap.size ≤ g := own_base hown g hob
  have HX1 := Lib.hid hx1
  have HX0 := Lib.hid hx0
  have hLn0 : ¬ (x.length : Int) = 0 := by omega
  have hLn1 : ¬ x.length = 0 := by omega
  have HN := Lib.hid h2
  clear a0 a1 a2 a3 a4 a5 hW0 hown hob hq hx0 hx1 h2
  obtain ⟨L, hL⟩ : ∃ L, x.length = L := ⟨_, rfl⟩
  have HCAP := Lib.hid hcap
  rw [hL] at HX1 HX0 HCAP hLn0 hLn1 hnx
  rw [hL]
  have HXL := Lib.hid hL
  clear hL hcap
  go_wp2_with fail
  go_loopw [9] (fun t wr => ∃ i : Nat, i ≤ n ∧ t = .int .i64 i ∧ Below W0.heap.size W0 wr ∧ ∃ (xs : List UInt8) (cur : Array Value), xs.length = L ∧ Rowed wr g 5 cur ∧ RowL cur xs) (fun t _ => n - (RowKit.intOf t).toNat)
  case atStart => exact ⟨0, Nat.zero_le _, rfl, hB1, x, cur0, HXL.out, hrow0, hRL0⟩
  case round =>
   obtain ⟨i, hi, rfl, hB, xs, cur, hxl, hrw, hRL⟩ := hrel
   by_cases hlt : i < n
   · obtain ⟨b, off, eA, hc0, hc1'⟩ := HPC.out wr hB i hlt
     subst eA
     obtain ⟨p, hp, hat⟩ := place_in (F i) L HX0.out (by have := HX1.out; omega)
     obtain ⟨q, hq, hqt⟩ := place_in (Q i) 5 (by omega) (by omega)
     have hqt : (wrap64 ((Q i).tmod 5 + 5)).tmod 5 = (q : Int) := hqt
     have hidx := run_acgtn q hq
     have hci : (i : Int) < (n : Int) := by omega
     have hpL : (p : Int) < (L : Int) := by omega
     have hpc2 : ∃ z, cur[p]? = some (eB z) := ⟨xs[p]'(by omega), hRL p _ (List.getElem?_eq_getElem (by omega))⟩
     obtain ⟨z, hz⟩ := hpc2
     have cc := hrw.cell p
     rw [hz] at cc
     have ff := hrw.frozen p
     generalize acgtn q = y at *
     have hset := Lib.hid (hrw.set p (eB y))
     have hRL2 := Lib.hid (hRL.put p y)
     have hB2 := Lib.hid (hB.setCell (p := ⟨g, p, none⟩) (by show W0.heap.size ≤ g; exact hgb) (eB y))
     have HI := Lib.hid hlt
     have hi20 : i ≤ 20 := by have := HN.out; omega
     have HXS := Lib.hid (show (xs.set p y).length = L by rw [List.length_set]; exact hxl)
     generalize F i = fi at *
     generalize Q i = qi at *
     clear hlt hi hB hrw hRL hxl hz hB1 hrow0 hRL0 hq hnx
     go_wp2_with fail
     go_roundw
     case rel => exact ⟨i + 1, HI.out, by go_num, hB2.out, xs.set p y, _, HXS.out, hset.out, hRL2.out⟩
     case measure => have := HI.out; simp [RowKit.intOf]; omega
   · obtain rfl : i = n := by omega
     have h3 : ¬ (i : Int) < (i : Int) := by omega
     have hSx := sl_rowed hrw hRL (by rw [hxl]; exact HCAP.out : xs.length ≤ cap)
     rw [hxl] at hSx
     have hq := HBX.out wr _ xs hB hSx
     have HXSL := Lib.hid hxl
     clear hlt hi hrw hRL hxl HPC HBX hB1 hrow0 hRL0
     obtain ⟨⟨a0, a1, a2⟩, ⟨a3, a4, a5⟩⟩ := HC.out wr hB
     go_wp2_with fail
     go_at_call 9
     refine hq.mono ?_
     rintro e w4 ⟨Gb, PLb, payb, vb, Eb, rfl, hto, hb, hB4⟩
     have hBt4 := below_trans hB hB4
     have hx4 := hSx.next hB4
     obtain ⟨Ab, cb, rfl⟩ := hb.len
     clear a0 a1 a2 a3 a4 a5 hSx hB4 hB hq
     obtain ⟨W5, hW5⟩ : ∃ W5, w4.alloc (.cells (frB Gb PLb (.slice Ab payb.length cb)) 26) = W5 := ⟨_, rfl⟩
     have hA5 : Below w4.heap.size w4 W5 := by rw [← hW5]; exact below_alloc w4 _
     have r11 : Rowed W5 w4.heap.size 26 (frB Gb PLb (.slice Ab payb.length cb)) := by rw [← hW5]; exact Rowed.new w4 _ _
     have hBt5 := below_trans hBt4 hA5
     have hx5 := hx4.next hA5
     have hb5 := hb.next hA5
     have l0 := r11.cell 0
     have l1 := r11.cell 1
     have l2 := r11.cell 2
     clear hx4 hb hA5 hBt4
     rcases hto with ⟨hok, rfl⟩ | ⟨-, hn0, rfl, rfl, rfl, hvn⟩
     · obtain ⟨hck, hle⟩ := let_back hok
       have hq := HLX.out W5 _ Gb PLb payb hBt5 hb5
       rw [hck, hle] at hq
       clear hok hle HLX
       obtain ⟨⟨a0, a1, a2⟩, ⟨a3, a4, a5⟩⟩ := HC.out W5 hBt5
       go_wp2_with fail
       go_at_call 7
       refine hq.mono ?_
       rintro e w6 ⟨vy, rfl, hy, hB6⟩
       have r12 : Rowed w6 w4.heap.size 26 (frB Gb PLb (.slice Ab payb.length cb)) := (hB6.block _ r11.lt).trans r11
       have hBt6 := below_trans hBt5 hB6
       have hx6 := hx5.next hB6
       have hb6 := hb5.next hB6
       have hs := same_eq _ _ xs w6.heap.size w6 hx6 hy
       have hq := HRX.out w6 _ Gb PLb payb hb6
       rw [hck] at hq
       obtain ⟨Ay, cy, rfl⟩ := hy.len
       have m0 := r12.cell 0
       have m1 := r12.cell 1
       have m2 := r12.cell 2
       clear a0 a1 a2 a3 a4 a5 l0 l1 l2 r11 r12 hx5 hb5 hx6 hb6 hy hB6 hBt5 HRX hck hW5
       obtain ⟨⟨a0, a1, a2⟩, ⟨a3, a4, a5⟩⟩ := HC.out w6 hBt6
       go_wp2_with fail
       go_at_call 14
       refine hs.mono ?_
       rintro e w' ⟨rfl, rfl⟩
       clear hs
       go_wp2_with fail
       go_at_call 8
       refine hq.mono ?_
       rintro e w7 ⟨rfl, hB7⟩
       have hBt7 := below_trans hBt6 hB7
       have hq := HWK.out w7 hBt7
       clear a0 a1 a2 a3 a4 a5 m0 m1 m2 hB7 hBt6
       go_wp2_with fail
       go_at_call 6
       refine hq.mono ?_
       rintro e w8 ⟨rfl, hB8⟩
       go_wp2_with fail
       go_ret
       exact ⟨rfl, below_trans (HW.out w7 hBt7) hB8⟩
     · injection hvn with e1 e2 e3
       subst e1 e3
       replace hW5 : w4.alloc (.cells (frB 0 0 (.slice none 0 0)) 26) = W5 := hW5
       replace l2 : W5.cell? ⟨w4.heap.size, 2, none⟩ = some (.slice none 0 0) := l2
       subst hW5
       have hE0 : (Eb == 0) = false := by rw [beq_eq_false_iff_ne]; exact hn0
       have hq := HWK.out _ hBt5
       clear hx5 hb5 r11 l0 l1
       go_wp2_with fail
       go_at_call 6
       refine hq.mono ?_
       rintro e w8 ⟨rfl, hB8⟩
       go_wp2_with fail
       go_ret
       exact ⟨rfl, below_trans (HW.out _ hBt5) hB8⟩
theorem FrameOnly_any (P D R G PL : Int) (pf pv : Value) (pay : List UInt8) (n : Nat) (F Q : Nat → Int) (w : World) (hT : Tabs w) (hf : Sl eB w.heap.size w pf pay) (hp : Prs w.heap.size w pv n F Q) :
    Calls Tryd.prog 4 #[shV P D R, frV G PL pf, pv] w fun e w' => e = .returned (.bool true) ∧ Below w.heap.size w w' := by
  by_cases h : pay.length ≤ 60 ∧ n ≤ 20
  · by_cases hE : chkF P D R G PL pay.length = 0
    · exact FOnly_main P D R G PL pf pv pay n F Q h.1 h.2 hE w hT hf hp
    · exact FOnly_bad P D R G PL pf pv pay n F Q h.1 h.2 _ hE rfl w hT hf hp
  · exact FOnly_wk P D R G PL pf pv pay n F Q h w hT hf hp
end Go.Proofs.YtjclfkbhakjdaaaDoor
