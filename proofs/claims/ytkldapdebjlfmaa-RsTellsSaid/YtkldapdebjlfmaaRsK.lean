/- Contracts of rs.syndromes, Syndromes, Right. -/
import Derived.Test.YtkldapdebjlfmaaRsJ
namespace Go.Proofs.Ytkldapdebjlfmaa
open Go.RowKit Go.Shelf
attribute [local go_sem] Oper.semAt_some run_store_func

set_option maxRecDepth 100000 in
set_option maxHeartbeats 4000000 in
theorem syndromes_any (wv : Value) (word : List UInt8) (hl : word.length ≤ 1000) (p : Int) (w : World) (hS : Sl eB w.heap.size w wv word) :
    Calls Try.prog 35 #[wv, .int .i64 p] w fun e w' => ∃ bl A c, e = .returned (.func (.func 55) #[] #[.pointer (some ⟨w.heap.size, 0, none⟩), .pointer (some ⟨bl, 0, none⟩)]) ∧
      Boxed w' w.heap.size 3 (.int .i64 p) ∧ Boxed w' bl 22 (.slice A word.length c) ∧ Sl eB w'.heap.size w' (.slice A word.length c) word.reverse ∧ Below w.heap.size w w' := by
  have hmf : ∀ (fn : Fn) (first cap : Array Value) (w : World), (Instr.makeFunc fn first cap).run Try.prog w = .ok (.func fn first cap) w := fun _ _ _ _ => rfl
  have hA1 := below_alloc w (.cells #[.int .i64 p] 3)
  have bp0 := Boxed.new w 3 (.int .i64 p)
  have hcl := fun w h => SClone_any wv word (by omega) w h
  have hS1 := hS.next hA1
  obtain ⟨A0, c0, rfl⟩ := hS.len
  go_enter Try.func35, Try.ntmps35
  go_wp2_with fail
  generalize w.alloc (.cells #[.int .i64 p] 3) = w1 at *
  go_at_call 54
  refine (hcl w1 hS1).mono ?_
  rintro e wc ⟨vc, rfl, hvc, hBc⟩
  obtain ⟨Ac, cc, rfl⟩ := hvc.sl.len
  have bp1 : Boxed wc w.heap.size 3 (.int .i64 p) := (hBc.block _ bp0.lt).trans bp0
  have hAc := below_alloc wc (.cells #[.slice none 0 0] 22)
  have bg0 := Boxed.new wc 22 (.slice none 0 0)
  have bp2 := bp1.alloc (.cells #[.slice none 0 0] 22)
  have hv1 : Own8 w1.heap.size (wc.alloc (.cells #[.slice none 0 0] 22)) (.slice Ac word.length cc) word := World.ownsRow.alloc hvc _
  obtain ⟨wx, hwx⟩ : ∃ wx, wc.alloc (.cells #[.slice none 0 0] 22) = wx := ⟨_, rfl⟩
  rw [hwx] at hAc bg0 bp2 hv1
  have hv2 : Own8 w1.heap.size (wx.setCell ⟨wc.heap.size, 0, none⟩ (.slice Ac word.length cc)) (.slice Ac word.length cc) word := hv1.kept (grownBy_setCell' wx wc.heap.size _) (.inr (bg0.not_row (by decide) hv1).symm)
  have bg1 := bg0.set (.slice Ac word.length cc)
  have hBx : Below wc.heap.size wc (wx.setCell ⟨wc.heap.size, 0, none⟩ (.slice Ac word.length cc)) := hAc.setCell (p := ⟨wc.heap.size, 0, none⟩) (Nat.le_refl _) _
  have bp3 := boxed_setOther bp2 (show w.heap.size ≠ wc.heap.size by have := bp1.lt; omega) 0 (.slice Ac word.length cc)
  have kx := bg0.cell
  have fx := bg0.frozen
  obtain ⟨wy, hwy⟩ : ∃ wy, wx.setCell ⟨wc.heap.size, 0, none⟩ (.slice Ac word.length cc) = wy := ⟨_, rfl⟩
  rw [hwy] at hv2 bg1 hBx bp3
  have ky := bg1.cell
  have hcy : w1.heap.size ≤ wy.heap.size := by have := hBc.size; have := hBx.size; omega
  have hRev := Reverse_own (.slice Ac word.length cc) word (by omega) w1.heap.size wy hcy hv2
  have hBy := below_trans (below_trans hA1 hBc) hBx
  clear bp0 bp1 bp2 hcl hS1
  go_wp2_with fail
  go_at_call 47
  refine hRev.mono ?_
  rintro e wz ⟨rfl, hvz, hBz, hbz⟩
  have hA1s := hA1.size
  have bgz := hbz _ _ _ (by decide) bg1
  have bpz := hbz _ _ _ (by decide) bp3
  have hSz := hvz.sl
  clear hRev hbz bg1 bp3 hwx hwy kx fx ky bg0 hv1 hv2
  go_wp2
  go_ret
  exact ⟨wc.heap.size, Ac, cc, rfl, bpz, bgz, hSz, hBy.trans (hBz.mono hA1s)⟩

set_option maxRecDepth 100000 in
set_option maxHeartbeats 2000000 in
theorem Syn1_yes (b1 b2 p : Nat) (A : Option Addr) (c : Nat) (word : List UInt8) (hp : p ≤ word.length) (hl : word.length ≤ 255) (w : World) (h1 : w.cell? ⟨b1, 0, none⟩ = some (.int .i64 p)) (h2 : w.cell? ⟨b2, 0, none⟩ = some (.slice A word.length c)) (hS : Sl eB w.heap.size w (.slice A word.length c) word) :
    Calls Try.prog 34 #[.pointer (some ⟨b1, 0, none⟩), .pointer (some ⟨b2, 0, none⟩)] w fun e w' => ∃ v, e = .returned v ∧ Sl eB w'.heap.size w' v (synL word.reverse p) ∧ Below w.heap.size w w' := by
  have d1 : decide ((0 : Int) ≤ (p : Int)) = true := decide_eq_true (by omega)
  have d2 : decide ((p : Int) ≤ 255) = true := decide_eq_true (by omega)
  have d3 : decide ((word.length : Int) ≤ 255) = true := decide_eq_true (by omega)
  have d4 : decide ((p : Int) ≤ (word.length : Int)) = true := decide_eq_true (by omega)
  have hs := syndromes_any (.slice A word.length c) word (by omega) p w hS
  have hrl : word.reverse.length ≤ 1000 := by simp; omega
  have hsl := synL_length word.reverse p
  go_enter Try.func34, Try.ntmps34
  go_wp2_with fail
  go_at_call 22
  refine (must_yes w).mono ?_
  rintro e w' ⟨rfl, rfl⟩
  go_wp2_with fail
  go_at_call 35
  refine hs.mono ?_
  rintro e w1 ⟨bl, A1, c1, rfl, hb1, hb2, hS1, hB1⟩
  have hseq := syn1_seq w.heap.size bl p word.length c1 (by omega) A1 word.reverse hrl w1.heap.size w1 (Nat.le_refl _) hb1.cell hb2.cell hS1 hb2.lt
  have hco := CollectO_any 55 _ (synL word.reverse p) (by omega) w1 (enters_of Try.func55 (by kernel_rfl) rfl) hseq
  clear hseq hs hsl
  go_wp2_with fail
  go_at_call 24
  refine hco.mono ?_
  rintro e w3 ⟨v3, rfl, hv3, hB3⟩
  go_wp2
  go_ret
  exact ⟨v3, rfl, hv3.sl, below_trans hB1 hB3⟩
set_option maxRecDepth 100000 in
set_option maxHeartbeats 2000000 in
theorem Syn1_no (b1 b2 : Nat) (p : Int) (A : Option Addr) (c n : Nat) (hp : p < 0 ∨ 255 < p ∨ 255 < n ∨ (n : Int) < p) (w : World) (h1 : w.cell? ⟨b1, 0, none⟩ = some (.int .i64 p)) (h2 : w.cell? ⟨b2, 0, none⟩ = some (.slice A n c)) :
    Calls Try.prog 34 #[.pointer (some ⟨b1, 0, none⟩), .pointer (some ⟨b2, 0, none⟩)] w fun e w' => e = .panicked [{ v := .iface 24 (.int .i64 2), recovered := false }] ∧ Below w.heap.size w w' := by
  by_cases h0 : p < 0
  · have d1 : decide ((0 : Int) ≤ p) = false := decide_eq_false (by omega)
    clear hp
    go_enter Try.func34, Try.ntmps34
    go_wp2_with (go_at_call 22; refine (must_no w).mono ?_; rintro e w' ⟨rfl, rfl⟩)
    exact ⟨rfl, rfl, Below.refl _ _⟩
  have d1 : decide ((0 : Int) ≤ p) = true := decide_eq_true (by omega)
  by_cases h3 : 255 < p
  · have d2 : decide (p ≤ 255) = false := decide_eq_false (by omega)
    clear hp
    go_enter Try.func34, Try.ntmps34
    go_wp2_with (go_at_call 22; refine (must_no w).mono ?_; rintro e w' ⟨rfl, rfl⟩)
    exact ⟨rfl, rfl, Below.refl _ _⟩
  have d2 : decide (p ≤ 255) = true := decide_eq_true (by omega)
  by_cases h4 : 255 < n
  · have d3 : decide ((n : Int) ≤ 255) = false := decide_eq_false (by omega)
    clear hp
    go_enter Try.func34, Try.ntmps34
    go_wp2_with (go_at_call 22; refine (must_no w).mono ?_; rintro e w' ⟨rfl, rfl⟩)
    exact ⟨rfl, rfl, Below.refl _ _⟩
  have d3 : decide ((n : Int) ≤ 255) = true := decide_eq_true (by omega)
  have d4 : decide (p ≤ (n : Int)) = false := decide_eq_false (by omega)
  clear hp
  go_enter Try.func34, Try.ntmps34
  go_wp2_with (go_at_call 22; refine (must_no w).mono ?_; rintro e w' ⟨rfl, rfl⟩)
  exact ⟨rfl, rfl, Below.refl _ _⟩
set_option maxRecDepth 100000 in
set_option maxHeartbeats 1000000 in
theorem Syndromes_yes (wv : Value) (word : List UInt8) (p : Nat) (hp : p ≤ word.length) (hl : word.length ≤ 255) (w : World) (hS : Sl eB w.heap.size w wv word) :
    Calls Try.prog 16 #[wv, .int .i64 p] w fun e w' => ∃ v, e = .returned (.tuple #[v, .int .i64 0]) ∧ Sl eB w'.heap.size w' v (synL word.reverse p) ∧ Below w.heap.size w w' := by
  have hmf : ∀ (fn : Fn) (first cap : Array Value) (w : World), (Instr.makeFunc fn first cap).run Try.prog w = .ok (.func fn first cap) w := fun _ _ _ _ => rfl
  obtain ⟨A, c, rfl⟩ := hS.len
  have hA1 := below_alloc w (.cells #[.slice A word.length c] 22)
  have hA2 := below_alloc (w.alloc (.cells #[.slice A word.length c] 22)) (.cells #[.int .i64 p] 3)
  have hA := below_trans hA1 hA2
  have hb1 := (Boxed.new w 22 (.slice A word.length c)).alloc (.cells #[.int .i64 p] 3)
  have hb2 := Boxed.new (w.alloc (.cells #[.slice A word.length c] 22)) 3 (.int .i64 p)
  rw [World.size_alloc] at hb2
  obtain ⟨w0, hw0⟩ : ∃ w0, (w.alloc (.cells #[.slice A word.length c] 22)).alloc (.cells #[.int .i64 p] 3) = w0 := ⟨_, rfl⟩
  rw [hw0] at hA hb1 hb2
  have hS0 := hS.next hA
  have ht := told_yes (synL word.reverse p) 34 #[.pointer (some ⟨w.heap.size + 1, 0, none⟩), .pointer (some ⟨w.heap.size, 0, none⟩)] w0 (enters_of Try.func34 (by kernel_rfl) rfl _)
    (fun w1 h => Syn1_yes (w.heap.size + 1) w.heap.size p A c word hp hl w1 ((h.cell (p := ⟨w.heap.size + 1, 0, none⟩) hb2.lt).trans hb2.cell) ((h.cell (p := ⟨w.heap.size, 0, none⟩) hb1.lt).trans hb1.cell) (hS0.next h))
  clear hA1 hA2 hb1 hb2
  go_enter Try.func16, Try.ntmps16
  go_wp2_with fail
  go_at_call 20
  refine ht.mono ?_
  rintro e w2 ⟨v2, rfl, hv2, hB2⟩
  go_wp2
  go_ret2
  exact ⟨v2, rfl, hv2, below_trans hA hB2⟩
set_option maxRecDepth 100000 in
set_option maxHeartbeats 1000000 in
theorem Syndromes_no (A : Option Addr) (n c : Nat) (p : Int) (hp : p < 0 ∨ 255 < p ∨ 255 < n ∨ (n : Int) < p) (w : World) :
    Calls Try.prog 16 #[.slice A n c, .int .i64 p] w fun e w' => e = .returned (.tuple #[.slice none 0 0, .int .i64 2]) ∧ Below w.heap.size w w' := by
  have hmf : ∀ (fn : Fn) (first cap : Array Value) (w : World), (Instr.makeFunc fn first cap).run Try.prog w = .ok (.func fn first cap) w := fun _ _ _ _ => rfl
  have hA1 := below_alloc w (.cells #[.slice A n c] 22)
  have hA2 := below_alloc (w.alloc (.cells #[.slice A n c] 22)) (.cells #[.int .i64 p] 3)
  have hA := below_trans hA1 hA2
  have hb1 := (Boxed.new w 22 (.slice A n c)).alloc (.cells #[.int .i64 p] 3)
  have hb2 := Boxed.new (w.alloc (.cells #[.slice A n c] 22)) 3 (.int .i64 p)
  rw [World.size_alloc] at hb2
  obtain ⟨w0, hw0⟩ : ∃ w0, (w.alloc (.cells #[.slice A n c] 22)).alloc (.cells #[.int .i64 p] 3) = w0 := ⟨_, rfl⟩
  rw [hw0] at hA hb1 hb2
  have ht := told_no 2 34 #[.pointer (some ⟨w.heap.size + 1, 0, none⟩), .pointer (some ⟨w.heap.size, 0, none⟩)] w0 (enters_of Try.func34 (by kernel_rfl) rfl _)
    (fun w1 h => Syn1_no (w.heap.size + 1) w.heap.size p A c n hp w1 ((h.cell (p := ⟨w.heap.size + 1, 0, none⟩) hb2.lt).trans hb2.cell) ((h.cell (p := ⟨w.heap.size, 0, none⟩) hb1.lt).trans hb1.cell))
  clear hA1 hA2 hb1 hb2 hp
  go_enter Try.func16, Try.ntmps16
  go_wp2_with fail
  go_at_call 20
  refine ht.mono ?_
  rintro e w2 ⟨rfl, hB2⟩
  go_wp2
  go_ret2
  exact ⟨rfl, below_trans hA hB2⟩
end Go.Proofs.Ytkldapdebjlfmaa
