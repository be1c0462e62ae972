/- TurnErrors. -/
import Derived.Test.YtniiblamoimcjaaDoorTuL
namespace Go.Proofs.YtniiblamoimcjaaDoor
open Go.RowKit Go.Shelf
attribute [local go_sem] Oper.semAt_some run_store_func

/-- A row of one's own, and one of its cells set. -/
theorem own_put {W : World} {base n : Nat} {v : Value} {a : List UInt8} (h : W.ownsRow base 5 1 v n (a.map eB)) (p : Nat) (y : UInt8) (hp : p < a.length) :
    ∃ g cap, v = .slice (some ⟨g, 0, none⟩) a.length cap ∧ base ≤ g ∧ g < W.heap.size ∧
      ∀ W' : World, W'.heap[g]? = W.heap[g]? → (∃ x : UInt8, W'.cell? ⟨g, p, none⟩ = some (eB x)) ∧ W'.frozen? ⟨g, p, none⟩ = false ∧
        ∀ B, g < B → Sl eB B (W'.setCell ⟨g, p, none⟩ (eB y)) (.slice (some ⟨g, 0, none⟩) a.length cap) (a.set p y) := by
  have hl : a.length = n := by have := h.1; simpa using this
  subst hl
  rcases h.2 with ⟨_, h0⟩ | ⟨g, cap, cur, rfl, hb, hg, hn, hcm, hsz, htk⟩
  · omega
  have hr0 : Rowed W g 5 cur := hg
  have hcells0 : ∀ (j : Nat) (x : UInt8), a[j]? = some x → cur[j]? = some (eB x) := by
    intro j x hx
    have := World.ownsRow.cells h (g := g) rfl j (eB x) (by simp [hx])
    rwa [show (⟨g, 0, none⟩ : Addr).add j = ⟨g, j, none⟩ from by unfold Addr.add; split <;> simp_all, hr0.cell j] at this
  refine ⟨g, cap, rfl, hb, hr0.lt, fun W' hW' => ?_⟩
  have hr : Rowed W' g 5 cur := hW'.trans hr0
  refine ⟨⟨a[p], by rw [hr.cell p]; exact hcells0 p _ (by simp [hp])⟩, hr.frozen p, fun B hgB => ?_⟩
  refine ⟨some ⟨g, 0, none⟩, cap, by simp, by simpa using hn, fun _ => ⟨g, 0, rfl, hgB, fun j x hx => ?_⟩⟩
  have hs := hr.set p (eB y)
  rw [Nat.zero_add, hs.cell j]
  have hj : j < a.length := by have := (List.getElem?_eq_some_iff.1 hx).1; simpa using this
  have hc := hcells0 j a[j] (by simp)
  rw [List.getElem?_set] at hx
  have hpc : p < cur.size := by
    have hc2 := hcells0 p a[p] (by simp)
    exact (Array.getElem?_eq_some_iff.1 hc2).1
  by_cases e : p = j
  · subst e
    rw [if_pos rfl, if_pos hp] at hx
    cases hx
    rw [Array.getElem?_setIfInBounds_self_of_lt hpc]
  · rw [if_neg e] at hx
    rw [Array.getElem?_setIfInBounds_ne e, hc]
    rw [List.getElem?_eq_getElem hj] at hx
    cases hx
    rfl
theorem Sl.apart {α : Type} {enc : α → Value} {B g n c : Nat} {W : World} {xs : List α} (h : Sl enc B W (.slice (some ⟨g, 0, none⟩) n c) xs) (b j : Nat) (u : Value) (hne : g ≠ b) : Sl enc B (W.setCell ⟨b, j, none⟩ u) (.slice (some ⟨g, 0, none⟩) n c) xs := by
  obtain ⟨A', c', he, hc, hcs⟩ := h
  refine ⟨A', c', he, hc, fun h0 => ?_⟩
  obtain ⟨b', off, e, hb, hcell⟩ := hcs h0
  injection he with e1 _ _
  rw [e] at e1
  injection e1 with e1
  injection e1 with e2 e3 _
  subst e2 e3
  refine ⟨g, 0, e, hb, fun i x hx => ?_⟩
  rw [← hcell i x hx]
  simp only [World.cell?, Below.heap_setCell W ⟨b, j, none⟩ u g hne]
theorem sl_none (B : Nat) (w : World) : Sl eB B w (.slice none 0 0) [] := ⟨none, 0, rfl, Nat.le_refl _, fun h => absurd h (by simp)⟩
theorem at_is (z : Int) (L : Nat) (h0 : 0 < L) (hL : L ≤ 200) : ∃ k : Nat, k < L ∧ (wrap64 (z.tmod (L : Int) + (L : Int))).tmod (L : Int) = (k : Int) := by
  have h1 : z.tmod (L : Int) < L := Int.tmod_lt_of_pos _ (by omega)
  have h2 : -(L : Int) ≤ z.tmod (L : Int) := by
    rw [Int.tmod_eq_emod]
    have := Int.emod_nonneg z (b := (L : Int)) (by omega)
    split <;> simp <;> omega
  rw [IntWalk.wrap64_in _ (by omega)]
  have h3 := Int.tmod_nonneg (L : Int) (a := z.tmod (L : Int) + (L : Int)) (by omega)
  have h4 := Int.tmod_lt_of_pos (z.tmod (L : Int) + (L : Int)) (b := (L : Int)) (by omega)
  exact ⟨((z.tmod (L : Int) + (L : Int)).tmod (L : Int)).toNat, by omega, by omega⟩

set_option maxRecDepth 100000 in
set_option maxHeartbeats 4000000 in
theorem TurnErrors_any (n : Int) (sv : Value) (z : Int) (bad : UInt8) (l : List Int) (w : World) (hS : Sl eI w.heap.size w sv l) (hT : Tab w) :
    Calls Tryd.prog 7 #[.int .i64 n, sv, .int .i64 z, eB bad] w fun e w' => e = .returned (.bool true) ∧ Below w.heap.size w w' := by
  have hw := wakes_any
  have hle := lett_any n
  have hal := let_letter n
  have hsl : (tritsOf l).length = l.length := by simp [tritsOf]
  have htr : ∀ t ∈ tritsOf l, IsTri t := by
    intro t ht
    obtain ⟨x, _, rfl⟩ := List.mem_map.1 ht
    exact tri_trit x
  have htv := trits_any sv l
  obtain ⟨A, c, hsv⟩ := hS.len
  subst hsv
  generalize tritsOf l = ts at *
  generalize letterOf n = a at *
  have heq : ∀ k : UInt8, bad ≠ k → ((bad.toNat : Int) == (k.toNat : Int)) = false := by
    intro k hk
    simp only [beq_eq_false_iff_ne, ne_eq, Int.ofNat_inj]
    intro h
    exact hk (UInt8.toNat_inj.1 h)
  by_cases h3 : 200 < l.length
  · have d1 : decide ((200 : Int) < (l.length : Int)) = true := decide_eq_true (by omega)
    go_enter Tryd.func7, Tryd.ntmps7
    go_wp2_with (go_at_call 8; refine (hw _ hT).mono ?_; rintro e w' ⟨rfl, hB⟩)
    go_ret
    exact ⟨rfl, hB⟩
  have d1 : decide ((200 : Int) < (l.length : Int)) = false := decide_eq_false (by omega)
  by_cases h0 : l.length = 0
  · have d2 : ((l.length : Int) == 0) = true := by rw [h0]; rfl
    have H0 := Lib.hid h0
    clear h0 hsl
    go_enter Tryd.func7, Tryd.ntmps7
    go_wp2_with (go_at_call 8; refine (hw _ hT).mono ?_; rintro e w' ⟨rfl, hB⟩)
    go_ret
    exact ⟨rfl, hB⟩
  have d2 : ((l.length : Int) == 0) = false := by simpa using h0
  by_cases hb3 : (bad.toNat : Int) < 3
  · have d3 : decide ((bad.toNat : Int) < 3) = true := decide_eq_true hb3
    go_enter Tryd.func7, Tryd.ntmps7
    go_wp2_with (go_at_call 8; refine (hw _ hT).mono ?_; rintro e w' ⟨rfl, hB⟩)
    go_ret
    exact ⟨rfl, hB⟩
  have d3 : decide ((bad.toNat : Int) < 3) = false := decide_eq_false hb3
  by_cases hb65 : bad = 65
  · have e65 : ((bad.toNat : Int) == 65) = true := by rw [hb65]; rfl
    have Hb := Lib.hid hb65
    clear hb65 heq
    go_enter Tryd.func7, Tryd.ntmps7
    go_wp2_with (go_at_call 8; refine (hw _ hT).mono ?_; rintro e w' ⟨rfl, hB⟩)
    go_ret
    exact ⟨rfl, hB⟩
  have e65 : ((bad.toNat : Int) == 65) = false := heq 65 hb65
  by_cases hb67 : bad = 67
  · have e67 : ((bad.toNat : Int) == 67) = true := by rw [hb67]; rfl
    have Hb := Lib.hid hb67
    clear hb67 heq
    go_enter Tryd.func7, Tryd.ntmps7
    go_wp2_with (go_at_call 8; refine (hw _ hT).mono ?_; rintro e w' ⟨rfl, hB⟩)
    go_ret
    exact ⟨rfl, hB⟩
  have e67 : ((bad.toNat : Int) == 67) = false := heq 67 hb67
  by_cases hb71 : bad = 71
  · have e71 : ((bad.toNat : Int) == 71) = true := by rw [hb71]; rfl
    have Hb := Lib.hid hb71
    clear hb71 heq
    go_enter Tryd.func7, Tryd.ntmps7
    go_wp2_with (go_at_call 8; refine (hw _ hT).mono ?_; rintro e w' ⟨rfl, hB⟩)
    go_ret
    exact ⟨rfl, hB⟩
  have e71 : ((bad.toNat : Int) == 71) = false := heq 71 hb71
  by_cases hb84 : bad = 84
  · have e84 : ((bad.toNat : Int) == 84) = true := by rw [hb84]; rfl
    have Hb := Lib.hid hb84
    clear hb84 heq
    go_enter Tryd.func7, Tryd.ntmps7
    go_wp2_with (go_at_call 8; refine (hw _ hT).mono ?_; rintro e w' ⟨rfl, hB⟩)
    go_ret
    exact ⟨rfl, hB⟩
  have e84 : ((bad.toNat : Int) == 84) = false := heq 84 hb84
  obtain ⟨s, e1, e2, e3, e4, e5⟩ := walk_turn ts a hal htr
  obtain ⟨k, hk, hat⟩ := at_is z l.length (by omega) (by omega)
  have hcb : codeOf bad.toNat = -1 := no_code hb65 hb67 hb71 hb84
  have hq1 := walk_turn_set ts a k bad hal htr (by omega) (by omega)
  have hq2 := walk_back_set s a k bad hal e3 (alike_of s a e4) (by omega) hcb
  have hTy := fun v w => Turn_yes a v ts s (by show gatG a (wB a ts) = _; rw [e1]; exact gat_ok hal s) (by omega) w
  have hT2 := fun v w => Turn_no a v (ts.set k bad) 2 (by show gatG a (wB a _) = _; rw [show wB a (ts.set k bad) = ((wB a (ts.set k bad)).1, some 2) from Prod.ext rfl hq1]; exact gat_no hal _ _) (by simp; omega) w
  have hB2 := fun v w => Back_no a v (s.set k bad) 10 (by show gatG a (wT a _) = _; rw [show wT a (s.set k bad) = ((wT a (s.set k bad)).1, some 10) from Prod.ext rfl hq2]; exact gat_no hal _ _) (by simp; omega) w
  have hT3 := fun v w => Turn_no bad v [] 10 (gat_bad hcb _) (by simp) w
  have hB3 := fun v w => Back_no bad v [] 10 (gat_bad hcb _) (by simp) w
  have hns : ts.length < 201 := by omega
  have hss : s.length < 201 := by omega
  have hkt : k < ts.length := by omega
  have hks : k < s.length := by omega
  have hl3 : l.length ≤ 17592186044416 := by omega
  have Hsl := Lib.hid hsl
  have Hs := Lib.hid e2
  have hlen : ((s.length : Int) != (ts.length : Int)) = false := by rw [e2]; simp
  clear e1 e2 e3 e4 e5 hq1 hq2 hcb hal htr hsl heq hb65 hb67 hb71 hb84
  go_enter Tryd.func7, Tryd.ntmps7
  go_wp2_with fail
  go_at_call 18
  refine (hle _).mono ?_
  rintro e w' ⟨rfl, rfl⟩
  go_wp2_with fail
  go_at_call 19
  refine (htv hl3 _ hS).mono ?_
  rintro e w1 ⟨v1, rfl, ho1, hB1⟩
  rw [← Hsl.out] at ho1
  have hx := sl_own ho1
  have hTb := hT.below hB1
  obtain ⟨g1, k1, rfl, hg1, hg1l, hput1⟩ := own_put ho1 k bad hkt
  clear htv ho1 hS hle
  go_wp2_with fail
  go_at_call 13
  refine (hTy _ _ hTb hx).mono ?_
  rintro e w2 ⟨v2, rfl, ho2, hB2'⟩
  obtain ⟨g2, k2, rfl, hg2, hg2l, hput2⟩ := own_put ho2 k bad hks
  have hTb := hTb.below hB2'
  have hbl := hB2'.block g1 hg1l
  have hBx := below_trans hB1 hB2'
  have hne : g1 ≠ g2 := by omega
  obtain ⟨⟨x2, hc2⟩, hf2, hs2⟩ := hput2 w2 rfl
  obtain ⟨⟨x1, hc1⟩, hf1, hs1⟩ := hput1 (w2.setCell ⟨g2, k, none⟩ (eB bad)) ((Below.heap_setCell w2 ⟨g2, k, none⟩ (eB bad) g1 hne).trans hbl)
  have hBy := (hBx.setCell (p := ⟨g2, k, none⟩) (by show w.heap.size ≤ g2; have := hB1.size; omega) (eB bad)).setCell (p := ⟨g1, k, none⟩) hg1 (eB bad)
  have hsz : ((w2.setCell ⟨g2, k, none⟩ (eB bad)).setCell ⟨g1, k, none⟩ (eB bad)).heap.size = w2.heap.size := by simp [World.setCell]
  have hS1 := hs1 w2.heap.size (by have := hB2'.size; omega)
  have hS2 := Sl.apart (hs2 w2.heap.size hg2l) g1 k (eB bad) (Ne.symm hne)
  have hTc := hT.below hBy
  rw [← hsz] at hS1 hS2
  clear hTy ho2 hx hB1 hput1 hput2 hs1 hs2 hB2' hbl hBx hTb hT hsz
  go_wp2_with fail
  generalize (w2.setCell ⟨g2, k, none⟩ (eB bad)).setCell ⟨g1, k, none⟩ (eB bad) = w3 at *
  go_at_call 13
  refine (hT2 _ _ hTc hS1).mono ?_
  rintro e w4 ⟨rfl, hB4⟩
  have hS2 := hS2.next hB4
  have hTc := hTc.below hB4
  have hB4 := below_trans hBy hB4
  clear hT2 hS1 hBy
  go_wp2_with fail
  go_at_call 15
  refine (hB2 _ _ hTc hS2).mono ?_
  rintro e w5 ⟨rfl, hB5⟩
  have hTc := hTc.below hB5
  have hB5 := below_trans hB4 hB5
  clear hB2 hS2 hB4
  go_wp2_with fail
  go_at_call 13
  refine (hT3 _ _ hTc (sl_none _ _)).mono ?_
  rintro e w6 ⟨rfl, hB6⟩
  have hTc := hTc.below hB6
  have hB6 := below_trans hB5 hB6
  clear hT3 hB5
  go_wp2_with fail
  go_at_call 15
  refine (hB3 _ _ hTc (sl_none _ _)).mono ?_
  rintro e w7 ⟨rfl, hB7⟩
  have hTc := hTc.below hB7
  have hB7 := below_trans hB6 hB7
  clear hB3 hB6
  go_wp2_with (go_at_call 8; refine (hw _ hTc).mono ?_; rintro e w' ⟨rfl, hB8⟩)
  go_ret
  exact ⟨rfl, below_trans hB7 hB8⟩
end Go.Proofs.YtniiblamoimcjaaDoor
