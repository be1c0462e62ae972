/- Contract of rs.rest's closure that shifts. -/
import Derived.Test.YtkldapdebjlfmaaRsE
import Derived.StillTailTactics
import Derived.Deep.RegionHeld3
namespace Go.Proofs.Ytkldapdebjlfmaa
open Go.RowKit Go.Shelf
attribute [local go_sem] Oper.semAt_some run_store_func

/-- Shifted by one, with nought behind. -/
def shl (p : Nat) (f : Nat → UInt8) : Nat → UInt8 := fun j => if j + 1 < p then f (j + 1) else 0
/-- k of the generator's factors put in. -/
def put (p : Nat) (f : Nat → UInt8) (out : UInt8) (G : Nat → UInt8) (k : Nat) : Nat → UInt8 := fun j => if j < k then shl p f j ^^^ ma out (G (j + 1)) else shl p f j
theorem put_step (p : Nat) (f : Nat → UInt8) (out : UInt8) (G : Nat → UInt8) (k : Nat) : (fun j => if j = k then put p f out G k k ^^^ ma out (G (k + 1)) else put p f out G k j) = put p f out G (k + 1) := by
  funext j
  simp only [put]
  by_cases e : j = k
  · subst e; rw [if_pos rfl, if_neg (by omega), if_pos (by omega)]
  · rw [if_neg e]
    by_cases h : j < k
    · rw [if_pos h, if_pos (show j < k + 1 by omega)]
    · rw [if_neg h, if_neg (show ¬ j < k + 1 by omega)]
theorem put_zero (p : Nat) (f : Nat → UInt8) (out : UInt8) (G : Nat → UInt8) : put p f out G 0 = shl p f := by
  funext j; simp [put]
theorem shl_cells (p : Nat) (f : Nat → UInt8) (_hp : 0 < p) : ((((List.range p).map f).drop 1).map eB ++ (cellsF f p).toList.drop (p - 1)).toArray.setIfInBounds (p - 1) (eB 0) = cellsF (shl p f) p := by
  apply Array.ext
  · simp [cellsF]
  · intro j h1 h2
    simp only [cellsF_size] at h2
    rw [show (cellsF (shl p f) p)[j] = eB (shl p f j) by simp [cellsF]]
    by_cases e : j = p - 1
    · subst e
      rw [Array.getElem_setIfInBounds_self]
      unfold shl
      rw [if_neg (by omega)]
    · rw [Array.getElem_setIfInBounds_ne (by simpa using h1) (fun h => e h.symm)]
      simp only [List.getElem_toArray]
      rw [List.getElem_append_left (by simp; omega)]
      unfold shl
      rw [if_pos (by omega)]
      simp
theorem boxed_setOther {W : World} {b g : Nat} {t : TypeId} {v : Value} (h : Boxed W b t v) (n : b ≠ g) (j : Nat) (u : Value) : Boxed (W.setCell ⟨g, j, none⟩ u) b t v := (Below.heap_setCell _ _ _ _ n).trans h
theorem Sl.keepOther {B g : Nat} {W W' : World} {A : Option Addr} {l c : Nat} {xs : List UInt8} (h : Sl eB B W (.slice A l c) xs) (hA : ∀ ad, A = some ad → ad.block ≠ g) (hh : ∀ k, k < B → k ≠ g → W'.heap[k]? = W.heap[k]?) : Sl eB B W' (.slice A l c) xs := by
  obtain ⟨A', c', e, hc, hcs⟩ := h
  cases e
  refine ⟨A, c, rfl, hc, fun hn => ?_⟩
  obtain ⟨b0, off, rfl, hlt, hcell⟩ := hcs hn
  refine ⟨b0, off, rfl, hlt, fun j x hj => ?_⟩
  rw [← hcell j x hj]
  exact World.cell?_of_block (w := W) (hh b0 hlt (hA _ rfl))
theorem Sl.keep {g : Nat} {W W' : World} {A : Option Addr} {l c : Nat} {xs : List UInt8} (h : Sl eB W.heap.size W (.slice A l c) xs) (hA : ∀ ad, A = some ad → ad.block ≠ g) (hk : Keep W.heap.size g W W') : Sl eB W'.heap.size W' (.slice A l c) xs :=
  (h.keepOther hA (fun k a b => hk.2 k a b)).more (keep_size hk)
set_option maxRecDepth 100000 in
set_option maxHeartbeats 4000000 in
theorem shift_any (p : Nat) (hp : 0 < p) (hp2 : p ≤ 255) (f : Nat → UInt8) (b : UInt8) (G : List UInt8) (hG : G.length = p + 1) (bl bp bg gl : Nat) (A : Option Addr) (cg : Nat) (w : World)
    (h1 : Boxed w bl 22 (.slice (some ⟨gl, 0, none⟩) p p)) (h2 : Boxed w bp 3 (.int .i64 p)) (h3 : Boxed w bg 22 (.slice A (p + 1) cg)) (hr : Rowed w gl 5 (cellsF f p))
    (hS : Sl eB w.heap.size w (.slice A (p + 1) cg) G) (n1 : bl ≠ gl) (n2 : bp ≠ gl) (n3 : bg ≠ gl) (n4 : ∀ ad, A = some ad → ad.block ≠ gl) :
    Calls Try.prog 48 #[eB b, .pointer (some ⟨bl, 0, none⟩), .pointer (some ⟨bp, 0, none⟩), .pointer (some ⟨bg, 0, none⟩)] w fun e w' => e = .returned (.tuple #[]) ∧ Rowed w' gl 5 (cellsF (put p f (f 0 ^^^ b) (C G) p) p) ∧ Keep w.heap.size gl w w' := by
  have k1 := h1.cell
  have k2 := h2.cell
  have c0 := hr.cell 0
  rw [cellsF_get f p 0 hp] at c0
  have hx := u8x (f 0) b
  have hp0 : (0 : Int) < (p : Int) := by omega
  obtain ⟨out, ho⟩ : ∃ out, f 0 ^^^ b = out := ⟨_, rfl⟩
  rw [ho] at hx
  rw [ho]
  clear ho
  obtain ⟨A2, hsl, hA2⟩ : ∃ A2, (∀ w, (Instr.sliceAt 22 (.slice (some ⟨gl, 0, none⟩) p p) (some (.int .i64 1)) none none).run Try.prog w = .ok (.slice A2 (p - 1) (p - 1)) w) ∧ (p ≠ 1 → A2 = (some (⟨gl, 0, none⟩ : Addr)).map (·.add 1)) := by
    by_cases h : p = 1
    · subst h
      refine ⟨some ⟨gl, 0, none⟩, fun w => ?_, fun h => absurd rfl h⟩
      kernel_rfl
    · refine ⟨(some (⟨gl, 0, none⟩ : Addr)).map (·.add 1), fun w => ?_, fun _ => rfl⟩
      simp [go_sem, h, Try.underlying22]
      intro h'
      omega
  go_enter Try.func48, Try.ntmps48
  go_wp2_with fail
  go_still_tail 3, (by kernel_rfl)
  change wpList _ _ _ _ _ w.drew
  have d1 : Boxed w.drew bl 22 (.slice (some ⟨gl, 0, none⟩) p p) := h1
  have d2 : Boxed w.drew bp 3 (.int .i64 p) := h2
  have d3 : Boxed w.drew bg 22 (.slice A (p + 1) cg) := h3
  have dr : Rowed w.drew gl 5 (cellsF f p) := hr
  have hSd : Sl eB w.drew.heap.size w.drew (.slice A (p + 1) cg) G := hS.next (below_drewA w)
  have hkd : Keep w.heap.size gl w w.drew := ⟨⟨rfl, rfl, rfl, Nat.le_refl _⟩, fun _ _ _ => rfl⟩
  clear h1 h2 h3 hr hS k1 k2 c0
  generalize w.drew = wd at *
  have hsrc := (sl_cellsF dr wd.heap.size dr.lt).from_ (p := 1) (by simp; omega) A2 hA2
  obtain ⟨w1, hcp, hR1, hBb, hO1, hz1⟩ := copy_run 22 22 3 5 Try.underlying22 u8_size gl p p (.slice A2 (p - 1) (p - 1)) (cellsF f p) 5 dr (cellsF_size _ _) wd.heap.size (((List.range p).map f).drop 1) hsrc (by simp)
  have e1 : Boxed w1 bl 22 (.slice (some ⟨gl, 0, none⟩) p p) := (hO1 _ n1).trans d1
  have e2 : Boxed w1 bp 3 (.int .i64 p) := (hO1 _ n2).trans d2
  have e3 : Boxed w1 bg 22 (.slice A (p + 1) cg) := (hO1 _ n3).trans d3
  have hB1 := hBb gl (Nat.le_refl _)
  have hk1 : Keep wd.heap.size gl wd w1 := ⟨⟨hB1.os, hB1.tape, hB1.output, hB1.size⟩, fun k _ hg => hO1 k hg⟩
  clear hBb hB1
  have hS1 := hSd.keep n4 hk1
  have hlen1 : (((List.range p).map f).drop 1).length = p - 1 := by simp
  have cz : w1.cell? ⟨gl, p - 1, none⟩ = some (eB (f (p - 1))) := by
    rw [hR1.cell (p - 1), hlen1]
    simp only [List.getElem?_toArray]
    rw [List.getElem?_append_right (by simp), List.length_map, hlen1, Nat.sub_self, List.getElem?_drop, Nat.add_zero, Array.getElem?_toList, cellsF_get f p _ (by omega)]
  rw [hlen1] at hR1 hcp
  have fz := hR1.frozen (p - 1)
  have hset := hR1.set (p - 1) (eB 0)
  rw [shl_cells p f hp, ← put_zero p f out (C G)] at hset
  have g1 := boxed_setOther e1 n1 (p - 1) (eB 0)
  have g2' := boxed_setOther e2 n2 (p - 1) (eB 0)
  have g3 := boxed_setOther e3 n3 (p - 1) (eB 0)
  have hks : Keep w1.heap.size gl w1 (w1.setCell ⟨gl, p - 1, none⟩ (eB 0)) := keep_set _ _ _ _ _
  have hSs := hS1.keep n4 hks
  have b1 := e1.cell
  have b2 := e2.cell
  have b3 : (w1.setCell ⟨gl, p - 1, none⟩ (Value.int .u8 0)).cell? ⟨bg, 0, none⟩ = some (.slice A (p + 1) cg) := g3.cell
  have hi1 : IntKind.i64.wrap ((p : Int) - 1) = ((p - 1 : Nat) : Int) := by rw [IntWalk.i64_in _ (by omega)]; omega
  have hp1 : p - 1 < p := by omega
  have hp1i : ((p - 1 : Nat) : Int) < (p : Int) := by omega
  obtain ⟨bG, oG, rfl, hbG, hcG⟩ := hSs.cells_at (by omega)
  have hcg : p + 1 ≤ cg := by obtain ⟨_, _, e, h, _⟩ := hSs; injection e with x1 x2 x3; omega
  have hcg1 : ¬ cg = 1 := by omega
  go_wp2_with fail
  obtain ⟨w2, hw2⟩ : ∃ w2, w1.setCell ⟨gl, p - 1, none⟩ (Value.int .u8 0) = w2 := ⟨_, rfl⟩
  have j1 : Boxed w2 bl 22 (.slice (some ⟨gl, 0, none⟩) p p) := by rw [← hw2]; exact g1
  have jr : Rowed w2 gl 5 (cellsF (put p f out (C G) 0) p) := by rw [← hw2]; exact hset
  have jk : Keep w.heap.size gl w w2 := by
    have a : Keep w1.heap.size gl w1 w2 := by rw [← hw2]; exact hks
    have s1 := keep_size hkd
    have s2 := keep_size hk1
    exact keep_t (keep_t hkd ⟨hk1.1, fun k hk hg => hk1.2 k (by omega) hg⟩) ⟨a.1, fun k hk hg => a.2 k (by omega) hg⟩
  have jc : ∀ k, k < p → w2.cell? ⟨bG, oG + 1 + k, none⟩ = some (eB (C G (k + 1))) := fun k hk => by
    have := hcG (k + 1) (by omega)
    rw [← hw2, show oG + 1 + k = oG + (k + 1) by omega]
    exact this
  have jG : bG < w2.heap.size := by rw [← hw2]; exact hbG
  have nG : bG ≠ gl := n4 _ rfl
  rw [hw2]
  clear hw2 hset g1 g2' g3 hSs hcG hbG e1 e2 e3 hS1 hcp hR1 hO1 hz1 fz cz b1 b2 b3 hi1 hp1 hp1i hkd hk1 hks hsrc hSd dr d1 d2 d3 hsl hA2 hlen1 hx
  have j1l := j1.lt
  go_loopw [24] (fun i wr => ∃ k : Nat, k ≤ p ∧ i = .int .i64 k ∧ Rowed wr gl 5 (cellsF (put p f out (C G) k) p) ∧ Keep w2.heap.size gl w2 wr) (fun i _ => p - (intOf i).toNat)
  case atStart => exact ⟨0, by omega, rfl, jr, keep_r _ _ _⟩
  case round =>
    obtain ⟨k, hk, rfl, hr, hkr⟩ := hrel
    by_cases hlt : k < p
    · have hd : decide ((k : Int) < (p : Int)) = true := decide_eq_true (by omega)
      have hkp : (k : Int) < (p : Int) := by omega
      have cG := (hkr.cell (p := ⟨bG, oG + 1 + k, none⟩) jG nG).trans (jc k hlt)
      have hb1 := Keep.boxed hkr j1 j1l n1
      have ck := hr.cell k
      rw [cellsF_get _ _ _ hlt] at ck
      have fk := hr.frozen k
      have cb := hb1.cell
      have hst := put_step p f out (C G) k
      have hx := u8x (put p f out (C G) k k) (ma out (C G (k + 1)))
      have hmu : ∀ W, Below wr.heap.size wr W → Calls Try.prog 49 #[eB out, eB (C G (k + 1))] W fun e w' => e = .returned (eB (ma out (C G (k + 1)))) ∧ Below wr.heap.size wr w' ∧ w'.cell? ⟨bl, 0, none⟩ = some (.slice (some ⟨gl, 0, none⟩) p p) ∧ w'.cell? ⟨gl, k, none⟩ = some (eB (put p f out (C G) k k)) ∧ w'.frozen? ⟨gl, k, none⟩ = false := fun W hW =>
        (Mul8_any out (C G (k + 1)) W).mono fun e w' h => by
          have hb := hW.trans (h.2.mono hW.size)
          exact ⟨h.1, hb, (hb.cell (p := ⟨bl, 0, none⟩) hb1.lt).trans cb, (hb.cell (p := ⟨gl, k, none⟩) hr.lt).trans ck, (hr.below hb hr.lt).frozen k⟩
      generalize hu : put p f out (C G) k k = u at *
      generalize hm : ma out (C G (k + 1)) = m at *
      generalize C G (k + 1) = c at *
      clear jc jr
      obtain ⟨y, hy⟩ : ∃ y : UInt8, u ^^^ m = y := ⟨_, rfl⟩
      rw [hy] at hx
      have hset : ∀ W, Below wr.heap.size wr W → Rowed (W.setCell ⟨gl, k, none⟩ (eB y)) gl 5 (cellsF (put p f out (C G) (k + 1)) p) := fun W hW => by
        have h1 := (hr.below hW hr.lt).set k (eB y)
        rw [cellsF_set] at h1
        rw [← hst, hy]
        exact h1
      have hB0 : Below wr.heap.size wr wr := Below.refl _ _
      have hB1 : Below wr.heap.size wr wr.drew := below_drewA wr
      clear hu hm hst
      go_wp2_with fail
      go_region_with (first | (go_at_call 49; refine (hmu _ (by assumption)).mono ?_; rintro e w' ⟨rfl, hB3, g1, g2, g3⟩))
      all_goals
        have hr3 : Rowed (w'.setCell ⟨gl, k, none⟩ (Value.int .u8 (y.toNat : Int))) gl 5 (cellsF (put p f out (C G) (k + 1)) p) := hset w' hB3
        have hk3 : Keep w2.heap.size gl w2 (w'.setCell ⟨gl, k, none⟩ (Value.int .u8 (y.toNat : Int))) := keep_t (keep_t hkr (keep_of (hB3.mono (keep_size hkr)))) (keep_set _ _ _ _ _)
        clear hset hmu hB0 hB1 g1 g2 g3 cG ck fk cb hb1 hr hkr hx
        generalize w'.setCell ⟨gl, k, none⟩ (Value.int .u8 (y.toNat : Int)) = w3 at *
        go_wp2
        go_roundw
        case rel => exact ⟨k + 1, by omega, by go_num, hr3, hk3⟩
        case measure => simp [intOf]; omega
    · obtain rfl : k = p := by omega
      have hd : decide ((k : Int) < (k : Int)) = false := decide_eq_false (by omega)
      have hkw : Keep w.heap.size gl w wr := keep_t jk ⟨hkr.1, fun i hi hg => hkr.2 i (by have := keep_size jk; omega) hg⟩
      clear jc jr
      go_wp2
      go_end0
      exact ⟨rfl, hr, hkw⟩
end Go.Proofs.Ytkldapdebjlfmaa
