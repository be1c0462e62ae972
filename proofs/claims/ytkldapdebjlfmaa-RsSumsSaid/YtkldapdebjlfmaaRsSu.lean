/- RsSums. -/
import Derived.Test.YtkldapdebjlfmaaRsQ
import Derived.StillTailTactics
namespace Go.Proofs.Ytkldapdebjlfmaa
open Go.RowKit Go.Shelf
attribute [local go_sem] Oper.semAt_some

theorem own_setc {B : Nat} {W : World} {v : Value} {bs : List UInt8} (h : Own8 B W v bs) (b j : Nat) (u : Value) (hb : b < B) : Own8 B (W.setCell ⟨b, j, none⟩ u) v bs :=
  World.ownsRow.kept h (grownBy_setCellAt W b j u) (by
    cases hv : v.ownBlock with
    | none => exact .inl rfl
    | some k => exact .inr (fun e => by have h1 := (World.ownsRow.lt h k hv).1; cases e; omega))
theorem own_grow {B : Nat} {W W' : World} {v : Value} {bs : List UInt8} (h : Own8 B W v bs) (hB : Below W.heap.size W W') : Own8 B W' v bs :=
  World.ownsRow.kept h (row := none) ⟨hB.os, hB.tape, hB.output, hB.size, fun k hk _ => hB.block k hk⟩ (by
    cases hv : v.ownBlock with
    | none => exact .inl rfl
    | some k => exact .inr (fun e => by cases e))
theorem syn_zero {a : List UInt8} {p : Nat} (h : Rig (C a) a.length p) (j : Nat) (hj : j < p) : C (synL a.reverse p) j = 0 := by
  have h1 := (right_iff a p).2 h
  rw [List.all_eq_true] at h1
  have hl : j < (synL a.reverse p).length := by rw [synL_length]; exact hj
  rw [C_get _ _ hl]
  simpa using h1 _ (List.getElem_mem hl)
theorem Rig.less {f : Nat → UInt8} {N p q : Nat} (h : Rig f N p) (hq : q ≤ p) : Rig f N q := fun i hi => h i (by omega)

set_option maxRecDepth 100000 in
set_option maxHeartbeats 4000000 in
theorem RsSums_big (A0 A1 : Option Addr) (l0 c0 l1 c1 : Nat) (p : Int) (w : World) (hbig : 200 < min l0 l1 ∨ p < 0 ∨ 32 < p) :
    Calls Try.prog 5 #[.slice A0 l0 c0, .slice A1 l1 c1, .int .i64 p] w fun e w' => e = .returned (.bool true) ∧ Below w.heap.size w w' := by
  obtain ⟨n, hn⟩ : ∃ n, min l0 l1 = n := ⟨_, rfl⟩
  rw [hn] at hbig
  rcases (show (l1 < l0 ∧ l1 = n) ∨ (¬ l1 < l0 ∧ l0 = n) by omega) with ⟨hc, rfl⟩ | ⟨hc, rfl⟩
  · clear hn
    by_cases b1 : 200 < l1
    · have d1 : decide ((200 : Int) < (l1 : Int)) = true := decide_eq_true (by omega)
      clear hbig
      go_enter Try.func5, Try.ntmps5
      go_wp2_with (go_at_call 8; refine (wakes_any _).mono ?_; rintro e w2 ⟨rfl, hB⟩)
      go_ret
      exact ⟨rfl, hB⟩
    have d1 : decide ((200 : Int) < (l1 : Int)) = false := decide_eq_false (by omega)
    by_cases b4 : p < 0
    · have d4 : decide (p < 0) = true := decide_eq_true b4
      clear hbig
      go_enter Try.func5, Try.ntmps5
      go_wp2_with (go_at_call 8; refine (wakes_any _).mono ?_; rintro e w2 ⟨rfl, hB⟩)
      go_ret
      exact ⟨rfl, hB⟩
    have d4 : decide (p < 0) = false := decide_eq_false b4
    have b5 : 32 < p := by omega
    have d5 : decide (32 < p) = true := decide_eq_true b5
    clear hbig
    go_enter Try.func5, Try.ntmps5
    go_wp2_with (go_at_call 8; refine (wakes_any _).mono ?_; rintro e w2 ⟨rfl, hB⟩)
    go_ret
    exact ⟨rfl, hB⟩
  · clear hn
    by_cases b1 : 200 < l0
    · have d1 : decide ((200 : Int) < (l0 : Int)) = true := decide_eq_true (by omega)
      clear hbig
      go_enter Try.func5, Try.ntmps5
      go_wp2_with (go_at_call 8; refine (wakes_any _).mono ?_; rintro e w2 ⟨rfl, hB⟩)
      go_ret
      exact ⟨rfl, hB⟩
    have d1 : decide ((200 : Int) < (l0 : Int)) = false := decide_eq_false (by omega)
    by_cases b4 : p < 0
    · have d4 : decide (p < 0) = true := decide_eq_true b4
      clear hbig
      go_enter Try.func5, Try.ntmps5
      go_wp2_with (go_at_call 8; refine (wakes_any _).mono ?_; rintro e w2 ⟨rfl, hB⟩)
      go_ret
      exact ⟨rfl, hB⟩
    have d4 : decide (p < 0) = false := decide_eq_false b4
    have b5 : 32 < p := by omega
    have d5 : decide (32 < p) = true := decide_eq_true b5
    clear hbig
    go_enter Try.func5, Try.ntmps5
    go_wp2_with (go_at_call 8; refine (wakes_any _).mono ?_; rintro e w2 ⟨rfl, hB⟩)
    go_ret
    exact ⟨rfl, hB⟩

set_option maxRecDepth 100000 in
set_option maxHeartbeats 8000000 in
theorem RsSums_some (v0 v1 : Value) (xs ys : List UInt8) (p n : Nat) (w : World) (hX : Sl eB w.heap.size w v0 xs) (hY : Sl eB w.heap.size w v1 ys) (hn : min xs.length ys.length = n) (hd : n ≤ 200) (hp : p ≤ 32) :
    Calls Try.prog 5 #[v0, v1, .int .i64 p] w fun e w' => e = .returned (.bool true) ∧ Below w.heap.size w w' := by
  obtain ⟨A0, c0, rfl⟩ := hX.len
  obtain ⟨A1, c1, rfl⟩ := hY.len
  have hm : min (xs.length : Int) (ys.length : Int) = (n : Int) := by omega
  have d1 : decide ((200 : Int) < (n : Int)) = false := decide_eq_false (by omega)
  have d4 : decide ((p : Int) < 0) = false := decide_eq_false (by omega)
  have d5 : decide (32 < (p : Int)) = false := decide_eq_false (by omega)
  have hc0 : xs.length ≤ c0 := by obtain ⟨_, _, e, h, _⟩ := hX; injection e with x1 x2 x3; omega
  have hc1 : ys.length ≤ c1 := by obtain ⟨_, _, e, h, _⟩ := hY; injection e with x1 x2 x3; omega
  have n0 : (n : Int) ≤ (c0 : Int) := by omega
  have n1 : (n : Int) ≤ (c1 : Int) := by omega
  have n2 : n ≤ c0 := by omega
  have n3 : n ≤ c1 := by omega
  have hX2 := hX.upto (p := n) (by omega)
  have hY2 := hY.upto (p := n) (by omega)
  have lx : (xs.take n).length = n := by rw [List.length_take]; omega
  have ly : (ys.take n).length = n := by rw [List.length_take]; omega
  generalize xs.take n = x at *
  generalize ys.take n = y at *
  have hW1 := Word_yes (.slice A0 n c0) x p (by omega) w hX2
  have hW2 := fun w h => Word_yes (.slice A1 n c1) y p (by omega) w h
  have ra := rig_word x p
  have rb := rig_word y p
  have la : (x ++ restL p x).length = n + p := by rw [List.length_append, restL_length, lx]
  have lb : (y ++ restL p y).length = n + p := by rw [List.length_append, restL_length, ly]
  rw [lx] at ra
  rw [ly] at rb
  generalize x ++ restL p x = a at *
  generalize y ++ restL p y = b at *
  have e2 : IntKind.i64.wrap ((n : Int) + (p : Int)) = ((n + p : Nat) : Int) := by rw [IntWalk.i64_in _ (by omega)]; omega
  obtain ⟨N, hN⟩ : ∃ N, n + p = N := ⟨_, rfl⟩
  rw [hN] at la lb ra rb e2
  have hN2 : N ≤ 232 := by omega
  have hpN : p ≤ N := by omega
  have hS := fun v w h => Syndromes_yes v a p (by omega) (by omega) w h
  have hz := fun j hj => syn_zero (a := a) (p := p) (by rw [la]; exact ra) j hj
  have lS := synL_length a.reverse p
  generalize synL a.reverse p = S at *
  have rm : Rig (C (mixL a b N)) N p := (ra.xor rb).congr fun j hj => by rw [C_mixL _ _ _ _ (by omega), if_pos hj]
  have lm : (mixL a b N).length = N := by rw [mixL_length, la]
  have hR : ∀ (q : Nat) v W, q ≤ p → Sl eB W.heap.size W v (mixL a b N) → Calls Try.prog 18 #[v, .int .i64 q] W fun e w' => e = .returned (.bool true) ∧ Below W.heap.size W w' := by
    intro q v W hq h
    have h1 := Right_yes v (mixL a b N) q (by omega) (by omega) W h
    rwa [(right_iff _ _).2 (by rw [lm]; exact rm.less hq)] at h1
  have hm0 := mixL_zero a b
  obtain ⟨q, hq⟩ : ∃ q, p - 1 = q := ⟨_, rfl⟩
  have e3 : IntKind.i64.wrap ((p : Int) - 1) = (p : Int) - 1 := IntWalk.i64_in _ (by omega)
  have e4 : max ((p : Int) - 1) 0 = (q : Int) := by omega
  have hqp : q ≤ p := by omega
  have HR := Lib.hid hR
  clear hX hY ra rb lx ly hN rm lm hq hR hc0 hc1 hX2 hm
  generalize xs.length = l0 at *
  generalize ys.length = l1 at *
  rcases (show (l1 < l0 ∧ l1 = n) ∨ (¬ l1 < l0 ∧ l0 = n) by omega) with ⟨hcm, hcn⟩ | ⟨hcm, hcn⟩
  all_goals
    clear hn
    subst hcn
    go_enter Try.func5, Try.ntmps5
    go_wp2_with fail
    go_at_call 14
    refine hW1.mono ?_
    rintro e w1 ⟨va, rfl, hva, hB1⟩
    have hY3 := hY2.next hB1
    obtain ⟨Aa, ca, e⟩ := hva.sl.len
    rw [la] at e
    subst e
    have hga : ∀ g, Aa = some ⟨g, 0, none⟩ → g < w1.heap.size := fun g e => (World.ownsRow.lt hva g (by rw [e]; rfl)).2
    clear hW1 hY2
    go_wp2_with fail
    go_at_call 14
    refine (hW2 w1 hY3).mono ?_
    rintro e w2 ⟨vb, rfl, hvb, hB2⟩
    have hva2 := own_grow hva hB2
    obtain ⟨Ab, cb, e⟩ := hvb.sl.len
    rw [lb] at e
    subst e
    have hBw2 := below_trans hB1 hB2
    clear hW2 hY3 hva n0 n1 n2 n3 hcm hB2 hB1
    go_wp2_with fail
    go_at_call 16
    refine (hS (.slice Aa N ca) w2 hva2.sl).mono ?_
    rintro e w3 ⟨vs, rfl, hvs, hB3⟩
    have hva3 := own_grow hva2 hB3
    have hvb3 := own_grow hvb hB3
    have hBw3 := below_trans hBw2 hB3
    obtain ⟨As, cs, e⟩ := hvs.len
    rw [lS] at e
    subst e
    clear hS hva2 hvb hBw2 hB3 e2
    go_wp2_with fail
    go_loopw [14] (fun i wr => ∃ j : Nat, j ≤ p ∧ i = .int .i64 j ∧ wr = w3) (fun i _ => p - (intOf i).toNat)
    case atStart => exact ⟨0, Nat.zero_le _, rfl, rfl⟩
    case round =>
      obtain ⟨j, hj, rfl, rfl⟩ := hrel
      by_cases hlt : j < p
      · have dj : decide ((j : Int) < (p : Int)) = true := decide_eq_true (by omega)
        obtain ⟨b0, off, rfl, hb0, hcell⟩ := hvs.cells_at (by omega)
        have ck := hcell j (by omega)
        rw [hz j hlt] at ck
        have ck2 : wr.cell? ⟨b0, off + j, none⟩ = some (.int .u8 0) := ck
        clear ck hcell hz hvs hva3 hvb3 hBw3 hm0 HR e3 e4
        have hji : (j : Int) < (p : Int) := by omega
        go_wp2_with fail
        go_roundw
        case rel => exact ⟨j + 1, by omega, by go_num, by trivial⟩
        case measure => simp [intOf]; omega
      · obtain rfl : p = j := by omega
        have dj : decide ((p : Int) < (p : Int)) = false := decide_eq_false (by omega)
        clear hz hvs hlt hj
        go_wp2_with fail
        clear dj
        have hva0 : Own8 w.heap.size wr (.slice Aa N ca) (mixL a b 0) := by rw [hm0]; exact hva3
        generalize hw0 : wr = wq at *
        clear hw0 hm0 hva3
        go_loopw [15] (fun i wr => ∃ k : Nat, k ≤ N ∧ i = .int .i64 k ∧ Own8 w.heap.size wr (.slice Aa N ca) (mixL a b k) ∧ Own8 w1.heap.size wr (.slice Ab N cb) b ∧ Below w.heap.size w wr) (fun i _ => N - (intOf i).toNat)
        case atStart => exact ⟨0, Nat.zero_le _, rfl, hva0, hvb3, hBw3⟩
        case round =>
          clear hva0 hvb3 hBw3
          obtain ⟨k, hk, rfl, hO, hOb, hBr⟩ := hrel
          by_cases hlt : k < N
          · have dk : decide ((k : Int) < (N : Int)) = true := decide_eq_true (by omega)
            obtain ⟨b0, off, rfl, hb0, hcell⟩ := hOb.sl.cells_at (by omega)
            have hyk := hcell k (by omega)
            obtain ⟨g, cap, e, hgw, hgl, ck, fk, hput⟩ := own_set hO k (by rw [mixL_length]; omega)
            rw [mixL_length, la] at e
            injection e with x1 x2 x3
            subst x1
            subst x3
            clear x2
            have hg1 := hga g rfl
            have hka : k < a.length := by omega
            rw [C_mixL _ _ _ _ hka, if_neg (Nat.lt_irrefl _)] at ck
            have hx := u8x (C a k) (C b k)
            have hset := hput wr.drew (C a k ^^^ C b k) rfl
            rw [mixL_set a b k] at hset
            have hob := own_setc (W := wr.drew) hOb g k (eB (C a k ^^^ C b k)) hg1
            have hBs := (below_trans hBr (below_drewA wr)).setCell (p := ⟨g, k, none⟩) hgw (eB (C a k ^^^ C b k))
            have ckd : wr.drew.cell? ⟨g, k, none⟩ = some (eB (C a k)) := ck
            have fkd : wr.drew.frozen? ⟨g, k, none⟩ = false := fk
            clear hput hO hcell hOb hga hg1 HR e3 e4
            obtain ⟨u, hu⟩ : ∃ u : UInt8, C a k = u := ⟨_, rfl⟩
            obtain ⟨y, hyy⟩ : ∃ y : UInt8, C b k = y := ⟨_, rfl⟩
            simp only [hu, hyy] at hx hset hBs ck ckd hyk hob
            obtain ⟨z, hz⟩ : ∃ z : UInt8, u ^^^ y = z := ⟨_, rfl⟩
            rw [hz] at hx hset hBs hob
            clear hu hyy hz
            have hki1 : (k : Int) < (N : Int) := by omega
            go_wp2_with fail
            go_still_tail 12, (by kernel_rfl)
            change wpList _ _ _ _ _ wr.drew
            generalize wr.drew = wrd at *
            go_wp2_with fail
            obtain ⟨w5, hw5⟩ : ∃ w3, wrd.setCell ⟨g, k, none⟩ (Value.int .u8 (z.toNat : Int)) = w3 := ⟨_, rfl⟩
            have hO5 : Own8 w.heap.size w5 (.slice (some ⟨g, 0, none⟩) N ca) (mixL a b (k + 1)) := by rw [← hw5]; exact hset
            have hb5 : Own8 w1.heap.size w5 (.slice (some ⟨b0, off, none⟩) N cb) b := by rw [← hw5]; exact hob
            have hB5 : Below w.heap.size w w5 := by rw [← hw5]; exact hBs
            rw [hw5]
            clear hw5 hset hBs ck ckd hyk hx fk fkd hob
            try go_wp2_with fail
            go_roundw
            case rel => exact ⟨k + 1, by omega, by go_num, hO5, hb5, hB5⟩
            case measure => simp [intOf]; omega
          · obtain rfl : k = N := by omega
            have dk : decide ((k : Int) < (k : Int)) = false := decide_eq_false (by omega)
            have hO' := hO.sl
            rcases (show p = 0 ∨ 0 < p by omega) with hp0 | hp0
            · subst hp0
              have hR0 : ∀ W, Sl eB W.heap.size W (.slice Aa k ca) (mixL a b k) → Calls Try.prog 18 #[.slice Aa k ca, .int .i64 0] W fun e w' => e = .returned (.bool true) ∧ Below W.heap.size W w' := fun W h => HR.out 0 _ W (Nat.zero_le _) h
              have e5 : IntKind.i64.wrap (-1) = -1 := by decide
              clear HR hga hO hOb hlt e3 e4
              go_wp2_with fail
              go_at_call 18
              refine (hR0 wr hO').mono ?_
              rintro e w4 ⟨rfl, hB4⟩
              have hO4 := hO'.next hB4
              have hB5 := below_trans hBr hB4
              clear hBr hB4 hO'
              go_wp2_with fail
              go_at_call 18
              refine (hR0 w4 hO4).mono ?_
              rintro e w5 ⟨rfl, hB6⟩
              have hB7 := below_trans hB5 hB6
              clear hR0 hB5 hB6 hO4
              go_wp2_with fail
              go_at_call 8
              refine (wakes_any _).mono ?_
              rintro e wz ⟨rfl, hBz⟩
              go_wp2
              go_ret
              exact ⟨rfl, below_trans hB7 hBz⟩
            · have hR1 := HR.out p _ wr (Nat.le_refl _) hO'
              have hR2 := fun W h => HR.out q (.slice Aa k ca) W hqp h
              have e5 : (p : Int) - 1 = (q : Int) := by omega
              rw [e5] at e3
              have hq0 : ¬ (q : Int) < 0 := by omega
              clear HR hga hO hOb hlt e4
              go_wp2_with fail
              go_at_call 18
              refine hR1.mono ?_
              rintro e w4 ⟨rfl, hB4⟩
              have hO4 := hO'.next hB4
              have hB5 := below_trans hBr hB4
              clear hR1 hBr hB4 hO'
              go_wp2_with fail
              go_at_call 18
              refine (hR2 w4 hO4).mono ?_
              rintro e w5 ⟨rfl, hB6⟩
              have hB7 := below_trans hB5 hB6
              clear hR2 hB5 hB6 hO4
              go_wp2_with fail
              go_at_call 8
              refine (wakes_any _).mono ?_
              rintro e wz ⟨rfl, hBz⟩
              go_wp2
              go_ret
              exact ⟨rfl, below_trans hB7 hBz⟩

theorem RsSums_any (v0 v1 : Value) (xs ys : List UInt8) (p : Int) (w : World) (hX : Sl eB w.heap.size w v0 xs) (hY : Sl eB w.heap.size w v1 ys) :
    Calls Try.prog 5 #[v0, v1, .int .i64 p] w fun e w' => e = .returned (.bool true) ∧ Below w.heap.size w w' := by
  by_cases hbig : 200 < min xs.length ys.length ∨ p < 0 ∨ 32 < p
  · obtain ⟨A0, c0, rfl⟩ := hX.len
    obtain ⟨A1, c1, rfl⟩ := hY.len
    exact RsSums_big A0 A1 _ c0 _ c1 p w hbig
  · obtain ⟨m, rfl⟩ : ∃ m : Nat, p = m := ⟨p.toNat, by omega⟩
    exact RsSums_some v0 v1 xs ys m _ w hX hY rfl (by omega) (by omega)
end Go.Proofs.Ytkldapdebjlfmaa
