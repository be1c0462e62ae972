/- Contract of helixref04.Add. -/
import Derived.Test.YtkldapdebjlfmaaRfA
import Derived.Test.YtkldapdebjlfmaaPoD
import Derived.Test.YtkldapdebjlfmaaRdr
import Derived.StillTailTactics
namespace Go.Proofs.Ytkldapdebjlfmaa
open Go.RowKit Go.Shelf
attribute [local go_sem] Oper.semAt_some

/-- The sum of the first k. -/
def aK (f h : Nat → UInt8) (k : Nat) : Nat → UInt8 := fun j => if j < k then f j ^^^ h j else 0
def aM (f h : Nat → UInt8) (k : Nat) : Nat → UInt8 := fun j => if j < k then f j ^^^ h j else if j = k then f j else 0
theorem aK_at (f h : Nat → UInt8) (k : Nat) : aK f h k k = 0 := by simp [aK]
theorem aM_at (f h : Nat → UInt8) (k : Nat) : aM f h k k = f k := by simp [aM]
theorem aK_one (f h : Nat → UInt8) (k : Nat) : (fun j => if j = k then f k else aK f h k j) = aM f h k := by
  funext j
  simp only [aK, aM]
  by_cases e : j = k
  · subst e; simp
  · rw [if_neg e]
    by_cases e2 : j < k
    · rw [if_pos e2, if_pos e2]
    · rw [if_neg e2, if_neg e2, if_neg e]
theorem aK_zero (f h : Nat → UInt8) (k : Nat) (hz : f k = 0) : aK f h k = aM f h k := by
  rw [← aK_one]
  funext j
  by_cases e : j = k
  · subst e; rw [if_pos rfl, aK_at, hz]
  · rw [if_neg e]
theorem aM_one (f h : Nat → UInt8) (k : Nat) : (fun j => if j = k then f k ^^^ h k else aM f h k j) = aK f h (k + 1) := by
  funext j
  simp only [aK, aM]
  by_cases e : j = k
  · subst e; rw [if_pos rfl, if_pos (by omega)]
  · rw [if_neg e]
    by_cases e2 : j < k
    · rw [if_pos e2, if_pos (show j < k + 1 by omega)]
    · rw [if_neg e2, if_neg e, if_neg (by omega)]
theorem aM_zero (f h : Nat → UInt8) (k : Nat) (hz : h k = 0) : aM f h k = aK f h (k + 1) := by
  rw [← aM_one]
  funext j
  by_cases e : j = k
  · subst e; rw [if_pos rfl, aM_at, hz, x_zero]
  · rw [if_neg e]
theorem aK_all (p q : List UInt8) (N : Nat) (hp : p.length ≤ N) (hq : q.length ≤ N) : aK (C p) (C q) N = fun k => C p k ^^^ C q k := by
  funext j
  simp only [aK]
  split
  · rfl
  · rw [C_big p j (by omega), C_big q j (by omega), x_self]

set_option maxRecDepth 100000 in
set_option maxHeartbeats 4000000 in
theorem RAdd_any (pv qv : Value) (p q : List UInt8) (hp : p.length ≤ 100000) (hq : q.length ≤ 100000) (w : World) (hP : Sl eB w.heap.size w pv p) (hQ : Sl eB w.heap.size w qv q) :
    Calls Try.prog 51 #[pv, qv] w fun e w' => ∃ v, e = .returned v ∧ Own8 w.heap.size w' v (tr (fun k => C p k ^^^ C q k) (max p.length q.length)) ∧ Below w.heap.size w w' := by
  obtain ⟨Ap, cp, rfl, hcapp, hcsp⟩ := hP
  obtain ⟨Aq, cq, rfl, hcapq, hcsq⟩ := hQ
  obtain ⟨N, hN⟩ : ∃ N : Nat, max p.length q.length = N := ⟨_, rfl⟩
  have hNp : p.length ≤ N := by omega
  have hNq : q.length ≤ N := by omega
  have hNm : N = p.length ∨ N = q.length := by omega
  have hN1 : N ≤ 100000 := by omega
  have hcase : (q.length ≤ p.length ∧ ∀ w, (Instr.makeSlice 22 (.int .i64 (p.length : Int)) (.int .i64 (p.length : Int))).run Try.prog w = .ok (.slice (some ⟨w.heap.size, 0, none⟩) N N) (w.alloc (.cells (cellsF (aK (C p) (C q) 0) N) 5))) ∨
      (p.length < q.length ∧ ∀ w, (Instr.makeSlice 22 (.int .i64 (q.length : Int)) (.int .i64 (q.length : Int))).run Try.prog w = .ok (.slice (some ⟨w.heap.size, 0, none⟩) N N) (w.alloc (.cells (cellsF (aK (C p) (C q) 0) N) 5))) := by
    rcases Nat.lt_or_ge p.length q.length with h | h
    · exact .inr ⟨h, fun w => make_run N (by omega) _ (by omega) w⟩
    · exact .inl ⟨h, fun w => make_run N (by omega) _ (by omega) w⟩
  have hR := Rowed.new w 5 (cellsF (aK (C p) (C q) 0) N)
  have hB := below_alloc w (.cells (cellsF (aK (C p) (C q) 0) N) 5)
  have hend : ∀ W, Rowed W w.heap.size 5 (cellsF (aK (C p) (C q) N) N) → Calls Try.prog 45 #[.slice (some ⟨w.heap.size, 0, none⟩) N N] W fun e w' => ∃ v, e = .returned v ∧ Own8 W.heap.size w' v (tr (fun k => C p k ^^^ C q k) N) ∧ Below W.heap.size W w' := by
    intro W hr
    have h := RTrim_any (.slice (some ⟨w.heap.size, 0, none⟩) N N) ((List.range N).map (aK (C p) (C q) N)) (by simp; omega) W (sl_cellsF hr W.heap.size hr.lt)
    rw [aK_all p q N hNp hNq, C_range _ _ (sum_big p q N hNp hNq), List.length_map, List.length_range] at h
    exact h
  rw [hN]
  clear hN
  have hreadp : ∀ k, (h : k < p.length) → ∃ b off, Ap = some ⟨b, off, none⟩ ∧ b < w.heap.size ∧ w.cell? ⟨b, off + k, none⟩ = some (eB (C p k)) := fun k h => by
    obtain ⟨b, off, e, hb, hcell⟩ := hcsp (by omega)
    exact ⟨b, off, e, hb, by rw [C_get p k h]; exact hcell k _ (by simp [h])⟩
  have hreadq : ∀ k, (h : k < q.length) → ∃ b off, Aq = some ⟨b, off, none⟩ ∧ b < w.heap.size ∧ w.cell? ⟨b, off + k, none⟩ = some (eB (C q k)) := fun k h => by
    obtain ⟨b, off, e, hb, hcell⟩ := hcsq (by omega)
    exact ⟨b, off, e, hb, by rw [C_get q k h]; exact hcell k _ (by simp [h])⟩
  clear hcsp hcsq
  have hCp : ∀ k, p.length ≤ k → C p k = 0 := fun k h => C_big p k h
  have hCq : ∀ k, q.length ≤ k → C q k = 0 := fun k h => C_big q k h
  generalize C p = P at *
  generalize C q = Q at *
  generalize p.length = lp at *
  generalize q.length = lq at *
  rcases hcase with ⟨hle, hmk⟩ | ⟨hle, hmk⟩
  · go_enter Try.func51, Try.ntmps51
    go_wp2_with fail
    all_goals first | (exfalso; omega) | skip
    go_loopw [6] (fun i wr => ∃ k : Nat, k ≤ N ∧ i = .int .i64 (k : Nat) ∧ Rowed wr w.heap.size 5 (cellsF (aK P Q k) N) ∧ Below w.heap.size w wr) (fun i _ => N - (intOf i).toNat)
    case atStart => exact ⟨0, by omega, rfl, hR, hB⟩
    case round =>
      obtain ⟨k, hk, rfl, hr, hBr⟩ := hrel
      by_cases hlt : k < N
      · have hd : decide ((k : Int) < (N : Int)) = true := decide_eq_true (by omega)
        have hkN : (k : Int) < (N : Int) := by omega
        by_cases h1 : k < lp
        · by_cases h2 : k < lq
          · clear hend hmk hR hB
            have d1 : decide ((k : Int) < (lp : Int)) = true := decide_eq_true (by omega)
            have d2 : decide ((k : Int) < (lq : Int)) = true := decide_eq_true (by omega)
            have ck1 := hr.cell k
            rw [cellsF_get _ _ _ hlt, aK_at] at ck1
            obtain ⟨b1, off1, rfl, hb1, hcell1⟩ := hreadp k h1
            have hcp1 := (hBr.cell (p := ⟨b1, off1 + k, none⟩) hb1).trans hcell1
            have hki1 : (k : Int) < (lp : Int) := by omega
            have hx1 := u8x (0) (P k)
            rw [zero_x] at hx1
            have hset1 := (rowed_drew hr).set k (eB (P k))
            rw [cellsF_set, aK_one] at hset1
            have fg1 := (rowed_drew hr).frozen k
            have ck1d : wr.drew.cell? ⟨w.heap.size, k, none⟩ = some (eB (0)) := ck1
            have hBs1 := (below_trans hBr (below_drewA wr)).setCell (p := ⟨w.heap.size, k, none⟩) (Nat.le_refl _) (eB (P k))
            clear hcell1
            obtain ⟨u1, hu1⟩ : ∃ u : UInt8, 0 = u := ⟨_, rfl⟩
            obtain ⟨x1, hxx1⟩ : ∃ x : UInt8, P k = x := ⟨_, rfl⟩
            simp only [hu1, hxx1] at hx1 ck1 ck1d hcp1 hset1 hBs1
            clear hu1 hxx1
            go_wp2_with fail
            go_still_tail 12, (by kernel_rfl)
            change wpList _ _ _ _ _ wr.drew
            generalize wr.drew = wrd at *
            go_wp2_with fail
            obtain ⟨w3, hw3⟩ : ∃ w3, wrd.setCell ⟨w.heap.size, k, none⟩ (Value.int .u8 (x1.toNat : Int)) = w3 := ⟨_, rfl⟩
            have hr3 : Rowed w3 w.heap.size 5 (cellsF (aM P Q k) N) := by rw [← hw3]; exact hset1
            have hB3 : Below w.heap.size w w3 := by rw [← hw3]; exact hBs1
            rw [hw3]
            clear hw3 hset1 hBs1 ck1 ck1d hcp1 hx1 fg1
            have ck2 := hr3.cell k
            rw [cellsF_get _ _ _ hlt, aM_at] at ck2
            obtain ⟨b2, off2, rfl, hb2, hcell2⟩ := hreadq k h2
            have hcp2 := (hB3.cell (p := ⟨b2, off2 + k, none⟩) hb2).trans hcell2
            have hki2 : (k : Int) < (lq : Int) := by omega
            have hx2 := u8x (P k) (Q k)
            have hset2 := (rowed_drew hr3).set k (eB (P k ^^^ Q k))
            rw [cellsF_set, aM_one] at hset2
            have fg2 := (rowed_drew hr3).frozen k
            have ck2d : w3.drew.cell? ⟨w.heap.size, k, none⟩ = some (eB (P k)) := ck2
            have hBs2 := (below_trans hB3 (below_drewA w3)).setCell (p := ⟨w.heap.size, k, none⟩) (Nat.le_refl _) (eB (P k ^^^ Q k))
            clear hcell2
            obtain ⟨u2, hu2⟩ : ∃ u : UInt8, P k = u := ⟨_, rfl⟩
            obtain ⟨x2, hxx2⟩ : ∃ x : UInt8, Q k = x := ⟨_, rfl⟩
            simp only [hu2, hxx2] at hx2 ck2 ck2d hcp2 hset2 hBs2
            obtain ⟨y2, hy2⟩ : ∃ y : UInt8, u2 ^^^ x2 = y := ⟨_, rfl⟩
            rw [hy2] at hx2 hset2 hBs2
            clear hu2 hxx2 hy2
            go_wp2_with fail
            go_still_tail 12, (by kernel_rfl)
            change wpList _ _ _ _ _ w3.drew
            generalize w3.drew = w3d at *
            go_wp2_with fail
            obtain ⟨w5, hw5⟩ : ∃ w3, w3d.setCell ⟨w.heap.size, k, none⟩ (Value.int .u8 (y2.toNat : Int)) = w3 := ⟨_, rfl⟩
            have hr5 : Rowed w5 w.heap.size 5 (cellsF (aK P Q (k + 1)) N) := by rw [← hw5]; exact hset2
            have hB5 : Below w.heap.size w w5 := by rw [← hw5]; exact hBs2
            rw [hw5]
            clear hw5 hset2 hBs2 ck2 ck2d hcp2 hx2 fg2
            try go_wp2_with fail
            go_roundw
            case rel => exact ⟨k + 1, by omega, by go_num, hr5, hB5⟩
            case measure => simp [intOf]; omega
          · clear hend hmk hR hB
            have d1 : decide ((k : Int) < (lp : Int)) = true := decide_eq_true (by omega)
            have d2 : decide ((k : Int) < (lq : Int)) = false := decide_eq_false (by omega)
            have ck1 := hr.cell k
            rw [cellsF_get _ _ _ hlt, aK_at] at ck1
            obtain ⟨b1, off1, rfl, hb1, hcell1⟩ := hreadp k h1
            have hcp1 := (hBr.cell (p := ⟨b1, off1 + k, none⟩) hb1).trans hcell1
            have hki1 : (k : Int) < (lp : Int) := by omega
            have hx1 := u8x (0) (P k)
            rw [zero_x] at hx1
            have hset1 := (rowed_drew hr).set k (eB (P k))
            rw [cellsF_set, aK_one] at hset1
            have fg1 := (rowed_drew hr).frozen k
            have ck1d : wr.drew.cell? ⟨w.heap.size, k, none⟩ = some (eB (0)) := ck1
            have hBs1 := (below_trans hBr (below_drewA wr)).setCell (p := ⟨w.heap.size, k, none⟩) (Nat.le_refl _) (eB (P k))
            clear hcell1
            obtain ⟨u1, hu1⟩ : ∃ u : UInt8, 0 = u := ⟨_, rfl⟩
            obtain ⟨x1, hxx1⟩ : ∃ x : UInt8, P k = x := ⟨_, rfl⟩
            simp only [hu1, hxx1] at hx1 ck1 ck1d hcp1 hset1 hBs1
            clear hu1 hxx1
            go_wp2_with fail
            go_still_tail 12, (by kernel_rfl)
            change wpList _ _ _ _ _ wr.drew
            generalize wr.drew = wrd at *
            go_wp2_with fail
            obtain ⟨w5, hw5⟩ : ∃ w3, wrd.setCell ⟨w.heap.size, k, none⟩ (Value.int .u8 (x1.toNat : Int)) = w3 := ⟨_, rfl⟩
            have hr5 : Rowed w5 w.heap.size 5 (cellsF (aM P Q k) N) := by rw [← hw5]; exact hset1
            have hB5 : Below w.heap.size w w5 := by rw [← hw5]; exact hBs1
            rw [hw5]
            clear hw5 hset1 hBs1 ck1 ck1d hcp1 hx1 fg1
            rw [aM_zero P Q k (hCq k (by omega))] at hr5
            try go_wp2_with fail
            go_roundw
            case rel => exact ⟨k + 1, by omega, by go_num, hr5, hB5⟩
            case measure => simp [intOf]; omega
        · have h2 : k < lq := by omega
          exfalso
          omega
      · obtain rfl : k = N := by omega
        have hd : decide ((k : Int) < (k : Int)) = false := decide_eq_false (by omega)
        have he := hend wr hr
        clear hend hR hmk
        go_wp2_with fail
        go_at_call 45
        refine he.mono ?_
        rintro e w2 ⟨v2, rfl, hv2, hB2⟩
        go_wp2
        go_ret
        exact ⟨v2, rfl, hv2.mono hBr.size, below_trans hBr hB2⟩
  · go_enter Try.func51, Try.ntmps51
    go_wp2_with fail
    all_goals first | (exfalso; omega) | skip
    go_loopw [6] (fun i wr => ∃ k : Nat, k ≤ N ∧ i = .int .i64 (k : Nat) ∧ Rowed wr w.heap.size 5 (cellsF (aK P Q k) N) ∧ Below w.heap.size w wr) (fun i _ => N - (intOf i).toNat)
    case atStart => exact ⟨0, by omega, rfl, hR, hB⟩
    case round =>
      obtain ⟨k, hk, rfl, hr, hBr⟩ := hrel
      by_cases hlt : k < N
      · have hd : decide ((k : Int) < (N : Int)) = true := decide_eq_true (by omega)
        have hkN : (k : Int) < (N : Int) := by omega
        by_cases h1 : k < lp
        · by_cases h2 : k < lq
          · clear hend hmk hR hB
            have d1 : decide ((k : Int) < (lp : Int)) = true := decide_eq_true (by omega)
            have d2 : decide ((k : Int) < (lq : Int)) = true := decide_eq_true (by omega)
            have ck1 := hr.cell k
            rw [cellsF_get _ _ _ hlt, aK_at] at ck1
            obtain ⟨b1, off1, rfl, hb1, hcell1⟩ := hreadp k h1
            have hcp1 := (hBr.cell (p := ⟨b1, off1 + k, none⟩) hb1).trans hcell1
            have hki1 : (k : Int) < (lp : Int) := by omega
            have hx1 := u8x (0) (P k)
            rw [zero_x] at hx1
            have hset1 := (rowed_drew hr).set k (eB (P k))
            rw [cellsF_set, aK_one] at hset1
            have fg1 := (rowed_drew hr).frozen k
            have ck1d : wr.drew.cell? ⟨w.heap.size, k, none⟩ = some (eB (0)) := ck1
            have hBs1 := (below_trans hBr (below_drewA wr)).setCell (p := ⟨w.heap.size, k, none⟩) (Nat.le_refl _) (eB (P k))
            clear hcell1
            obtain ⟨u1, hu1⟩ : ∃ u : UInt8, 0 = u := ⟨_, rfl⟩
            obtain ⟨x1, hxx1⟩ : ∃ x : UInt8, P k = x := ⟨_, rfl⟩
            simp only [hu1, hxx1] at hx1 ck1 ck1d hcp1 hset1 hBs1
            clear hu1 hxx1
            go_wp2_with fail
            go_still_tail 12, (by kernel_rfl)
            change wpList _ _ _ _ _ wr.drew
            generalize wr.drew = wrd at *
            go_wp2_with fail
            obtain ⟨w3, hw3⟩ : ∃ w3, wrd.setCell ⟨w.heap.size, k, none⟩ (Value.int .u8 (x1.toNat : Int)) = w3 := ⟨_, rfl⟩
            have hr3 : Rowed w3 w.heap.size 5 (cellsF (aM P Q k) N) := by rw [← hw3]; exact hset1
            have hB3 : Below w.heap.size w w3 := by rw [← hw3]; exact hBs1
            rw [hw3]
            clear hw3 hset1 hBs1 ck1 ck1d hcp1 hx1 fg1
            have ck2 := hr3.cell k
            rw [cellsF_get _ _ _ hlt, aM_at] at ck2
            obtain ⟨b2, off2, rfl, hb2, hcell2⟩ := hreadq k h2
            have hcp2 := (hB3.cell (p := ⟨b2, off2 + k, none⟩) hb2).trans hcell2
            have hki2 : (k : Int) < (lq : Int) := by omega
            have hx2 := u8x (P k) (Q k)
            have hset2 := (rowed_drew hr3).set k (eB (P k ^^^ Q k))
            rw [cellsF_set, aM_one] at hset2
            have fg2 := (rowed_drew hr3).frozen k
            have ck2d : w3.drew.cell? ⟨w.heap.size, k, none⟩ = some (eB (P k)) := ck2
            have hBs2 := (below_trans hB3 (below_drewA w3)).setCell (p := ⟨w.heap.size, k, none⟩) (Nat.le_refl _) (eB (P k ^^^ Q k))
            clear hcell2
            obtain ⟨u2, hu2⟩ : ∃ u : UInt8, P k = u := ⟨_, rfl⟩
            obtain ⟨x2, hxx2⟩ : ∃ x : UInt8, Q k = x := ⟨_, rfl⟩
            simp only [hu2, hxx2] at hx2 ck2 ck2d hcp2 hset2 hBs2
            obtain ⟨y2, hy2⟩ : ∃ y : UInt8, u2 ^^^ x2 = y := ⟨_, rfl⟩
            rw [hy2] at hx2 hset2 hBs2
            clear hu2 hxx2 hy2
            go_wp2_with fail
            go_still_tail 12, (by kernel_rfl)
            change wpList _ _ _ _ _ w3.drew
            generalize w3.drew = w3d at *
            go_wp2_with fail
            obtain ⟨w5, hw5⟩ : ∃ w3, w3d.setCell ⟨w.heap.size, k, none⟩ (Value.int .u8 (y2.toNat : Int)) = w3 := ⟨_, rfl⟩
            have hr5 : Rowed w5 w.heap.size 5 (cellsF (aK P Q (k + 1)) N) := by rw [← hw5]; exact hset2
            have hB5 : Below w.heap.size w w5 := by rw [← hw5]; exact hBs2
            rw [hw5]
            clear hw5 hset2 hBs2 ck2 ck2d hcp2 hx2 fg2
            try go_wp2_with fail
            go_roundw
            case rel => exact ⟨k + 1, by omega, by go_num, hr5, hB5⟩
            case measure => simp [intOf]; omega
          · exfalso
            omega
        · have h2 : k < lq := by omega
          clear hend hmk hR hB
          have d1 : decide ((k : Int) < (lp : Int)) = false := decide_eq_false (by omega)
          have d2 : decide ((k : Int) < (lq : Int)) = true := decide_eq_true (by omega)
          rw [aK_zero P Q k (hCp k (by omega))] at hr
          have hp0 : P k = 0 := hCp k (by omega)
          have ck2 := hr.cell k
          rw [cellsF_get _ _ _ hlt, aM_at] at ck2
          obtain ⟨b2, off2, rfl, hb2, hcell2⟩ := hreadq k h2
          have hcp2 := (hBr.cell (p := ⟨b2, off2 + k, none⟩) hb2).trans hcell2
          have hki2 : (k : Int) < (lq : Int) := by omega
          have hx2 := u8x (P k) (Q k)
          have hset2 := (rowed_drew hr).set k (eB (P k ^^^ Q k))
          rw [cellsF_set, aM_one] at hset2
          have fg2 := (rowed_drew hr).frozen k
          have ck2d : wr.drew.cell? ⟨w.heap.size, k, none⟩ = some (eB (P k)) := ck2
          have hBs2 := (below_trans hBr (below_drewA wr)).setCell (p := ⟨w.heap.size, k, none⟩) (Nat.le_refl _) (eB (P k ^^^ Q k))
          clear hcell2
          obtain ⟨u2, hu2⟩ : ∃ u : UInt8, P k = u := ⟨_, rfl⟩
          obtain ⟨x2, hxx2⟩ : ∃ x : UInt8, Q k = x := ⟨_, rfl⟩
          simp only [hu2, hxx2] at hx2 ck2 ck2d hcp2 hset2 hBs2
          obtain ⟨y2, hy2⟩ : ∃ y : UInt8, u2 ^^^ x2 = y := ⟨_, rfl⟩
          rw [hy2] at hx2 hset2 hBs2
          clear hu2 hxx2 hy2
          go_wp2_with fail
          go_still_tail 12, (by kernel_rfl)
          change wpList _ _ _ _ _ wr.drew
          generalize wr.drew = wrd at *
          go_wp2_with fail
          obtain ⟨w5, hw5⟩ : ∃ w3, wrd.setCell ⟨w.heap.size, k, none⟩ (Value.int .u8 (y2.toNat : Int)) = w3 := ⟨_, rfl⟩
          have hr5 : Rowed w5 w.heap.size 5 (cellsF (aK P Q (k + 1)) N) := by rw [← hw5]; exact hset2
          have hB5 : Below w.heap.size w w5 := by rw [← hw5]; exact hBs2
          rw [hw5]
          clear hw5 hset2 hBs2 ck2 ck2d hcp2 hx2 fg2
          try go_wp2_with fail
          go_roundw
          case rel => exact ⟨k + 1, by omega, by go_num, hr5, hB5⟩
          case measure => simp [intOf]; omega
      · obtain rfl : k = N := by omega
        have hd : decide ((k : Int) < (k : Int)) = false := decide_eq_false (by omega)
        have he := hend wr hr
        clear hend hR hmk
        go_wp2_with fail
        go_at_call 45
        refine he.mono ?_
        rintro e w2 ⟨v2, rfl, hv2, hB2⟩
        go_wp2
        go_ret
        exact ⟨v2, rfl, hv2.mono hBr.size, below_trans hBr hB2⟩
end Go.Proofs.Ytkldapdebjlfmaa
