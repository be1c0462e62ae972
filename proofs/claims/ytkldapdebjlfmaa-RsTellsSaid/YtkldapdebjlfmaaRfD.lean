/- Contracts of helixref04.Mul, Scale, Roots. -/
import Derived.Test.YtkldapdebjlfmaaRfC
import Derived.Test.YtkldapdebjlfmaaPoF
import Derived.Test.YtkldapdebjlfmaaPoZ
namespace Go.Proofs.Ytkldapdebjlfmaa
open Go.RowKit Go.Shelf
attribute [local go_sem] Oper.semAt_some

/-- What is gathered when k factors of q have been taken times p's factor a at i. -/
def mK (f : Nat → UInt8) (i : Nat) (a : UInt8) (q : Nat → UInt8) (k : Nat) : Nat → UInt8 := fun j => f j ^^^ (if i ≤ j ∧ j - i < k then ma a (q (j - i)) else 0)
theorem mK_zero (f : Nat → UInt8) (i : Nat) (a : UInt8) (q : Nat → UInt8) : mK f i a q 0 = f := by
  funext j; simp [mK]
theorem mK_step (f : Nat → UInt8) (i : Nat) (a : UInt8) (q : Nat → UInt8) (k : Nat) : (fun j => if j = i + k then mK f i a q k (i + k) ^^^ ma a (q k) else mK f i a q k j) = mK f i a q (k + 1) := by
  funext j
  simp only [mK]
  by_cases e : j = i + k
  · subst e
    rw [if_pos rfl, if_neg (by omega), if_pos (by omega), x_zero, show i + k - i = k by omega]
  · rw [if_neg e]
    by_cases h : i ≤ j ∧ j - i < k
    · rw [if_pos h, if_pos (by omega)]
    · rw [if_neg h, if_neg (by omega)]
theorem mK_all (p q : List UInt8) (i : Nat) (h : i < p.length) : mK (PM (p.take i) (C q)) i (C p i) (C q) q.length = PM (p.take (i + 1)) (C q) := by
  have e : p.take (i + 1) = p.take i ++ [p[i]] := List.take_succ_eq_append_getElem h
  funext j
  rw [e, PM_snoc, List.length_take, show min i p.length = i by omega, C_get p i h]
  simp only [mK]
  congr 1
  by_cases h1 : i ≤ j
  · rw [if_pos h1]
    by_cases h2 : j - i < q.length
    · rw [if_pos ⟨h1, h2⟩]
    · rw [if_neg (by omega), C_big q _ (by omega), ma_zero]
  · rw [if_neg (by omega), if_neg h1]

set_option maxRecDepth 100000 in
set_option maxHeartbeats 8000000 in
theorem RMul_any (pv qv : Value) (p q : List UInt8) (hp : p.length ≤ 100000) (hq : q.length ≤ 100000) (w : World) (hP : Sl eB w.heap.size w pv p) (hQ : Sl eB w.heap.size w qv q) :
    Calls Try.prog 26 #[pv, qv] w fun e w' => ∃ v, e = .returned v ∧ Own8 w.heap.size w' v (tr (PM p (C q)) (p.length + q.length)) ∧ Below w.heap.size w w' := by
  obtain ⟨Ap, cp, rfl, hcapp, hcsp⟩ := hP
  obtain ⟨Aq, cq, rfl, hcapq, hcsq⟩ := hQ
  have hw1 : IntKind.i64.wrap ((p.length : Int) + (q.length : Int)) = (p.length : Int) + (q.length : Int) := IntWalk.i64_in _ (by omega)
  obtain ⟨N, hN⟩ : ∃ N : Nat, p.length + q.length = N := ⟨_, rfl⟩
  have hmk := fun w => make_run N (by omega) ((p.length : Int) + (q.length : Int)) (by omega) w
  have hz0 : (fun _ => (0 : UInt8)) = PM (p.take 0) (C q) := by funext j; simp [PM]
  have hR := Rowed.new w 5 (cellsF (fun _ => 0) N)
  have hB := below_alloc w (.cells (cellsF (fun _ => 0) N) 5)
  rw [hz0] at hmk hR hB
  have hend : ∀ W, Rowed W w.heap.size 5 (cellsF (PM (p.take p.length) (C q)) N) → Calls Try.prog 45 #[.slice (some ⟨w.heap.size, 0, none⟩) N N] W fun e w' => ∃ v, e = .returned v ∧ Own8 W.heap.size w' v (tr (PM p (C q)) N) ∧ Below W.heap.size W w' := by
    intro W hr
    have h := RTrim_any (.slice (some ⟨w.heap.size, 0, none⟩) N N) ((List.range N).map (PM (p.take p.length) (C q))) (by simp; omega) W (sl_cellsF hr W.heap.size hr.lt)
    rw [List.take_length, C_range _ _ (fun k hk => PM_big' p q k (by omega)), List.length_map, List.length_range] at h
    exact h
  have hall : ∀ i, i < p.length → mK (PM (p.take i) (C q)) i (C p i) (C q) q.length = PM (p.take (i + 1)) (C q) := fun i h => mK_all p q i h
  rw [hN]
  have hreadp : ∀ k, (h : k < p.length) → ∃ b off, Ap = some ⟨b, off, none⟩ ∧ b < w.heap.size ∧ w.cell? ⟨b, off + k, none⟩ = some (eB (C p k)) := fun k h => by
    obtain ⟨b, off, e, hb, hcell⟩ := hcsp (by omega)
    exact ⟨b, off, e, hb, by rw [C_get p k h]; exact hcell k _ (by simp [h])⟩
  have hreadq : ∀ k, (h : k < q.length) → ∃ b off, Aq = some ⟨b, off, none⟩ ∧ b < w.heap.size ∧ w.cell? ⟨b, off + k, none⟩ = some (eB (C q k)) := fun k h => by
    obtain ⟨b, off, e, hb, hcell⟩ := hcsq (by omega)
    exact ⟨b, off, e, hb, by rw [C_get q k h]; exact hcell k _ (by simp [h])⟩
  clear hcsp hcsq hz0
  obtain ⟨F, hF⟩ : ∃ F : Nat → Nat → UInt8, (fun i => PM (p.take i) (C q)) = F := ⟨_, rfl⟩
  have hF' : ∀ i, PM (p.take i) (C q) = F i := fun i => congrFun hF i
  simp only [hF'] at hmk hR hB hend hall
  clear hF hF'
  generalize tr (PM p (C q)) N = Z at *
  generalize C p = P at *
  generalize C q = Q at *
  generalize p.length = lp at *
  generalize q.length = lq at *
  go_enter Try.func26, Try.ntmps26
  go_wp2_with fail
  go_loopw [6] (fun i wr => ∃ k : Nat, k ≤ lp ∧ i = .int .i64 (k : Nat) ∧ Rowed wr w.heap.size 5 (cellsF (F k) N) ∧ Below w.heap.size w wr) (fun i _ => lp - (intOf i).toNat)
  case atStart => exact ⟨0, by omega, rfl, hR, hB⟩
  case round =>
    obtain ⟨i, hk, rfl, hr, hBr⟩ := hrel
    by_cases hlt : i < lp
    · have hd : decide ((i : Int) < (lp : Int)) = true := decide_eq_true (by omega)
      obtain ⟨b1, off1, rfl, hb1, hcell1⟩ := hreadp i hlt
      have hil : (i : Int) < (lp : Int) := by omega
      have Hall := Lib.hid (hall i hlt)
      clear hend hmk hR hB hall hreadp
      generalize P i = a at *
      have hr0 := hr
      rw [← mK_zero (F i) i a Q] at hr0
      go_wp2_with fail
      go_loopw [7] (fun z wr => ∃ k : Nat, k ≤ lq ∧ z = .int .i64 (k : Nat) ∧ Rowed wr w.heap.size 5 (cellsF (mK (F i) i a Q k) N) ∧ Below w.heap.size w wr) (fun z _ => lq - (intOf z).toNat)
      case atStart => exact ⟨0, by omega, rfl, hr0, hBr⟩
      case round =>
        clear hr0 hr hBr
        obtain ⟨k, hkq, rfl, hr, hBr⟩ := hrel
        by_cases hltq : k < lq
        · have hdq : decide ((k : Int) < (lq : Int)) = true := decide_eq_true (by omega)
          obtain ⟨b2, off2, rfl, hb2, hcell2⟩ := hreadq k hltq
          have hkl : (k : Int) < (lq : Int) := by omega
          have hcp := (hBr.cell (p := ⟨b1, off1 + i, none⟩) hb1).trans hcell1
          have hcq := (hBr.cell (p := ⟨b2, off2 + k, none⟩) hb2).trans hcell2
          have hikN : i + k < N := by omega
          have hsum : IntKind.i64.wrap ((i : Int) + (k : Int)) = ((i + k : Nat) : Int) := by rw [IntWalk.i64_in _ (by omega)]; omega
          have hs0 : (0 : Int) ≤ ((i + k : Nat) : Int) := by omega
          have hsN : ((i + k : Nat) : Int) < (N : Int) := by omega
          have ck := hr.cell (i + k)
          rw [cellsF_get _ _ _ hikN] at ck
          have hset := (rowed_drew hr).set (i + k) (eB (mK (F i) i a Q k (i + k) ^^^ ma a (Q k)))
          rw [cellsF_set, mK_step] at hset
          have fg := (rowed_drew hr).frozen (i + k)
          have ckd : wr.drew.cell? ⟨w.heap.size, i + k, none⟩ = some (eB (mK (F i) i a Q k (i + k))) := ck
          have hBs := (below_trans hBr (below_drewA wr)).setCell (p := ⟨w.heap.size, i + k, none⟩) (Nat.le_refl _) (eB (mK (F i) i a Q k (i + k) ^^^ ma a (Q k)))
          have hx := u8x (mK (F i) i a Q k (i + k)) (ma a (Q k))
          have hmul := RefMul8 a (Q k) wr.drew
          obtain ⟨u, hu⟩ : ∃ u : UInt8, mK (F i) i a Q k (i + k) = u := ⟨_, rfl⟩
          obtain ⟨m, hm⟩ : ∃ m : UInt8, ma a (Q k) = m := ⟨_, rfl⟩
          obtain ⟨x, hxx⟩ : ∃ x : UInt8, Q k = x := ⟨_, rfl⟩
          simp only [hu, hm] at hx ck ckd hset hBs hmul
          rw [hxx] at hcq hmul
          obtain ⟨y, hy⟩ : ∃ y : UInt8, u ^^^ m = y := ⟨_, rfl⟩
          rw [hy] at hx hset hBs
          clear hu hm hxx hy hcell1 hcell2 hreadq hr Hall
          generalize hij : i + k = j at *
          clear hij
          go_wp2_with fail
          go_still_tail 21, (by kernel_rfl)
          still_call ((hmul).mono fun e w' h => (⟨h.1, h.2.symm⟩ : e = .returned (eB m) ∧ w' = wr.drew))
          repeat still_step
          refine wpStill_nil ?_
          change wpList _ _ _ _ _ wr.drew
          generalize wr.drew = wrd at *
          go_wp2_with fail
          obtain ⟨w5, hw5⟩ : ∃ w3, wrd.setCell ⟨w.heap.size, j, none⟩ (Value.int .u8 (y.toNat : Int)) = w3 := ⟨_, rfl⟩
          have hr5 : Rowed w5 w.heap.size 5 (cellsF (mK (F i) i a Q (k + 1)) N) := by rw [← hw5]; exact hset
          have hB5 : Below w.heap.size w w5 := by rw [← hw5]; exact hBs
          rw [hw5]
          clear hw5 hset hBs ck ckd hcp hcq hx fg
          try go_wp2_with fail
          go_roundw
          case rel => exact ⟨k + 1, by omega, by go_num, hr5, hB5⟩
          case measure => simp [intOf]; omega
        · obtain rfl : k = lq := by omega
          rw [Hall.out] at hr
          have hdq : decide ((k : Int) < (k : Int)) = false := decide_eq_false (by omega)
          go_wp2
          go_roundw
          case rel => exact ⟨i + 1, by omega, by go_num, hr, hBr⟩
          case measure => simp [intOf]; omega
    · obtain rfl : i = lp := by omega
      have hd : decide ((i : Int) < (i : Int)) = false := decide_eq_false (by omega)
      have he := hend wr hr
      clear hend hR hmk
      go_wp2_with fail
      go_at_call 45
      refine he.mono ?_
      rintro e w2 ⟨v2, rfl, hv2, hB2⟩
      go_wp2
      go_ret
      exact ⟨v2, rfl, hv2.mono hBr.size, below_trans hBr hB2⟩
end Go.Proofs.Ytkldapdebjlfmaa
