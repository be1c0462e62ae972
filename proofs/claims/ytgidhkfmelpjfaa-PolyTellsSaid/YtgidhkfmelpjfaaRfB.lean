/- Contract of helixref04.Deriv. -/
import Derived.Test.YtgidhkfmelpjfaaRfA
import Derived.Test.YtgidhkfmelpjfaaPoD
namespace Go.Proofs.Ytgidhkfmelpjfaa
open Go.RowKit Go.Shelf
attribute [local go_sem] Oper.semAt_some

/-- The derivative. -/
def dvR (f : Nat → UInt8) : Nat → UInt8 := fun k => if k % 2 = 0 then f (k + 1) else 0
def dvK (f : Nat → UInt8) (k : Nat) : Nat → UInt8 := fun j => if j < 2 * k then dvR f j else 0
theorem dvK_step (f : Nat → UInt8) (k : Nat) : (fun j => if j = 2 * k then f (2 * k + 1) else dvK f k j) = dvK f (k + 1) := by
  funext j
  simp only [dvK, dvR]
  by_cases h : j = 2 * k
  · subst h
    rw [if_pos rfl, if_pos (by omega), if_pos (by omega)]
  · rw [if_neg h]
    by_cases h2 : j < 2 * k
    · rw [if_pos h2, if_pos (show j < 2 * (k + 1) by omega)]
    · rw [if_neg h2]
      by_cases h3 : j < 2 * (k + 1)
      · rw [if_pos h3, if_neg (by omega)]
      · rw [if_neg h3]
theorem dvK_all (p : List UInt8) (k : Nat) (h : p.length ≤ 2 * k + 1) : dvK (C p) k = dvR (C p) := by
  funext j
  simp only [dvK, dvR]
  by_cases h2 : j < 2 * k
  · rw [if_pos h2]
  · rw [if_neg h2, C_big p (j + 1) (by omega)]; split <;> rfl
theorem dvR_big (p : List UInt8) : ∀ k, p.length ≤ k → dvR (C p) k = 0 := fun k hk => by
  simp only [dvR]; rw [C_big p (k + 1) (by omega)]; split <;> rfl
set_option maxRecDepth 100000 in
set_option maxHeartbeats 2000000 in
theorem RDeriv_any (pv : Value) (p : List UInt8) (hp : p.length ≤ 100000) (w : World) (hP : Sl eB w.heap.size w pv p) :
    Calls Try.prog 26 #[pv] w fun e w' => ∃ v, e = .returned v ∧ Own8 w.heap.size w' v (tr (dvR (C p)) p.length) ∧ Below w.heap.size w w' := by
  obtain ⟨A, cap, rfl, hcap, hcs⟩ := id hP
  have hmk := fun w => make_run p.length (by omega) (p.length : Int) rfl w
  have hR := Rowed.new w 5 (cellsF (fun _ => 0) p.length)
  have hB := below_alloc w (.cells (cellsF (fun _ => 0) p.length) 5)
  have hz0 : (fun _ => 0) = dvK (C p) 0 := by funext j; simp [dvK]
  rw [hz0] at hR hB hmk
  clear hz0
  obtain ⟨q, hq⟩ : ∃ q, tr (dvR (C p)) p.length = q := ⟨_, rfl⟩
  have hend : ∀ k, p.length ≤ 2 * k + 1 → ∀ W, Rowed W w.heap.size 5 (cellsF (dvK (C p) k) p.length) → Calls Try.prog 14 #[.slice (some ⟨w.heap.size, 0, none⟩) p.length p.length] W fun e w' => ∃ v, e = .returned v ∧ Own8 W.heap.size w' v q ∧ Below W.heap.size W w' := by
    intro k hk W hr
    have h := RTrim_any (.slice (some ⟨w.heap.size, 0, none⟩) p.length p.length) ((List.range p.length).map (dvK (C p) k)) (by simp; omega) W (sl_cellsF hr W.heap.size hr.lt)
    rw [dvK_all p k hk, C_range _ _ (dvR_big p), List.length_map, List.length_range, hq] at h
    exact h
  rw [hq]
  clear hq
  go_enter Try.func26, Try.ntmps26
  go_wp2_with fail
  go_loopw [4] (fun i wr => ∃ k : Nat, 2 * k ≤ p.length + 1 ∧ i = .int .i64 ((2 * k + 1 : Nat) : Int) ∧ Rowed wr w.heap.size 5 (cellsF (dvK (C p) k) p.length) ∧ Below w.heap.size w wr) (fun i _ => p.length + 3 - (intOf i).toNat)
  case atStart => exact ⟨0, by omega, rfl, hR, hB⟩
  case round =>
    obtain ⟨k, hk, rfl, hr, hBr⟩ := hrel
    by_cases hlt : 2 * k + 1 < p.length
    · have hd : decide (((2 * k + 1 : Nat) : Int) < (p.length : Int)) = true := decide_eq_true (by omega)
      obtain ⟨b, off, rfl, hb, hcell⟩ := hcs (by omega)
      have hcx : wr.cell? ⟨b, off + (2 * k + 1), none⟩ = some (eB (p[2 * k + 1]'hlt)) := (hBr.cell (p := ⟨b, off + (2 * k + 1), none⟩) hb).trans (hcell (2 * k + 1) _ (by simp [hlt]))
      have cg := hr.cell (2 * k)
      rw [cellsF_get _ _ _ (by omega)] at cg
      have fg := hr.frozen (2 * k)
      have hset := hr.set (2 * k) (eB p[2 * k + 1])
      rw [cellsF_set, ← C_get p (2 * k + 1) hlt, dvK_step] at hset
      rw [← C_get p (2 * k + 1) hlt] at hcx
      have e1 : IntKind.i64.wrap (((2 * k + 1 : Nat) : Int) - 1) = ((2 * k : Nat) : Int) := by rw [IntWalk.i64_in _ (by omega)]; omega
      have e2 : IntKind.i64.wrap (((2 * k + 1 : Nat) : Int) + 2) = ((2 * (k + 1) + 1 : Nat) : Int) := by rw [IntWalk.i64_in _ (by omega)]; omega
      have hBs := hBr.setCell (p := ⟨w.heap.size, 2 * k, none⟩) (Nat.le_refl _) (eB (C p (2 * k + 1)))
      generalize C p (2 * k + 1) = x at *
      have hik : 2 * k < p.length := by omega
      have hik2 : ((2 * k : Nat) : Int) < (p.length : Int) := by omega
      clear hcell hcs hP hR hmk hend
      generalize hi1 : 2 * k + 1 = i1 at *
      generalize hi0 : 2 * k = i at *
      go_wp2
      go_roundw
      case rel => exact ⟨k + 1, by omega, by first | rfl | go_num, hset, hBs⟩
      case measure => simp [intOf]; omega
    · have hd : decide (((2 * k + 1 : Nat) : Int) < (p.length : Int)) = false := decide_eq_false (by omega)
      have he := hend k (by omega) wr hr
      clear hend hcs hR hmk
      go_wp2_with fail
      go_at_call 14
      refine he.mono ?_
      rintro e w2 ⟨v2, rfl, hv2, hB2⟩
      go_wp2
      go_ret
      exact ⟨v2, rfl, hv2.mono hBr.size, below_trans hBr hB2⟩
end Go.Proofs.Ytgidhkfmelpjfaa
