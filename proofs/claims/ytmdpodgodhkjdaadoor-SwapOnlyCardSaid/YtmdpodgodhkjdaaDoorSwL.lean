/- SwapOnly. -/
import Derived.Test.YtmdpodgodhkjdaaDoorSwI
import Derived.Deep.CutRange
namespace Go.Proofs.YtmdpodgodhkjdaaDoor
open Go.RowKit Go.Shelf
attribute [local go_sem] Oper.semAt_some run_store_func

/-- What is told, or none: the word as it stands, or with one letter in place of another one; the sums are those that are asked for. -/
theorem swapG_cases (y : List UInt8) (s u : Int) (h2 : 2 ≤ y.length) (h1 : y.length ≤ 1000) (hy : FourL y) (s0 : 0 ≤ s) (s4 : s < 4) (u0 : 0 ≤ u) (u6 : u ≤ 6 * y.length) :
    (∃ p c, p < y.length ∧ codeOf c.toNat ≠ -1 ∧ swapG y s u = .ok (y.set p c) ∧ sS (y.set p c) y.length % 4 = s ∧ sW (y.set p c) y.length % (6 * y.length + 1) = u) ∨
    (swapG y s u = .error 130 ∧ ∀ p c, p < y.length → codeOf c.toNat ≠ -1 → ¬ (sS (y.set p c) y.length % 4 = s ∧ sW (y.set p c) y.length % (6 * y.length + 1) = u)) := by
  by_cases hsame : sS y y.length % 4 = s ∧ sW y y.length % (6 * y.length + 1) = u
  · refine .inl ⟨0, atB y 0, by omega, hy 0 (by omega), ?_⟩
    rw [set_same y 0 (by omega)]
    refine ⟨?_, hsame.1, hsame.2⟩
    rw [swapG, findG, four_sums y h2 h1 hy]
    simp only [if_pos hsame]
    simp
  · have hf : findG y s u = match (List.range y.length).find? (hitB y s u) with
        | none => .error 130
        | some p => .ok ((p : Int), letB y s p) := by
      rw [findG, four_sums y h2 h1 hy]
      simp only [if_neg hsame]
      rw [if_neg (by omega)]
      rfl
    cases hq : (List.range y.length).find? (hitB y s u) with
    | none =>
      rw [hq] at hf
      refine .inr ⟨by rw [swapG, hf], fun p c hp hc hh => ?_⟩
      have h3 := (hit_only y hy s u p c hp hc u0 u6 hh.1 hh.2).1
      have h4 := List.find?_eq_none.1 hq p (by simpa using hp)
      exact h4 h3
    | some p =>
      rw [hq] at hf
      have hp : p < y.length := by simpa using List.mem_of_find?_eq_some hq
      have hh := List.find?_some hq
      refine .inl ⟨p, letB y s p, hp, letterOf_ok _, ?_, letB_S y s p hp s0 s4, (hit_iff y s u p hp u0 u6).1 hh⟩
      rw [swapG, hf]
      simp only
      rw [if_neg (by omega), byG_ok y p (letB y s p) h2 h1 hy hp (letterOf_ok _)]
/-- The codes at their letters. -/
def codeCells : Array Value := (((Array.replicate 256 (Value.int .i64 0)).setIfInBounds 67 (.int .i64 1)).setIfInBounds 71 (.int .i64 2)).setIfInBounds 84 (.int .i64 3)
/-- How many of the first k letters are others. -/
def diffN (x y : List UInt8) : Nat → Nat
  | 0 => 0
  | k + 1 => diffN x y k + if atB x k = atB y k then 0 else 1
theorem diffN_set (y : List UInt8) (p : Nat) (c : UInt8) (k : Nat) : diffN (y.set p c) y k ≤ if p < k then 1 else 0 := by
  induction k with
  | zero => simp [diffN]
  | succ k ih =>
    rw [diffN]
    by_cases e : p = k
    · subst e
      rw [if_neg (by omega)] at ih
      rw [show (if p < p + 1 then 1 else 0) = 1 from if_pos (by omega)]
      split <;> omega
    · rw [atB_set_other y c e, if_pos rfl]
      by_cases h : p < k
      · rw [if_pos h] at ih; rw [if_pos (by omega)]; omega
      · rw [if_neg h] at ih; rw [if_neg (by omega)]; omega
theorem diffN_le (x y : List UInt8) (k : Nat) : diffN x y k ≤ k := by
  induction k with
  | zero => simp [diffN]
  | succ k ih => rw [diffN]; split <;> omega
/-- The numbers that are tried: none of them gives the sums. -/
theorem no_other (y : List UInt8) (s u : Int) (s0 : 0 ≤ s) (s4 : s < 4) (u0 : 0 ≤ u) (u6 : u ≤ 6 * y.length)
    (hno : ∀ p c, p < y.length → codeOf c.toNat ≠ -1 → ¬ (sS (y.set p c) y.length % 4 = s ∧ sW (y.set p c) y.length % (6 * y.length + 1) = u)) (i k : Nat) (hi : i < y.length) (hk : k < 4) :
    ((sS y y.length % 4 + ((k : Int) - codeOf (atB y i).toNat) - s).tmod 4 == 0 && (sW y y.length % (6 * y.length + 1) + ((i : Int) + 1) * ((k : Int) - codeOf (atB y i).toNat) - u).tmod (6 * y.length + 1) == 0) = false := by
  rw [Bool.eq_false_iff]
  intro h
  rw [Bool.and_eq_true, tmod_dec, tmod_dec, decide_eq_true_eq, decide_eq_true_eq] at h
  have hl := lett_code k hk
  refine hno i (lett k) hi (by rw [hl]; omega) ⟨?_, ?_⟩
  · rw [sS_set y i _ hi, if_pos hi, hl]
    omega
  · rw [sW_set y i _ hi, if_pos hi, hl, Int.mul_comm]
    exact (mod_hit u0 (by omega)).1 h.2
set_option maxRecDepth 100000 in
set_option maxHeartbeats 4000000 in
theorem SwapOnly_main (v0 : Value) (l : List Int) (z1 z2 : Int) (w : World) (hS : Sl eI w.heap.size w v0 l) (hT : Tab w) (h2 : 2 ≤ l.length) (h1 : l.length ≤ 100) :
    Calls Tryd.prog 10 #[v0, .int .i64 z1, .int .i64 z2] w fun e w' => e = .returned (.bool true) ∧ Below w.heap.size w w' := by
  have hw := wakes_any
  have hrw := row_any v0 l (by omega) w hS
  obtain ⟨A0, c0, rfl⟩ := hS.len
  have hxl := textL_length l
  have hx4 := textL_FourL l
  obtain ⟨sn, hs4, hat1⟩ := at_isB z1 4 (by omega) (by omega)
  obtain ⟨un, hu6, hat2⟩ := at_isB z2 (6 * l.length + 1) (by omega) (by omega)
  simp only [Int.cast_ofNat_Int] at hat1
  rw [show ((6 * l.length + 1 : Nat) : Int) = 6 * (l.length : Int) + 1 by omega] at hat2
  have d1 : decide ((l.length : Int) < 2) = false := decide_eq_false (by omega)
  have d2 : decide ((100 : Int) < (l.length : Int)) = false := decide_eq_false (by omega)
  have e6 : wrap64 (6 * (l.length : Int)) = 6 * (l.length : Int) := IntWalk.wrap64_in _ (by omega)
  have e6' : IntKind.i64.wrap (6 * (l.length : Int)) = 6 * (l.length : Int) := IntWalk.i64_in _ (by omega)
  have e7 : wrap64 (6 * (l.length : Int) + 1) = 6 * (l.length : Int) + 1 := IntWalk.wrap64_in _ (by omega)
  have e7' : IntKind.i64.wrap (6 * (l.length : Int) + 1) = 6 * (l.length : Int) + 1 := IntWalk.i64_in _ (by omega)
  have n7 : ¬ (6 * (l.length : Int) + 1 = 0) := by omega
  have n7' : ((6 * (l.length : Int) + 1) == 0) = false := by rw [beq_eq_false_iff_ne]; omega
  have hcs := swapG_cases (textL l) sn un (by omega) (by omega) hx4 (by omega) (by omega) (by omega) (by rw [hxl]; omega)
  rw [hxl] at hcs
  rcases hcs with ⟨p, c, hp, hc, hsw, eS, eW⟩ | ⟨hsw, hno⟩
  · have hSw := fun v w => Swap_yes _ _ _ _ hsw (by omega) v w
    have hrl : ((textL l).set p c).length = l.length := by simp [hxl]
    have hO := rOf_four ((textL l).set p c) (by omega) (by omega) (hx4.set p hc)
    rw [hrl, eS, eW] at hO
    have hdf := diffN_set (textL l) p c l.length
    have hdf1 : diffN ((textL l).set p c) (textL l) l.length ≤ 1 := by
      have := hdf
      split at this <;> omega
    generalize (textL l).set p c = r at *
    generalize textL l = x at *
    have Hxl := Lib.hid hxl
    have Hrl := Lib.hid hrl
    have Hdf := Lib.hid hdf1
    have Hl := Lib.hid h1
    have g1 : ((l.length : Int) == (l.length : Int)) = true := by simp
    have g2 : ((sn : Int) == (sn : Int)) = true := by simp
    have g3 : ((un : Int) == (un : Int)) = true := by simp
    clear hS hx4 h2 h1 hp hc hsw eS eW hxl hrl hdf hdf1 hs4 hu6
    go_enter Tryd.func10, Tryd.ntmps10
    go_wp2_with fail
    go_at_call 32
    refine hrw.mono ?_
    rintro e w1 ⟨vx, rfl, hx, hB⟩
    have hx := hx.sl
    have hT := hT.below hB
    obtain ⟨Ax, cx, rfl⟩ := hx.len
    rw [Hxl.out] at hx ⊢
    clear hrw d1 d2
    go_wp2_with fail
    go_quiet (fail)
    have hD : Below w1.heap.size w1 (w1.drewN nq) := ⟨rfl, rfl, rfl, Nat.le_refl _, fun _ _ => rfl⟩
    have hx := hx.next hD
    have hT := hT.below hD
    have hB := below_trans hB hD
    clear hD hat1 hat2 e6 e6' e7 e7'
    generalize w1.drewN nq = w2 at *
    go_wp2_with fail
    go_at_call 27
    refine (hSw _ _ hT hx).mono ?_
    rintro e w3 ⟨vr, rfl, hr, hC⟩
    have hx := hx.next hC
    have hT := hT.below hC
    have hB := below_trans hB hC
    clear hC hSw
    obtain ⟨Ar, cr, rfl⟩ := hr.len
    rw [Hrl.out] at hr ⊢
    go_wp2_with fail
    go_at_call 22
    refine (hO _ _ hr).mono ?_
    rintro e w5 ⟨rfl, hC⟩
    generalize sT r l.length % (l.length : Int) = ta at *
    have hAa := below_alloc w5 (.cells (c3 ta sn un) 36)
    have hra := Rowed.new w5 36 (c3 ta sn un)
    have hC := below_trans hC hAa
    have hx := hx.next hC
    have hr := hr.next hC
    have hT := hT.below hC
    have hB := below_trans hB hC
    have hlta := hra.lt
    clear hC hAa hO
    go_upto_region 9 with fail
    generalize w5.alloc (.cells (c3 ta sn un) 36) = w6 at *
    generalize w5.heap.size = ga at *
    go_wp2_with fail
    go_loopw [13, 14] (fun m i wr => ∃ k : Nat, k ≤ l.length ∧ i = .int .i64 k ∧ m = .int .i64 (diffN r x k : Nat) ∧ Below w6.heap.size w6 wr) (fun _ i _ => l.length - (intOf i).toNat)
    case atStart => exact ⟨0, Nat.zero_le _, rfl, rfl, Below.refl _ _⟩
    case round =>
      obtain ⟨k, hk, rfl, rfl, hBr⟩ := hrel
      by_cases hlt : k < l.length
      · obtain ⟨bk, off, rfl, u1⟩ : ∃ bk off, Ax = some ⟨bk, off, none⟩ ∧ wr.cell? ⟨bk, off + k, none⟩ = some (eB (atB x k)) := by
          obtain ⟨A', c', e, hc, hcs⟩ := hx
          injection e with e1 e2 e3
          subst e1 e3
          obtain ⟨bk, off, e4, hb, hcell⟩ := hcs (by have := Hxl.out; omega)
          exact ⟨bk, off, e4, (hBr.cell (p := ⟨bk, off + k, none⟩) hb).trans (hcell k _ (atB_lt (by have := Hxl.out; omega)))⟩
        obtain ⟨bk2, off2, rfl, u2⟩ : ∃ bk off, Ar = some ⟨bk, off, none⟩ ∧ wr.cell? ⟨bk, off + k, none⟩ = some (eB (atB r k)) := by
          obtain ⟨A', c', e, hc, hcs⟩ := hr
          injection e with e1 e2 e3
          subst e1 e3
          obtain ⟨bk, off, e4, hb, hcell⟩ := hcs (by have := Hrl.out; omega)
          exact ⟨bk, off, e4, (hBr.cell (p := ⟨bk, off + k, none⟩) hb).trans (hcell k _ (atB_lt (by have := Hrl.out; omega)))⟩
        have hkl : (k : Int) < l.length := by omega
        have Hd := Lib.hid (show diffN r x (k + 1) = diffN r x k + if atB r k = atB x k then 0 else 1 from rfl)
        have Hdl := Lib.hid (diffN_le r x k)
        have Hk := Lib.hid hlt
        clear hlt hk hx hr
        by_cases hq : atB r k = atB x k
        · have gq : (((atB r k).toNat : Int) != ((atB x k).toNat : Int)) = false := by rw [hq]; simp
          rw [if_pos hq] at Hd
          have h100 := Hl.out
          have hkk := Hk.out
          clear hq
          go_wp2_with fail
          go_quiet (fail)
          go_wp2_with fail
          go_roundw
          case rel => exact ⟨k + 1, by have := Hk.out; omega, by go_num, by rw [Hd.out]; rfl, hBr.trans ⟨rfl, rfl, rfl, Nat.le_refl _, fun _ _ => rfl⟩⟩
          case measure => have := Hk.out; simp [intOf]; omega
        · have gq : (((atB r k).toNat : Int) != ((atB x k).toNat : Int)) = true := byte_neq hq
          rw [if_neg hq] at Hd
          clear hq
          have h100 := Hl.out
          have hdl := Hdl.out
          have hkk := Hk.out
          go_wp2_with fail
          go_quiet (fail)
          go_wp2_with fail
          go_roundw
          case rel => exact ⟨k + 1, by omega, by go_num, by rw [Hd.out]; go_num, hBr.trans ⟨rfl, rfl, rfl, Nat.le_refl _, fun _ _ => rfl⟩⟩
          case measure => simp [intOf]; omega
      · obtain rfl : k = l.length := by omega
        have hra := hra.below hBr hlta
        obtain ⟨p0, p1, p2⟩ := cells_of_row hra
        have hT := hT.below hBr
        have hB := below_trans hB hBr
        have hd1 : ((diffN r x l.length : Nat) : Int) ≤ 1 := by have := Hdf.out; omega
        clear hra hx hr hBr hlt hk
        go_wp2_with (go_at_call 24; refine (hw _ hT).mono ?_; rintro e w' ⟨rfl, hC⟩)
        go_ret
        exact ⟨rfl, below_trans hB hC⟩
  · have hSw := fun v w => Swap_no _ _ _ _ hsw (by omega) v w
    have hO := rOf_four (textL l) (by omega) (by omega) hx4
    have hnn := Lib.hid (fun i k hi hk => no_other (textL l) sn un (by omega) (by omega) (by omega) (by rw [hxl]; omega) (by rw [hxl]; exact hno) i k hi hk)
    have hfo := Lib.hid (fun k hk => hx4 k hk)
    have Hra := Lib.hid (show (0 ≤ sS (textL l) l.length % 4 ∧ sS (textL l) l.length % 4 < 4) ∧ 0 ≤ sW (textL l) l.length % (6 * (l.length : Int) + 1) ∧ sW (textL l) l.length % (6 * (l.length : Int) + 1) < 6 * (l.length : Int) + 1 from ⟨by omega, Int.emod_nonneg _ (by omega), Int.emod_lt_of_pos _ (by omega)⟩)
    rw [hxl] at hO hnn hfo
    generalize textL l = x at *
    have Hxl := Lib.hid hxl
    have Hl := Lib.hid h1
    have Hs4 := Lib.hid hs4
    have Hu6 := Lib.hid hu6
    clear hS hx4 h2 h1 hsw hno hxl hs4 hu6
    go_enter Tryd.func10, Tryd.ntmps10
    go_wp2_with fail
    go_at_call 32
    refine hrw.mono ?_
    rintro e w1 ⟨vx, rfl, hx, hB⟩
    have hx := hx.sl
    have hT := hT.below hB
    obtain ⟨Ax, cx, rfl⟩ := hx.len
    rw [Hxl.out] at hx ⊢
    clear hrw d1 d2
    go_wp2_with fail
    go_quiet (fail)
    have hD : Below w1.heap.size w1 (w1.drewN nq) := ⟨rfl, rfl, rfl, Nat.le_refl _, fun _ _ => rfl⟩
    have hx := hx.next hD
    have hT := hT.below hD
    have hB := below_trans hB hD
    clear hD hat1 hat2 e6 e6' e7 e7'
    generalize w1.drewN nq = w2 at *
    go_wp2_with fail
    go_at_call 27
    refine (hSw _ _ hT hx).mono ?_
    rintro e w3 ⟨rfl, hC⟩
    have hx := hx.next hC
    have hT := hT.below hC
    have hB := below_trans hB hC
    clear hC hSw
    go_wp2_with fail
    go_at_call 22
    refine (hO _ _ hx).mono ?_
    rintro e w5 ⟨rfl, hC⟩
    generalize sT x l.length % (l.length : Int) = ta at *
    generalize sS x l.length % 4 = sa at *
    generalize sW x l.length % (6 * (l.length : Int) + 1) = wa at *
    have hAa := below_alloc w5 (.cells (c3 ta sa wa) 36)
    have hra := Rowed.new w5 36 (c3 ta sa wa)
    have hC := below_trans hC hAa
    have hx := hx.next hC
    have hT := hT.below hC
    have hB := below_trans hB hC
    have hlta := hra.lt
    clear hC hAa hO
    go_upto_region 17 with fail
    generalize w5.alloc (.cells (c3 ta sa wa) 36) = w6 at *
    generalize w5.heap.size = ga at *
    have hr0 : (w6.alloc (.cells Tryd.zeroCells48 48)).heap[w6.heap.size]? = some (.cells Tryd.zeroCells48 48 (0, 0)) := World.alloc_heap_new _ _
    have hi2 : (Tryd.prog.info? 48).map (·.size) = some codeCells.size := by kernel_rfl
    have hi3 : Tryd.zeroCells48.size = codeCells.size := by kernel_rfl
    have hi4 : codeCells.all (·.oneCell') = true := by kernel_rfl
    go_upto_region 18 with (refine wpList_store_row rfl 48 (.tmp 17) (.tmp 118) rfl w6.heap.size codeCells rfl (by kernel_rfl) _ _ hr0 hi2 hi3 hi4 ?_)
    have hrow := setRow_heap (w6.alloc (.cells Tryd.zeroCells48 48)) w6.heap.size _ codeCells _ _ hr0
    have hC := below_setRow (below_alloc w6 (.cells Tryd.zeroCells48 48)) w6.heap.size codeCells (Nat.le_refl _)
    have hra := hra.below hC hlta
    have hx := hx.next hC
    have hT := hT.below hC
    have hB := below_trans hB hC
    clear hC hr0 hi2 hi3 hi4 hlta
    generalize (w6.alloc (.cells Tryd.zeroCells48 48)).setRow w6.heap.size codeCells = w7 at *
    generalize w6.heap.size = g7 at hrow ⊢
    obtain ⟨p0, p1, p2⟩ := cells_of_row hra
    have hrw7 : Rowed w7 g7 48 codeCells := hrow
    clear hra hrow p0
    go_wp2_with fail
    go_loop [18] (fun i => ∃ k : Nat, k ≤ l.length ∧ i = .int .i64 k) (fun i => l.length - (intOf i).toNat)
    case atStart => exact ⟨0, Nat.zero_le _, rfl⟩
    case round =>
      obtain ⟨k, hk, rfl⟩ := hrel
      by_cases hlt : k < l.length
      · have hkl : (k : Int) < l.length := by omega
        have h4 := hfo.out k (by have := hlt; omega)
        have hcb := code_bound h4
        have hcc : w7.cell? ⟨g7, (atB x k).toNat, none⟩ = some (.int .i64 (codeOf (atB x k).toNat)) := by
          rw [hrw7.cell]
          rcases code_four h4 with e | e | e | e <;> rw [e] <;> rfl
        have hch : ((atB x k).toNat : Int) < 256 := by
          have := (atB x k).toNat_lt
          omega
        have hch' : (atB x k).toNat < 256 := (atB x k).toNat_lt
        obtain ⟨bk, off, rfl, u1⟩ : ∃ bk off, Ax = some ⟨bk, off, none⟩ ∧ w7.cell? ⟨bk, off + k, none⟩ = some (eB (atB x k)) := by
          obtain ⟨A', c', e, hc, hcs⟩ := hx
          injection e with e1 e2 e3
          subst e1 e3
          obtain ⟨bk, off, e4, hb, hcell⟩ := hcs (by have := Hxl.out; omega)
          exact ⟨bk, off, e4, hcell k _ (atB_lt (by have := Hxl.out; omega))⟩
        have Hk := Lib.hid hlt
        have Hn := Lib.hid (fun j hj => hnn.out k j hlt hj)
        clear hlt hk h4 hx hrw7
        generalize codeOf (atB x k).toNat = q at *
        generalize atB x k = ch at *
        go_wp2_with fail
        go_loop [19] (fun c => ∃ j : Nat, j ≤ 4 ∧ c = .int .i64 j) (fun c => 4 - (intOf c).toNat)
        case atStart => exact ⟨0, Nat.zero_le _, rfl⟩
        case round =>
          obtain ⟨j, hj, rfl⟩ := hrel
          by_cases hlt : j < 4
          · have hn := Hn.out j hlt
            obtain ⟨⟨ra0, ra1⟩, rb0, rb1⟩ := Hra.out
            have hs4 := Hs4.out
            have hu6 := Hu6.out
            have hl1 := Hl.out
            have hk1 := Hk.out
            obtain ⟨d, hd⟩ : ∃ d : Int, (j : Int) - q = d := ⟨_, rfl⟩
            have hd3 : d = -3 ∨ d = -2 ∨ d = -1 ∨ d = 0 ∨ d = 1 ∨ d = 2 ∨ d = 3 := by omega
            have hm3 : -303 ≤ ((k : Int) + 1) * d ∧ ((k : Int) + 1) * d ≤ 303 := by rcases hd3 with e | e | e | e | e | e | e <;> rw [e] <;> omega
            have w0 : IntKind.i64.wrap ((j : Int) - q) = d := by rw [IntWalk.i64_in _ (by omega)]; exact hd
            have w0' : wrap64 ((j : Int) - q) = d := by rw [IntWalk.wrap64_in _ (by omega)]; exact hd
            have w1' : wrap64 (sa + d) = sa + d := IntWalk.wrap64_in _ (by omega)
            have w1'' : IntKind.i64.wrap (sa + d) = sa + d := IntWalk.i64_in _ (by omega)
            have w2' : wrap64 (sa + d - sn) = sa + d - sn := IntWalk.wrap64_in _ (by omega)
            have w2'' : IntKind.i64.wrap (sa + d - sn) = sa + d - sn := IntWalk.i64_in _ (by omega)
            rw [hd] at hn
            obtain ⟨e, he⟩ : ∃ e, ((k : Int) + 1) * d = e := ⟨_, rfl⟩
            rw [he] at hn hm3
            have w3' : wrap64 (((k : Int) + 1) * d) = e := by rw [he]; exact IntWalk.wrap64_in _ (by omega)
            have w3'' : IntKind.i64.wrap (((k : Int) + 1) * d) = e := by rw [he]; exact IntWalk.i64_in _ (by omega)
            have w4' : wrap64 (wa + e) = wa + e := IntWalk.wrap64_in _ (by omega)
            have w4'' : IntKind.i64.wrap (wa + e) = wa + e := IntWalk.i64_in _ (by omega)
            have w5' : wrap64 (wa + e - un) = wa + e - un := IntWalk.wrap64_in _ (by omega)
            have w5'' : IntKind.i64.wrap (wa + e - un) = wa + e - un := IntWalk.i64_in _ (by omega)
            have Hj := Lib.hid hlt
            have hjl : (j : Int) < 4 := by omega
            clear hlt hj hd hd3 hm3 he rb0 rb1 ra0 ra1 hs4 hu6
            cases hq1 : ((sa + d - sn).tmod 4 == 0) with
            | false =>
              clear hn
              go_wp2_with fail
              refine ⟨⟨j + 1, Hj.out, by go_num⟩, ?_⟩
              have := Hj.out
              simp [intOf]
              omega
            | true =>
              rw [hq1, Bool.true_and] at hn
              go_wp2_with fail
              refine ⟨⟨j + 1, Hj.out, by go_num⟩, ?_⟩
              have := Hj.out
              simp [intOf]
              omega
          · obtain rfl : j = 4 := by omega
            clear hlt hj
            have hk1 := Hk.out
            have hl1 := Hl.out
            go_wp2_with fail
            refine ⟨⟨k + 1, Hk.out, by go_num⟩, ?_⟩
            simp [intOf]
            omega
      · obtain rfl : k = l.length := by omega
        clear hlt hk hx hrw7
        go_wp2_with (go_at_call 24; refine (hw _ hT).mono ?_; rintro e w' ⟨rfl, hC⟩)
        go_ret
        exact ⟨rfl, below_trans hB hC⟩
set_option maxRecDepth 100000 in
set_option maxHeartbeats 1000000 in
theorem SwapOnly_any (v0 : Value) (l : List Int) (z1 z2 : Int) (w : World) (hS : Sl eI w.heap.size w v0 l) (hT : Tab w) :
    Calls Tryd.prog 10 #[v0, .int .i64 z1, .int .i64 z2] w fun e w' => e = .returned (.bool true) ∧ Below w.heap.size w w' := by
  have hw := wakes_any
  by_cases h2 : l.length < 2
  · have d1 : decide ((l.length : Int) < 2) = true := decide_eq_true (by omega)
    obtain ⟨A0, c0, rfl⟩ := hS.len
    go_enter Tryd.func10, Tryd.ntmps10
    go_wp2_with (go_at_call 24; refine (hw _ hT).mono ?_; rintro e w' ⟨rfl, hC⟩)
    go_ret
    exact ⟨rfl, hC⟩
  by_cases h1 : 100 < l.length
  · have d1 : decide ((l.length : Int) < 2) = false := decide_eq_false (by omega)
    have d2 : decide ((100 : Int) < (l.length : Int)) = true := decide_eq_true (by omega)
    obtain ⟨A0, c0, rfl⟩ := hS.len
    go_enter Tryd.func10, Tryd.ntmps10
    go_wp2_with (go_at_call 24; refine (hw _ hT).mono ?_; rintro e w' ⟨rfl, hC⟩)
    go_ret
    exact ⟨rfl, hC⟩
  exact SwapOnly_main v0 l z1 z2 w hS hT (by omega) (by omega)
end Go.Proofs.YtmdpodgodhkjdaaDoor
