/- Contract of extra.Runs. -/
import Derived.Test.YtpjpfgahjalggaaDoorExB
import Derived.Test.YtpjpfgahjalggaaDoorCdA
namespace Go.Proofs.YtpjpfgahjalggaaDoor
open Go.RowKit Go.Shelf
attribute [local go_sem] Oper.semAt_some run_store_func

/-- Does a run begin at p? -/
def begB (y : List UInt8) (p : Nat) : Bool := p == 0 || atB y p != atB y (p - 1)
def runsG (y : List UInt8) (k : Nat) : List Int := ((List.range k).filter (begB y)).map fun p : Nat => (p : Int)
theorem runsG_succ (y : List UInt8) (k : Nat) : runsG y (k + 1) = if begB y k then runsG y k ++ [(k : Int)] else runsG y k := by
  unfold runsG
  rw [List.range_succ, List.filter_append]
  cases h : begB y k <;> simp [h]
theorem runsG_len (y : List UInt8) (k : Nat) : (runsG y k).length ≤ k := by
  have h := List.length_filter_le (begB y) (List.range k)
  rw [List.length_range] at h
  rw [runsG, List.length_map]
  exact h
theorem begB_pos (y : List UInt8) (p : Nat) (h : 0 < p) : begB y p = ((((atB y p).toNat : Int)) != ((atB y (p - 1)).toNat : Int)) := by
  have h0 : (p == 0) = false := by rw [beq_eq_false_iff_ne]; omega
  rw [begB, h0, Bool.false_or]
  by_cases e : atB y p = atB y (p - 1)
  · have h1 : (atB y p == atB y (p - 1)) = true := beq_iff_eq.2 e
    have h2 : (((atB y p).toNat : Int) == ((atB y (p - 1)).toNat : Int)) = true := beq_iff_eq.2 (by rw [e])
    rw [bne, bne, h1, h2]
  · have e2 : ¬ ((atB y p).toNat : Int) = ((atB y (p - 1)).toNat : Int) := fun h => e (UInt8.toNat_inj.1 (by omega))
    have h1 : (atB y p == atB y (p - 1)) = false := beq_eq_false_iff_ne.2 e
    have h2 : (((atB y p).toNat : Int) == ((atB y (p - 1)).toNat : Int)) = false := beq_eq_false_iff_ne.2 e2
    rw [bne, bne, h1, h2]
set_option maxRecDepth 100000 in
set_option maxHeartbeats 2000000 in
theorem Runs_any (sv : Value) (y : List UInt8) (hreach : y.length ≤ 1000000) (w : World) (hS : Sl eB w.heap.size w sv y) :
    Calls Tryd.prog 10 #[sv] w fun e w' => ∃ v, e = .returned v ∧ Sl eI w'.heap.size w' v (runsG y y.length) ∧ Below w.heap.size w w' := by
  obtain ⟨i0, hi, hz0, hz1, hz2⟩ := info_parts info_int
  obtain ⟨A, cap, rfl⟩ := hS.len
  have hread : Hid (∀ W', Below w.heap.size w W' → ∀ i, i < y.length → ∃ bk off, A = some ⟨bk, off, none⟩ ∧ W'.cell? ⟨bk, off + i, none⟩ = some (eB (atB y i))) := Lib.hid (by
    intro W' hB i hi
    obtain ⟨A', c', e, hc, hcs⟩ := hS
    injection e with e1 e2 e3
    subst e1 e3
    obtain ⟨bk, off, rfl, hb, hcell⟩ := hcs (by omega)
    exact ⟨bk, off, rfl, (hB.cell (p := ⟨bk, off + i, none⟩) hb).trans (hcell i _ (atB_lt hi))⟩)
  clear hS
  go_enter Tryd.func10, Tryd.ntmps10
  go_wp2_with fail
  go_loopw [3, 8] (fun v i wr => ∃ k : Nat, k ≤ y.length ∧ i = .int .i64 k ∧ wr.ownsRow w.heap.size 3 1 v (runsG y k).length ((runsG y k).map eI) ∧ Below w.heap.size w wr) (fun _ i _ => y.length - (intOf i).toNat)
  case atStart => exact ⟨0, Nat.zero_le _, rfl, World.ownsRow_nil _ _ _ _, Below.refl _ _⟩
  case round =>
    obtain ⟨k, hk, rfl, hrow, hB⟩ := hrel
    by_cases hlt : k < y.length
    · have hki : (k : Int) < (y.length : Int) := by omega
      have hkd : decide ((k : Int) < (y.length : Int)) = true := decide_eq_true hki
      obtain ⟨bk, off, rfl, hx⟩ := hread.out wr hB k hlt
      have Hs := Lib.hid (runsG_succ y k)
      have hln := runsG_len y k
      have Hk := Lib.hid hlt
      have hk9 : k ≤ 1000000 := by omega
      have hm : (runsG y k).length + 1 ≤ maxLen := by unfold maxLen; omega
      have hk8 : ((runsG y k).length + 1) * 8 ≤ 140737488355328 := by omega
      have hbs : w.heap.size ≤ (wr.alloc (.cells #[.int .i64 k] 3)).heap.size := by have := hB.size; simp; omega
      have hrow2 := hrow.alloc (.cells #[.int .i64 k] 3)
      have hB2 := below_trans hB (below_alloc wr (.cells #[.int .i64 k] 3))
      have kc := cell_one_new wr 3 (.int .i64 k)
      by_cases h0 : k = 0
      · have kz : ((k : Int) == 0) = true := beq_iff_eq.2 (by omega)
        have hq : begB y k = true := by rw [begB, h0]; rfl
        rw [hq] at Hs
        have hw1 := wrap64_succ k hk9
        clear hln hlt hk h0 hq
        generalize atB y k = a0 at *
        generalize runsG y k = rk at *
        go_wp2_with (at_builtin; refine wpList_append_own _ rfl _ _ 29 rfl w.heap.size 3 i0 (.int .i64 0) 1 8 Tryd.underlying29 hi hz0 hz1 hz2 rfl (by decide) _ _ _ rfl hrow2 ⟨wr.heap.size, 0, none⟩ 1 1 [.int .i64 k] rfl rfl kc (by simp [Value.oneCell']) hm hk8 hbs ?_; intro v' w4 hown' hgrow _)
        have hB4 := hB2.trans (below_grown hrow2 hgrow hbs (Nat.le_refl _))
        go_roundw
        case rel => exact ⟨k + 1, Hk.out, by go_num, by rw [Hs.out]; simpa using hown', hB4⟩
        case measure => have := Hk.out; simp [intOf]; omega
      · have kz : ((k : Int) == 0) = false := by rw [beq_eq_false_iff_ne]; omega
        obtain ⟨bk2, off2, e, hx2⟩ := hread.out wr hB (k - 1) (by omega)
        cases e
        have hbg := begB_pos y k (by omega)
        have m1 : (0 : Int) ≤ (k : Int) - 1 := by omega
        have m2 : (k : Int) - 1 < (y.length : Int) := by omega
        have m3 : ((k : Int) - 1).toNat = k - 1 := by omega
        have m4 : wrap64 ((k : Int) - 1) = (k : Int) - 1 := wrap64_small _ (by omega) (by omega)
        have hw1 := wrap64_succ k hk9
        clear hln hlt hk
        cases hq : begB y k with
        | true =>
          rw [hq] at hbg
          replace hbg : (((atB y k).toNat : Int) != ((atB y (k - 1)).toNat : Int)) = true := hbg.symm
          rw [hq] at Hs
          generalize atB y k = a0 at *
          generalize atB y (k - 1) = a1 at *
          generalize runsG y k = rk at *
          go_wp2_with (at_builtin; refine wpList_append_own _ rfl _ _ 29 rfl w.heap.size 3 i0 (.int .i64 0) 1 8 Tryd.underlying29 hi hz0 hz1 hz2 rfl (by decide) _ _ _ rfl hrow2 ⟨wr.heap.size, 0, none⟩ 1 1 [.int .i64 k] rfl rfl kc (by simp [Value.oneCell']) hm hk8 hbs ?_; intro v' w4 hown' hgrow _)
          have hB4 := hB2.trans (below_grown hrow2 hgrow hbs (Nat.le_refl _))
          go_roundw
          case rel => exact ⟨k + 1, Hk.out, by go_num, by rw [Hs.out]; simpa using hown', hB4⟩
          case measure => have := Hk.out; simp [intOf]; omega
        | false =>
          rw [hq] at hbg
          replace hbg : (((atB y k).toNat : Int) != ((atB y (k - 1)).toNat : Int)) = false := hbg.symm
          rw [hq] at Hs
          generalize atB y k = a0 at *
          generalize atB y (k - 1) = a1 at *
          generalize runsG y k = rk at *
          go_wp2_with fail
          go_roundw
          case rel => exact ⟨k + 1, Hk.out, by go_num, by rw [Hs.out]; simpa using hrow, hB⟩
          case measure => have := Hk.out; simp [intOf]; omega
    · obtain rfl : k = y.length := by omega
      have hkd : decide ((y.length : Int) < (y.length : Int)) = false := decide_eq_false (by omega)
      have hsl := Sl.of_own (enc := eI) hrow
      obtain ⟨Ao, co, e⟩ := hsl.len
      subst e
      clear hrow hk hlt
      go_wp2_with fail
      go_ret
      exact ⟨_, rfl, hsl, hB⟩
end Go.Proofs.YtpjpfgahjalggaaDoor
