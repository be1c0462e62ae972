/- Contracts of helixref14.Runs, Without. -/
import Derived.Test.YtpjpfgahjalggaaDoorExH
import Derived.Test.YtpjpfgahjalggaaDoorSA
import Derived.Deep.CutRange
namespace Go.Proofs.YtpjpfgahjalggaaDoor
open Go.RowKit Go.Shelf
attribute [local go_sem] Oper.semAt_some run_store_func

set_option maxRecDepth 100000 in
set_option maxHeartbeats 2000000 in
theorem rRuns_any (sv : Value) (y : List UInt8) (hreach : y.length ≤ 1000000) (w : World) (hS : Sl eB w.heap.size w sv y) :
    Calls Tryd.prog 11 #[sv] w fun e w' => ∃ v, e = .returned v ∧ Sl eI w'.heap.size w' v (runsG y y.length) ∧ Below w.heap.size w w' := by
  obtain ⟨i0, hi, hz0, hz1, hz2⟩ := info_parts info_int
  obtain ⟨A, cap, rfl⟩ := hS.len
  have hread : Hid (∀ W', Below w.heap.size w W' → ∀ i, i < y.length → ∃ bk off, A = some ⟨bk, off, none⟩ ∧ W'.cell? ⟨bk, off + i, none⟩ = some (eB (atB y i))) := Lib.hid (by
    intro W' hB i hi
    obtain ⟨A', c', e, hc, hcs⟩ := hS
    injection e with e1 e2 e3
    subst e1 e3
    obtain ⟨bk, off, rfl, hb, hcell⟩ := hcs (by omega)
    exact ⟨bk, off, rfl, (hB.cell (p := ⟨bk, off + i, none⟩) hb).trans (hcell i _ (atB_lt hi))⟩)
  clear hS
  go_enter Tryd.func11, Tryd.ntmps11
  go_wp2_with fail
  go_loopw [3, 4] (fun v i wr => ∃ k : Nat, k ≤ y.length ∧ i = .int .i64 k ∧ wr.ownsRow w.heap.size 3 1 v (runsG y k).length ((runsG y k).map eI) ∧ Below w.heap.size w wr) (fun _ i _ => y.length - (intOf i).toNat)
  case atStart => exact ⟨0, Nat.zero_le _, rfl, World.ownsRow_nil _ _ _ _, Below.refl _ _⟩
  case round =>
    obtain ⟨k, hk, rfl, hrow, hB⟩ := hrel
    by_cases hlt : k < y.length
    · have hki : (k : Int) < (y.length : Int) := by omega
      have hkd : decide ((k : Int) < (y.length : Int)) = true := decide_eq_true hki
      obtain ⟨bk, off, rfl, hx⟩ := hread.out wr hB k hlt
      have Hs := Lib.hid (runsG_succ y k)
      have hln := runsG_len y k
      have Hk := Lib.hid hlt
      have hk9 : k ≤ 1000000 := by omega
      have hm : (runsG y k).length + 1 ≤ maxLen := by unfold maxLen; omega
      have hk8 : ((runsG y k).length + 1) * 8 ≤ 140737488355328 := by omega
      have hbs : ∀ nq, w.heap.size ≤ ((wr.drewN nq).alloc (.cells #[.int .i64 k] 3)).heap.size := fun nq => by have := hB.size; simp [World.drewN]; omega
      have hrow2 := fun nq => (show (wr.drewN nq).ownsRow w.heap.size 3 1 _ _ _ from hrow).alloc (.cells #[.int .i64 k] 3)
      have hB2 := fun nq => below_trans (below_trans hB (show Below wr.heap.size wr (wr.drewN nq) from ⟨rfl, rfl, rfl, Nat.le_refl _, fun _ _ => rfl⟩)) (below_alloc (wr.drewN nq) (.cells #[.int .i64 k] 3))
      have kc := fun nq => cell_one_new (wr.drewN nq) 3 (.int .i64 k)
      by_cases h0 : k = 0
      · have kz : ((k : Int) == 0) = true := beq_iff_eq.2 (by omega)
        have hq : begB y k = true := by rw [begB, h0]; rfl
        rw [hq] at Hs
        have hw1 := wrap64_succ k hk9
        clear hln hlt hk h0 hq
        generalize atB y k = a0 at *
        generalize runsG y k = rk at *
        go_wp2_with fail
        go_quiet (fail)
        go_wp2_with (at_builtin; refine wpList_append_own _ rfl _ _ 29 rfl w.heap.size 3 i0 (.int .i64 0) 1 8 Tryd.underlying29 hi hz0 hz1 hz2 rfl (by decide) _ _ _ rfl (hrow2 nq) ⟨wr.heap.size, 0, none⟩ 1 1 [.int .i64 k] rfl rfl (kc nq) (by simp [Value.oneCell']) hm hk8 (hbs nq) ?_; intro v' w4 hown' hgrow _)
        have hB4 := (hB2 nq).trans (below_grown (hrow2 nq) hgrow (hbs nq) (Nat.le_refl _))
        go_roundw
        case rel => exact ⟨k + 1, Hk.out, by go_num, by rw [Hs.out]; simpa using hown', hB4⟩
        case measure => have := Hk.out; simp [intOf]; omega
      · have kz : ((k : Int) == 0) = false := by rw [beq_eq_false_iff_ne]; omega
        obtain ⟨bk2, off2, e, hx2⟩ := hread.out wr hB (k - 1) (by omega)
        cases e
        have hbg := begB_pos y k (by omega)
        have m1 : (0 : Int) ≤ (k : Int) - 1 := by omega
        have m2 : (k : Int) - 1 < (y.length : Int) := by omega
        have m3 : ((k : Int) - 1).toNat = k - 1 := by omega
        have m4 : wrap64 ((k : Int) - 1) = (k : Int) - 1 := wrap64_small _ (by omega) (by omega)
        have hw1 := wrap64_succ k hk9
        clear hln hlt hk
        cases hq : begB y k with
        | true =>
          rw [hq] at hbg
          replace hbg : (((atB y k).toNat : Int) != ((atB y (k - 1)).toNat : Int)) = true := hbg.symm
          rw [hq] at Hs
          generalize atB y k = a0 at *
          generalize atB y (k - 1) = a1 at *
          generalize runsG y k = rk at *
          go_wp2_with fail
          go_quiet (fail)
          go_wp2_with (at_builtin; refine wpList_append_own _ rfl _ _ 29 rfl w.heap.size 3 i0 (.int .i64 0) 1 8 Tryd.underlying29 hi hz0 hz1 hz2 rfl (by decide) _ _ _ rfl (hrow2 nq) ⟨wr.heap.size, 0, none⟩ 1 1 [.int .i64 k] rfl rfl (kc nq) (by simp [Value.oneCell']) hm hk8 (hbs nq) ?_; intro v' w4 hown' hgrow _)
          have hB4 := (hB2 nq).trans (below_grown (hrow2 nq) hgrow (hbs nq) (Nat.le_refl _))
          go_roundw
          case rel => exact ⟨k + 1, Hk.out, by go_num, by rw [Hs.out]; simpa using hown', hB4⟩
          case measure => have := Hk.out; simp [intOf]; omega
        | false =>
          rw [hq] at hbg
          replace hbg : (((atB y k).toNat : Int) != ((atB y (k - 1)).toNat : Int)) = false := hbg.symm
          rw [hq] at Hs
          generalize atB y k = a0 at *
          generalize atB y (k - 1) = a1 at *
          generalize runsG y k = rk at *
          go_wp2_with fail
          go_quiet (fail)
          go_wp2_with fail
          go_roundw
          case rel => exact ⟨k + 1, Hk.out, by go_num, by rw [Hs.out]; exact hrow, below_trans hB ⟨rfl, rfl, rfl, Nat.le_refl _, fun _ _ => rfl⟩⟩
          case measure => have := Hk.out; simp [intOf]; omega
    · obtain rfl : k = y.length := by omega
      have hkd : decide ((y.length : Int) < (y.length : Int)) = false := decide_eq_false (by omega)
      have hsl := Sl.of_own (enc := eI) hrow
      obtain ⟨Ao, co, e⟩ := hsl.len
      subst e
      clear hrow hk hlt
      go_wp2_with fail
      go_ret
      exact ⟨_, rfl, hsl, hB⟩
/-- s[p:], whether anything is left of it or not. -/
theorem from_ex {B : Nat} {W : World} {bk off c p : Nat} {s : List UInt8} (h : Sl eB B W (.slice (some ⟨bk, off, none⟩) s.length c) s) (hp : p ≤ s.length) :
    (c = p → Sl eB B W (.slice (some ⟨bk, off, none⟩) (s.length - p) 0) (s.drop p)) ∧ (¬ c = p → Sl eB B W (.slice (some ⟨bk, off + p, none⟩) (s.length - p) (c - p)) (s.drop p)) := by
  refine ⟨fun e => ?_, fun e => h.from_ hp _ (fun _ => by simp [Addr.add])⟩
  have := h.from_ hp (some ⟨bk, off, none⟩) (fun hne => absurd e hne)
  rwa [e, Nat.sub_self] at this
set_option maxRecDepth 100000 in
set_option maxHeartbeats 2000000 in
theorem rWithout_any (sv : Value) (y : List UInt8) (z : Int) (hreach : y.length ≤ 1000000) (w : World) (hS : Sl eB w.heap.size w sv y) :
    Calls Tryd.prog 13 #[sv, .int .i64 z] w fun e w' => ∃ v, e = .returned v ∧ Sl eB w'.heap.size w' v (withG y z) ∧ Below w.heap.size w w' := by
  obtain ⟨i0, hi, hz0, hz1, hz2⟩ := info_parts info_u8
  by_cases h : 0 ≤ z ∧ z < y.length
  · obtain ⟨p, rfl⟩ : ∃ p : Nat, z = p := ⟨z.toNat, by omega⟩
    have hp : p < y.length := by omega
    have hg : withG y (p : Int) = delW y p := by rw [withG, if_pos h]; simp
    rw [hg]
    obtain ⟨b, off, cx, rfl, hcx, hb, hcells⟩ := sl_at hS (by omega)
    have f1 : decide ((p : Int) < 0) = false := decide_eq_false (by omega)
    have f2 : decide ((y.length : Int) ≤ (p : Int)) = false := decide_eq_false (by omega)
    have f3 : ¬ y.length ≤ p := by omega
    have hrow' : (w.alloc (.cells #[] 5)).drew.ownsRow w.heap.size 5 1 (.slice (some ⟨w.heap.size, 0, none⟩) 0 0) 0 [] := row_made w
    have hBr' : Below w.heap.size w (w.alloc (.cells #[] 5)).drew := below_trans (below_alloc w _) (below_drew_w _)
    have q1 : 0 + (y.take p).length ≤ maxLen := by unfold maxLen; simp; omega
    have q2 : (0 + (y.take p).length) * 1 ≤ 140737488355328 := by simp; omega
    have q3 : 0 + (y.take p).length + (y.drop (p + 1)).length ≤ maxLen := by unfold maxLen; simp; omega
    have q4 : (0 + (y.take p).length + (y.drop (p + 1)).length) * 1 ≤ 140737488355328 := by simp; omega
    have q5 : w.heap.size ≤ (w.alloc (.cells #[] 5)).drew.heap.size := hBr'.size
    have s1 := hS.upto (p := p) (by omega)
    have s2 := from_ex (p := p + 1) hS (by omega)
    have e2 : ((p : Int) + 1).toNat = p + 1 := by omega
    have l0 : (0 : Int) ≤ (p : Int) + 1 := by omega
    have l1 : (p : Int) ≤ cx := by omega
    have l5 : (p : Int) ≤ (p : Int) + 1 := by omega
    have l2 : (p : Int) + 1 ≤ y.length := by omega
    have hp9 : p ≤ 1000000 := by omega
    have hyl : cx = p + 1 → y.length - (p + 1) = 0 := by omega
    have e1 := wrap_succ p hp9
    have e1' := wrap64_succ p hp9
    clear hS hcells h hg
    by_cases hcp : cx = p + 1
    · subst hcp
      replace s2 := s2.1 rfl
      rw [hyl rfl] at s2
      clear hyl
      go_enter Tryd.func13, Tryd.ntmps13
      go_wp2_with fail
      go_region_law (first
        | (refine step_append_sl _ rfl (.tmp 16) (.tmp 19) _ rfl w.heap.size 5 i0 (.int .u8 0) 1 Tryd.underlying22 hi hz0 hz1 hz2 rfl _ 0 [] hrow' rfl w.heap.size _ (y.take p) (s1.below hBr') rfl (fun _ => rfl) q1 q2 q5 ?_
           intro v1 w3 hown1 hg1 hat1
           have hB2 : Below w.heap.size w w3 := hBr'.trans (below_grown hrow' hg1 q5 (Nat.le_refl _)))
        | (refine step_append_sl _ rfl (.tmp 20) (.tmp 24) _ rfl w.heap.size 5 i0 (.int .u8 0) 1 Tryd.underlying22 hi hz0 hz1 hz2 rfl _ _ _ hown1 rfl w.heap.size _ (y.drop (p + 1)) (s2.below hB2) rfl (fun _ => rfl) q3 q4 hB2.size ?_
           intro v2 w4 hown2 hg2 hat2))
      all_goals
        go_wp2_with fail
        go_ret
        exact ⟨v2, rfl, Sl.of_own (n := 0 + (y.take p).length + (y.drop (p + 1)).length) (by simpa [delW] using hown2), hB2.trans (below_grown hown1 hg2 hB2.size (Nat.le_refl _))⟩
    · replace s2 := s2.2 hcp
      clear hyl
      go_enter Tryd.func13, Tryd.ntmps13
      go_wp2_with fail
      go_region_law (first
        | (refine step_append_sl _ rfl (.tmp 16) (.tmp 19) _ rfl w.heap.size 5 i0 (.int .u8 0) 1 Tryd.underlying22 hi hz0 hz1 hz2 rfl _ 0 [] hrow' rfl w.heap.size _ (y.take p) (s1.below hBr') rfl (fun _ => rfl) q1 q2 q5 ?_
           intro v1 w3 hown1 hg1 hat1
           have hB2 : Below w.heap.size w w3 := hBr'.trans (below_grown hrow' hg1 q5 (Nat.le_refl _)))
        | (refine step_append_sl _ rfl (.tmp 20) (.tmp 24) _ rfl w.heap.size 5 i0 (.int .u8 0) 1 Tryd.underlying22 hi hz0 hz1 hz2 rfl _ _ _ hown1 rfl w.heap.size _ (y.drop (p + 1)) (s2.below hB2) rfl (fun _ => rfl) q3 q4 hB2.size ?_
           intro v2 w4 hown2 hg2 hat2))
      all_goals
        go_wp2_with fail
        go_ret
        exact ⟨v2, rfl, Sl.of_own (n := 0 + (y.take p).length + (y.drop (p + 1)).length) (by simpa [delW] using hown2), hB2.trans (below_grown hown1 hg2 hB2.size (Nat.le_refl _))⟩
  · have hg : withG y z = y := by rw [withG, if_neg h]
    rw [hg]
    have hrow := row_made w
    have hA := below_alloc w (.cells #[] 5)
    obtain ⟨A, cap, rfl⟩ := hS.len
    have hd : decide (z < 0) = true ∨ (decide (z < 0) = false ∧ decide ((y.length : Int) ≤ z) = true) := by
      by_cases h0 : z < 0
      · exact .inl (decide_eq_true h0)
      · exact .inr ⟨decide_eq_false h0, decide_eq_true (by omega)⟩
    have q1 : 0 + y.length ≤ maxLen := by unfold maxLen; omega
    have q2 : (0 + y.length) * 1 ≤ 140737488355328 := by omega
    have hSa := hS.below hA
    clear h hS hg
    rcases hd with d1 | ⟨d1, d2⟩
    all_goals
      go_enter Tryd.func13, Tryd.ntmps13
      go_wp2_with
        (at_builtin
         refine wpList_append_sl _ rfl (.tmp 13) (.tmp 14) _ rfl w.heap.size 5 i0 (.int .u8 0) 1 Tryd.underlying22 hi hz0 hz1 hz2 rfl _ 0 [] hrow rfl w.heap.size _ y hSa rfl (fun _ => rfl) q1 q2 hA.size ?_
         intro v1 w1 hown1 hg1 hat1
         have hB2 := hA.trans (below_grown hrow hg1 hA.size (Nat.le_refl _)))
      go_ret
      exact ⟨v1, rfl, Sl.of_own (n := 0 + y.length) (by simpa using hown1), hB2⟩
end Go.Proofs.YtpjpfgahjalggaaDoor
