/- Contracts of helixref15.fits, By, Find, Swap. -/
import Derived.Test.YtmdpodgodhkjdaaDoorSwI
import Derived.Test.YtmdpodgodhkjdaaDoorRcA
import Derived.Deep.CutRange
namespace Go.Proofs.YtmdpodgodhkjdaaDoor
open Go.RowKit Go.Shelf
attribute [local go_sem] Oper.semAt_some run_store_func

theorem rfits_any (sv : Value) (y : List UInt8) (hreach : y.length ≤ 1000000) (w : World) (hS : Sl eB w.heap.size w sv y) :
    Calls Tryd.prog 49 #[sv] w fun e w' => e = .returned (.int .i64 (match sumsG y with | .error m => m | .ok _ => 0)) ∧ w = w' := by
  have hV := rValid_any sv y hreach w hS
  obtain ⟨A, cap, rfl⟩ := hS.len
  rcases sums_cases y with ⟨hm, e⟩ | ⟨h2, h1, h4, e⟩ | ⟨h2, h1, h4, e⟩
  · rw [e]
    have ht : (decide ((y.length : Int) < 2) = true) ∨ (decide ((y.length : Int) < 2) = false ∧ decide ((1000 : Int) < y.length) = true) := by
      unfold mayB at hm
      by_cases h : (y.length : Int) < 2
      · exact .inl (decide_eq_true h)
      · refine .inr ⟨decide_eq_false h, decide_eq_true ?_⟩
        rw [decide_eq_true (by omega), Bool.true_and] at hm
        have := of_decide_eq_false hm
        omega
    clear hm e hS hV
    rcases ht with d1 | ⟨d1, d2⟩
    all_goals
      go_enter Tryd.func49, Tryd.ntmps49
      go_wp2_with fail
      go_ret
      exact ⟨rfl, rfl⟩
  · rw [e]
    have d1 : decide ((y.length : Int) < 2) = false := decide_eq_false (by omega)
    have d2 : decide ((1000 : Int) < (y.length : Int)) = false := decide_eq_false (by omega)
    rw [decide_eq_false (show ¬ ∀ k, k < y.length → codeOf (atB y k).toNat ≠ -1 from h4)] at hV
    clear e hS h4
    go_enter Tryd.func49, Tryd.ntmps49
    go_wp2_with (go_at_call 53; refine hV.mono ?_; rintro e w' ⟨rfl, rfl⟩)
    go_ret
    exact ⟨rfl, rfl⟩
  · rw [e]
    have d1 : decide ((y.length : Int) < 2) = false := decide_eq_false (by omega)
    have d2 : decide ((1000 : Int) < (y.length : Int)) = false := decide_eq_false (by omega)
    rw [decide_eq_true (show ∀ k, k < y.length → codeOf (atB y k).toNat ≠ -1 from h4)] at hV
    clear e hS h4
    go_enter Tryd.func49, Tryd.ntmps49
    go_wp2_with (go_at_call 53; refine hV.mono ?_; rintro e w' ⟨rfl, rfl⟩)
    go_ret
    exact ⟨rfl, rfl⟩
set_option maxRecDepth 100000 in
set_option maxHeartbeats 2000000 in
theorem rBy_out (y : List UInt8) (z : Int) (c : UInt8) (h : y.length < 2 ∨ 1000 < y.length ∨ z < 0 ∨ (y.length : Int) ≤ z) (A : Option Addr) (cap : Nat) (w : World) :
    Calls Tryd.prog 30 #[.slice A y.length cap, .int .i64 z, eB c] w fun e w' => e = .returned (.tuple #[.slice none 0 0, .int .i64 2]) ∧ w = w' := by
  have hd : decide ((y.length : Int) < 2) = true ∨ (decide ((y.length : Int) < 2) = false ∧ decide ((1000 : Int) < (y.length : Int)) = true) ∨ (decide ((y.length : Int) < 2) = false ∧ decide ((1000 : Int) < (y.length : Int)) = false ∧ decide (z < 0) = true) ∨ (decide ((y.length : Int) < 2) = false ∧ decide ((1000 : Int) < (y.length : Int)) = false ∧ decide (z < 0) = false ∧ decide ((y.length : Int) ≤ z) = true) := by
    by_cases h0 : y.length < 2
    · exact .inl (decide_eq_true (by omega))
    · by_cases h1 : 1000 < y.length
      · exact .inr (.inl ⟨decide_eq_false (by omega), decide_eq_true (by omega)⟩)
      · by_cases h2 : z < 0
        · exact .inr (.inr (.inl ⟨decide_eq_false (by omega), decide_eq_false (by omega), decide_eq_true h2⟩))
        · exact .inr (.inr (.inr ⟨decide_eq_false (by omega), decide_eq_false (by omega), decide_eq_false h2, decide_eq_true (by omega)⟩))
  clear h
  rcases hd with d1 | ⟨d1, d2⟩ | ⟨d1, d2, d3⟩ | ⟨d1, d2, d3, d4⟩
  all_goals
    go_enter Tryd.func30, Tryd.ntmps30
    go_wp2_with fail
    go_ret2
    exact ⟨rfl, rfl⟩
set_option maxRecDepth 100000 in
set_option maxHeartbeats 4000000 in
theorem rBy_any (y : List UInt8) (z : Int) (c : UInt8) (sv : Value) (w : World) (hS : Sl eB w.heap.size w sv y) (hreach : y.length ≤ 1000000) :
    Calls Tryd.prog 30 #[sv, .int .i64 z, eB c] w (ByTells y z c w) := by
  obtain ⟨i0, hi, hz0, hz1, hz2⟩ := info_parts info_u8
  have hV := fun w h => rValid_any sv y hreach w h
  have hC := fun w => refCode_any c w
  obtain ⟨A, cap, rfl⟩ := hS.len
  by_cases h : y.length < 2 ∨ 1000 < y.length ∨ z < 0 ∨ (y.length : Int) ≤ z
  · refine (rBy_out y z c h A cap w).mono ?_
    rintro e w' ⟨rfl, rfl⟩
    refine ⟨Below.refl _ _, .inr ⟨2, ?_, rfl⟩⟩
    by_cases h' : 1000 < y.length ∨ z < 0 ∨ (y.length : Int) ≤ z
    · rw [byG, if_pos h']
    · rw [byG, if_neg h']
      rcases sums_cases y with ⟨_, e⟩ | ⟨h2, _, _, _⟩ | ⟨h2, _, _, _⟩
      · rw [e]
      · omega
      · omega
  obtain ⟨p, rfl⟩ : ∃ p : Nat, z = p := ⟨z.toNat, by omega⟩
  have hp : p < y.length := by omega
  have d1 : decide ((y.length : Int) < 2) = false := decide_eq_false (by omega)
  have d2 : decide ((1000 : Int) < (y.length : Int)) = false := decide_eq_false (by omega)
  have d3 : decide ((p : Int) < 0) = false := decide_eq_false (by omega)
  have d4 : decide ((y.length : Int) ≤ (p : Int)) = false := decide_eq_false (by omega)
  have hpl : (p : Int) < y.length := by omega
  have hlen : 2 ≤ y.length ∧ y.length ≤ 1000 := by omega
  have hV := hV w hS
  by_cases h4 : FourL y
  · rw [decide_eq_true (show ∀ k, k < y.length → codeOf (atB y k).toNat ≠ -1 from h4)] at hV
    by_cases hc : codeOf c.toNat = -1
    · have Hg := Lib.hid (show byG y p c = .error 10 by
        rw [byG, if_neg (by omega), four_sums y hlen.1 hlen.2 h4]
        simp only [if_pos hc])
      simp only [if_pos hc] at hC
      clear h h4 hc hp hlen
      go_enter Tryd.func30, Tryd.ntmps30
      go_wp2_with (first
        | (go_at_call 37; refine (hC _).mono ?_; rintro e w' ⟨rfl, rfl⟩)
        | (go_at_call 53; refine hV.mono ?_; rintro e w' ⟨rfl, rfl⟩))
      go_ret2
      exact ⟨Below.refl _ _, .inr ⟨10, Hg.out, rfl⟩⟩
    · have Hg := Lib.hid (byG_ok y p c hlen.1 hlen.2 h4 hp hc)
      simp only [if_neg hc] at hC
      have Hp := Lib.hid hp
      have Hl := Lib.hid hlen
      have hrow0 := row_made w
      have hA1 := below_alloc w (.cells #[] 5)
      generalize codeOf c.toNat = q at *
      clear h h4 hc hp hlen
      go_enter Tryd.func30, Tryd.ntmps30
      go_upto_region 6 with (first
        | (go_at_call 37; refine (hC _).mono ?_; rintro e w' ⟨rfl, rfl⟩)
        | (go_at_call 53; refine hV.mono ?_; rintro e w' ⟨rfl, rfl⟩))
      go_wp2_with
        (at_builtin
         refine wpList_append_sl _ rfl (.tmp 41) (.tmp 42) _ rfl w.heap.size 5 i0 (.int .u8 0) 1 Tryd.underlying22 hi hz0 hz1 hz2 rfl _ 0 [] hrow0 rfl w.heap.size (.slice A y.length cap) y (hS.below hA1) rfl (fun _ => rfl) (by unfold maxLen; have := Hl.out; omega) (by have := Hl.out; omega) (by simp) ?_
         intro v1 w2 hown1 hg1 hat1
         have hB2 := hA1.trans (below_grown hrow0 hg1 (by simp) (Nat.le_refl _))
         obtain ⟨g, cap1, rfl, hgB, hgl, hput⟩ := own_put (show w2.ownsRow w.heap.size 5 1 v1 y.length (y.map eB) by simpa using hown1) p c Hp.out
         obtain ⟨⟨x0, hc0⟩, hf0, hsl⟩ := hput w2 rfl
         have hzs := hsl w2.heap.size hgl
         have hBs := hB2.setCell (p := ⟨g, p, none⟩) hgB (eB c)
         clear hput hsl hown1 hg1 hat1)
      go_ret2
      exact ⟨hBs, .inl ⟨y.set p c, _, Hg.out, rfl, by simpa using hzs⟩⟩
  · rw [decide_eq_false (show ¬ ∀ k, k < y.length → codeOf (atB y k).toNat ≠ -1 from h4)] at hV
    have Hg := Lib.hid (show byG y p c = .error 10 by
      rw [byG, if_neg (by omega)]
      rcases sums_cases y with ⟨hm, _⟩ | ⟨_, _, _, e⟩ | ⟨_, _, h4', _⟩
      · exfalso
        unfold mayB at hm
        rw [decide_eq_true (by omega), decide_eq_true (by omega)] at hm
        cases hm
      · rw [e]
      · exact absurd h4' h4)
    clear h h4 hp hlen
    generalize (if codeOf c.toNat = -1 then (0 : Int) else codeOf c.toNat) = q at *
    generalize (if codeOf c.toNat = -1 then (10 : Int) else 0) = q2 at *
    go_enter Tryd.func30, Tryd.ntmps30
    go_wp2_with (first
      | (go_at_call 37; refine (hC _).mono ?_; rintro e w' ⟨rfl, rfl⟩)
      | (go_at_call 53; refine hV.mono ?_; rintro e w' ⟨rfl, rfl⟩))
    go_ret2
    exact ⟨Below.refl _ _, .inr ⟨10, Hg.out, rfl⟩⟩
end Go.Proofs.YtmdpodgodhkjdaaDoor
