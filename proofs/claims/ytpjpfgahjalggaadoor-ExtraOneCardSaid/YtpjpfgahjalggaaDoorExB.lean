/- Contracts of extra.Without, rest, around. -/
import Derived.Test.YtpjpfgahjalggaaDoorExA
import Derived.Test.YtpjpfgahjalggaaDoorExM
import Derived.Deep.QuietTactic
namespace Go.Proofs.YtpjpfgahjalggaaDoor
open Go.RowKit Go.Shelf
attribute [local go_sem] Oper.semAt_some run_store_func

theorem sl_at {B : Nat} {W : World} {v : Value} {x : List UInt8} (h : Sl eB B W v x) (h0 : 0 < x.length) : ∃ b off c, v = .slice (some ⟨b, off, none⟩) x.length c ∧ x.length ≤ c ∧ b < B ∧ ∀ p, p < x.length → W.cell? ⟨b, off + p, none⟩ = some (eB (atB x p)) := by
  obtain ⟨A, c, rfl, hc, hcs⟩ := h
  obtain ⟨b, off, rfl, hb, hcell⟩ := hcs h0
  refine ⟨b, off, c, rfl, hc, hb, fun p hp => hcell p _ ?_⟩
  simp [atB, hp]
theorem drewN_any (w : World) (a b : Nat) : ∃ n, (w.drewN a).drewN b = w.drewN n := ⟨a + b, by simp [World.drewN, Nat.add_assoc]⟩
/-- y without the letter at z, if there is one. -/
def withG (y : List UInt8) (z : Int) : List UInt8 := if 0 ≤ z ∧ z < y.length then delW y z.toNat else y
set_option maxRecDepth 100000 in
set_option maxHeartbeats 1000000 in
theorem Without_any (sv : Value) (y : List UInt8) (z : Int) (hreach : y.length ≤ 1000000) (w : World) (hS : Sl eB w.heap.size w sv y) :
    Calls Tryd.prog 12 #[sv, .int .i64 z] w fun e w' => ∃ v, e = .returned v ∧ Own8 w.heap.size w' v (withG y z) ∧ Below w.heap.size w w' := by
  have hCl := SClone_any sv y (by omega) w hS
  obtain ⟨A, cap, rfl⟩ := hS.len
  by_cases h : 0 ≤ z ∧ z < y.length
  · obtain ⟨p, rfl⟩ : ∃ p : Nat, z = p := ⟨z.toNat, by omega⟩
    have hp : p < y.length := by omega
    have hg : withG y (p : Int) = delW y p := by rw [withG, if_pos h]; simp
    rw [hg]
    have d1 : decide ((p : Int) < 0) = false := decide_eq_false (by omega)
    have d2 : decide ((y.length : Int) ≤ (p : Int)) = false := decide_eq_false (by omega)
    have hD := fun base v w hb ho => delete_own y p hp hreach base v w hb ho
    have hwp := wrap64_succ p (by omega)
    clear h hS hg
    go_enter Tryd.func12, Tryd.ntmps12
    go_wp2_with fail
    go_at_call 19
    refine hCl.mono ?_
    rintro e w1 ⟨v1, rfl, hv, hB⟩
    have hD1 := hD w.heap.size v1 w1 hB.size hv
    obtain ⟨A1, k1, rfl⟩ := hv.sl.len
    go_wp2_with fail
    go_at_call 20
    refine hD1.mono ?_
    rintro e w2 ⟨v2, rfl, hv2, hB2⟩
    go_wp2_with fail
    go_ret
    exact ⟨v2, rfl, hv2, hB.trans hB2⟩
  · have hg : withG y z = y := by rw [withG, if_neg h]
    rw [hg]
    have hd : decide (z < 0) = true ∨ (decide (z < 0) = false ∧ decide ((y.length : Int) ≤ z) = true) := by
      by_cases h0 : z < 0
      · exact .inl (decide_eq_true h0)
      · exact .inr ⟨decide_eq_false h0, decide_eq_true (by omega)⟩
    clear h hS hg
    rcases hd with d1 | ⟨d1, d2⟩
    all_goals
      go_enter Tryd.func12, Tryd.ntmps12
      go_wp2_with fail
      go_at_call 19
      refine hCl.mono ?_
      rintro e w1 ⟨v1, rfl, hv, hB⟩
      obtain ⟨A1, k1, rfl⟩ := hv.sl.len
      go_wp2_with fail
      go_ret
      exact ⟨_, rfl, hv, hB⟩
theorem rest_is (x n : Int) (h0 : 0 < n) (hn : n ≤ 100000) : (wrap64 (x.tmod n + n)).tmod n = x % n := by
  have h1 : x.tmod n < n := Int.tmod_lt_of_pos x h0
  have h2 : -n < x.tmod n := Int.lt_tmod_of_pos x h0
  rw [wrap64_small _ (by omega) (by omega), Int.tmod_eq_emod_of_nonneg (by omega), Int.add_emod_right, Int.tmod_eq_emod]
  split
  · simp
  · rw [show ((n.natAbs : Int)) = n by omega, Int.sub_emod_right, Int.emod_emod]
set_option maxRecDepth 100000 in
theorem rest_any (x n : Int) (h0 : 0 < n) (hn : n ≤ 100000) (w : World) : Calls Tryd.prog 32 #[.int .i64 x, .int .i64 n] w fun e w' => e = .returned (.int .i64 (x % n)) ∧ w = w' := by
  have h := rest_is x n h0 hn
  have hne : ¬ n = 0 := by omega
  clear hn
  go_enter Tryd.func32, Tryd.ntmps32
  go_wp2_with fail
  go_ret
  exact ⟨by rw [← h]; rfl, rfl⟩
set_option maxRecDepth 100000 in
set_option maxHeartbeats 1000000 in
theorem around_any (sv : Value) (x : List UInt8) (p : Nat) (hp : p < x.length) (hreach : x.length ≤ 1000) (w : World) (hS : Sl eB w.heap.size w sv x) :
    Calls Tryd.prog 31 #[sv, .int .i64 p] w fun e w' => e = .returned (.int .i64 (arG x p)) ∧ ∃ n, w' = w.drewN n := by
  obtain ⟨b, off, c, rfl, hc, hb, hcell⟩ := sl_at hS (by omega)
  have H := Lib.hid (show arG x p = (p : Int) * ro x p + (if p + 1 < x.length then ((p : Int) + 1) * ro x (p + 1) else 0) from rfl)
  have k0 := hcell p hp
  have hpi : (p : Int) < x.length := by omega
  have hw1 := wrap64_succ p (by omega)
  have hw2 := wrap_succ p (by omega)
  have hw3 : wrap64 ((p : Int) + ((p : Int) + 1)) = (p : Int) + ((p : Int) + 1) := wrap64_small _ (by omega) (by omega)
  have tn : ((p : Int) + 1).toNat = p + 1 := by omega
  clear hS
  have hq : ∀ nq j v, w.cell? ⟨b, off + j, none⟩ = some v → (w.drewN nq).cell? ⟨b, off + j, none⟩ = some v := fun _ _ _ h => h
  obtain ⟨c2, hc2⟩ : ∃ c2, decide ((atB x p).toNat ≤ (atB x (p + 1)).toNat) = c2 := ⟨_, rfl⟩
  have hr2 : ro x (p + 1) = if c2 then 1 else 0 := by
    rw [ro_pos x (p + 1) (by omega), ← hc2, Nat.add_sub_cancel]
    simp
  have hd : (p + 1 < x.length ∧ decide ((p : Int) + 1 < (x.length : Int)) = true) ∨ (¬ p + 1 < x.length ∧ decide ((p : Int) + 1 < (x.length : Int)) = false) := by
    by_cases h1 : p + 1 < x.length
    · exact .inl ⟨h1, decide_eq_true (by omega)⟩
    · exact .inr ⟨h1, decide_eq_false (by omega)⟩
  have l0 : (0 : Int) ≤ (p : Int) + 1 := by omega
  by_cases h0 : p = 0
  · have hp0 : decide (0 < p) = false := decide_eq_false (by omega)
    have hz : ro x p = 0 := by rw [h0]; exact ro_zero x
    rcases hd with ⟨h1, d2⟩ | ⟨h1, d2⟩
    · have k2 := hcell (p + 1) h1
      have hpi2 : (p : Int) + 1 < x.length := by omega
      have Hr := Lib.hid (show arG x p = if c2 then (p : Int) + 1 else 0 by rw [H.out, hz, hr2, if_pos h1]; cases c2 <;> simp)
      clear hcell hr2 h1 h0 hz H
      generalize atB x p = a0 at *
      generalize atB x (p + 1) = a1 at *
      cases c2
      all_goals
        go_enter Tryd.func31, Tryd.ntmps31
        go_wp2_with fail
        go_quiet (fail)
        have k0 := hq nq _ _ k0
        have k2 := hq nq _ _ k2
        clear hq
        go_wp2_with fail
        go_quiet (fail)
        go_wp2_with fail
        go_ret
        exact ⟨by rw [Hr.out]; rfl, by first | exact ⟨_, rfl⟩ | exact drewN_any _ _ _⟩
    · have Hr := Lib.hid (show arG x p = 0 by rw [H.out, hz, if_neg h1]; simp)
      clear hcell hr2 h1 h0 hz H hc2
      generalize atB x p = a0 at *
      go_enter Tryd.func31, Tryd.ntmps31
      go_wp2_with fail
      go_quiet (fail)
      have k0 := hq nq _ _ k0
      clear hq
      go_wp2_with fail
      go_quiet (fail)
      go_wp2_with fail
      go_ret
      exact ⟨by rw [Hr.out]; rfl, by first | exact ⟨_, rfl⟩ | exact drewN_any _ _ _⟩
  · have hp0 : decide (0 < p) = true := decide_eq_true (by omega)
    obtain ⟨c1, hc1⟩ : ∃ c1, decide ((atB x (p - 1)).toNat ≤ (atB x p).toNat) = c1 := ⟨_, rfl⟩
    have hr1 : ro x p = if c1 then 1 else 0 := by
      rw [ro_pos x p (by omega), ← hc1]
      simp
    have k1 := hcell (p - 1) (by omega)
    have m0 : (0 : Int) ≤ (p : Int) - 1 := by omega
    have m1 : (p : Int) - 1 < x.length := by omega
    have m2 : ((p : Int) - 1).toNat = p - 1 := by omega
    have m3 : IntKind.i64.wrap ((p : Int) - 1) = (p : Int) - 1 := wrap_small _ (by omega) (by omega)
    have m4 : wrap64 ((p : Int) - 1) = (p : Int) - 1 := wrap64_small _ (by omega) (by omega)
    rcases hd with ⟨h1, d2⟩ | ⟨h1, d2⟩
    · have k2 := hcell (p + 1) h1
      have hpi2 : (p : Int) + 1 < x.length := by omega
      have Hr := Lib.hid (show arG x p = (if c1 then (p : Int) else 0) + (if c2 then (p : Int) + 1 else 0) by rw [H.out, hr1, hr2, if_pos h1]; cases c1 <;> cases c2 <;> simp)
      clear hcell hr2 hr1 h1 h0 H
      generalize atB x p = a0 at *
      generalize atB x (p + 1) = a1 at *
      generalize atB x (p - 1) = a2 at *
      cases c1 <;> cases c2
      all_goals
        go_enter Tryd.func31, Tryd.ntmps31
        go_wp2_with fail
        go_quiet (fail)
        have k0 := hq nq _ _ k0
        have k2 := hq nq _ _ k2
        clear hq
        go_wp2_with fail
        go_quiet (fail)
        go_wp2_with fail
        go_ret
        exact ⟨by rw [Hr.out]; simp, by first | exact ⟨_, rfl⟩ | exact drewN_any _ _ _⟩
    · have Hr := Lib.hid (show arG x p = if c1 then (p : Int) else 0 by rw [H.out, hr1, if_neg h1]; cases c1 <;> simp)
      clear hcell hr2 hr1 h1 h0 H hc2
      generalize atB x p = a0 at *
      generalize atB x (p - 1) = a2 at *
      cases c1
      all_goals
        go_enter Tryd.func31, Tryd.ntmps31
        go_wp2_with fail
        go_quiet (fail)
        have k0 := hq nq _ _ k0
        clear hq
        go_wp2_with fail
        go_quiet (fail)
        go_wp2_with fail
        go_ret
        exact ⟨by rw [Hr.out]; simp, by first | exact ⟨_, rfl⟩ | exact drewN_any _ _ _⟩
end Go.Proofs.YtpjpfgahjalggaaDoor
