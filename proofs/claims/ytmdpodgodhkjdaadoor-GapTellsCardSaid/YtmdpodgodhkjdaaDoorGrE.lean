/- GapTells. -/
import Derived.Test.YtmdpodgodhkjdaaDoorGrD
namespace Go.Proofs.YtmdpodgodhkjdaaDoor
open Go.RowKit Go.Shelf
attribute [local go_sem] Oper.semAt_some run_store_func

theorem sl_nilI (B : Nat) (w : World) : Sl eI B w (.slice none 0 0) [] := ⟨none, 0, rfl, Nat.le_refl _, fun h => absurd h (by simp)⟩
/-- One answer of both. -/
theorem miss_both (y : List UInt8) (s : Int) (hreach : y.length ≤ 1000000) : ∃ (c : UInt8) (m : Int),
    (∀ v w, Tab w → Sl eB w.heap.size w v y → Calls Tryd.prog 14 #[v, .int .i64 s] w fun e w' => e = .returned (.tuple #[eB c, .int .i64 m]) ∧ Below w.heap.size w w') ∧
    ∀ v w, Sl eB w.heap.size w v y → Calls Tryd.prog 15 #[v, .int .i64 s] w fun e w' => e = .returned (.tuple #[eB c, .int .i64 m]) ∧ w = w' := by
  rcases fits_cases y with ⟨_, e⟩ | ⟨_, _, _, e⟩ | ⟨h1, h9, h4, e⟩
  · exact ⟨0, 2, fun v w hT hS => Missing_not y s 2 e hreach v w hT hS, fun v w hS => rMissing_not y s 2 (by decide) e hreach v w hS⟩
  · exact ⟨0, 10, fun v w hT hS => Missing_not y s 10 e hreach v w hT hS, fun v w hS => rMissing_not y s 10 (by decide) e hreach v w hS⟩
  · exact ⟨missL y s, 0, fun v w hT hS => Missing_yes y s e hreach v w hT hS, fun v w hS => rMissing_yes y s e h4 h9 v w hS⟩
theorem rises_both (y : List UInt8) (c : UInt8) (hreach : y.length ≤ 1000000) : ∃ (r : List Int) (m : Int), r.length ≤ y.length + 1 ∧
    (∀ v w, Tab w → Sl eB w.heap.size w v y → Calls Tryd.prog 16 #[v, eB c] w fun e w' => ∃ u, e = .returned (.tuple #[u, .int .i64 m]) ∧ Sl eI w'.heap.size w' u r ∧ Below w.heap.size w w') ∧
    ∀ v w, Sl eB w.heap.size w v y → Calls Tryd.prog 17 #[v, eB c] w fun e w' => ∃ u, e = .returned (.tuple #[u, .int .i64 m]) ∧ Sl eI w'.heap.size w' u r ∧ Below w.heap.size w w' := by
  have hno : ∀ m, risesG y c = .error m → ∃ (r : List Int) (m : Int), r.length ≤ y.length + 1 ∧
      (∀ v w, Tab w → Sl eB w.heap.size w v y → Calls Tryd.prog 16 #[v, eB c] w fun e w' => ∃ u, e = .returned (.tuple #[u, .int .i64 m]) ∧ Sl eI w'.heap.size w' u r ∧ Below w.heap.size w w') ∧
      ∀ v w, Sl eB w.heap.size w v y → Calls Tryd.prog 17 #[v, eB c] w fun e w' => ∃ u, e = .returned (.tuple #[u, .int .i64 m]) ∧ Sl eI w'.heap.size w' u r ∧ Below w.heap.size w w' := by
    intro m h
    refine ⟨[], m, by simp, fun v w hT hS => (GRises_no y c m h hreach v w hT hS).mono ?_, fun v w hS => (rRises_no y c m h hreach v w hS).mono ?_⟩
    · rintro e w' ⟨rfl, hB⟩
      exact ⟨_, rfl, sl_nilI _ _, hB⟩
    · rintro e w' ⟨rfl, rfl⟩
      exact ⟨_, rfl, sl_nilI _ _, Below.refl _ _⟩
  rcases fits_cases y with ⟨_, e⟩ | ⟨_, _, _, e⟩ | ⟨h1, h9, h4, e⟩
  · exact hno 2 (by rw [risesG, e])
  · exact hno 10 (by rw [risesG, e])
  · by_cases hc : codeOf c.toNat = -1
    · exact hno 10 (by rw [risesG, e]; simp only [if_pos hc])
    · exact ⟨_, 0, by simp, fun v w hT hS => GRises_yes y c _ (rises_four y c h1 h9 h4 hc) hreach v w hT hS, fun v w hS => rRises_yes y c h1 h9 h4 hc v w hS⟩
theorem gap_both (y : List UInt8) (t s : Int) (hreach : y.length ≤ 1000000) : ∃ (r : List UInt8) (m : Int),
    (∀ v w, Tab w → Sl eB w.heap.size w v y → Calls Tryd.prog 18 #[v, .int .i64 t, .int .i64 s] w fun e w' => ∃ u, e = .returned (.tuple #[u, .int .i64 m]) ∧ Sl eB w'.heap.size w' u r ∧ Below w.heap.size w w') ∧
    ∀ v w, Sl eB w.heap.size w v y → Calls Tryd.prog 19 #[v, .int .i64 t, .int .i64 s] w fun e w' => ∃ u, e = .returned (.tuple #[u, .int .i64 m]) ∧ Sl eB w'.heap.size w' u r ∧ Below w.heap.size w w' := by
  cases h : gapG y t s with
  | ok r =>
    refine ⟨r, 0, fun v w hT hS => Gap_yes y t s r h (insOk_all _ _ _) hreach v w hT hS, fun v w hS => (rGap_any y t s hreach v w hS).mono ?_⟩
    rintro e w' ⟨hB, ⟨r', u, h', rfl, hu⟩ | ⟨m, h', rfl⟩⟩
    · rw [h] at h'; cases h'; exact ⟨u, rfl, hu, hB⟩
    · rw [h] at h'; cases h'
  | error m =>
    refine ⟨[], m, fun v w hT hS => (Gap_no y t s m h (insOk_all _ _ _) hreach v w hT hS).mono ?_, fun v w hS => (rGap_any y t s hreach v w hS).mono ?_⟩
    · rintro e w' ⟨rfl, hB⟩
      exact ⟨_, rfl, sl_nil _ _, hB⟩
    · rintro e w' ⟨hB, ⟨r', u, h', rfl, hu⟩ | ⟨m, h', rfl⟩⟩
      · rw [h] at h'; cases h'
      · rw [h] at h'; cases h'; exact ⟨_, rfl, sl_nil _ _, hB⟩
set_option maxRecDepth 100000 in
set_option maxHeartbeats 4000000 in
theorem GapTells_main (v0 : Value) (y : List UInt8) (c : UInt8) (t s : Int) (w : World) (hS : Sl eB w.heap.size w v0 y) (hT : Tab w) (h2 : y.length ≤ 200) :
    Calls Tryd.prog 3 #[v0, eB c, .int .i64 t, .int .i64 s] w fun e w' => e = .returned (.bool true) ∧ Below w.heap.size w w' := by
  have hw := gwakes_any
  obtain ⟨cm, m1, g1, q1⟩ := miss_both y s (by omega)
  obtain ⟨rl, m2, hrl, g2, q2⟩ := rises_both y c (by omega)
  obtain ⟨rx, m3, g3, q3⟩ := gap_both y t s (by omega)
  obtain ⟨A, cap, rfl⟩ := hS.len
  have d1 : decide ((200 : Int) < (y.length : Int)) = false := decide_eq_false (by omega)
  have hB0 := Below.refl w.heap.size w
  have Hrl := Lib.hid (show rl.length ≤ 201 by omega)
  clear h2 hrl
  go_enter Tryd.func3, Tryd.ntmps3
  go_wp2_with fail
  go_at_call 14
  refine (g1 _ _ hT hS).mono ?_
  rintro e w1 ⟨rfl, hC⟩
  have hS := hS.next hC
  have hT := hT.below hC
  have hB := below_trans hB0 hC
  clear g1 hC hB0
  go_wp2_with fail
  go_at_call 15
  refine (q1 _ _ hS).mono ?_
  rintro e w' ⟨rfl, rfl⟩
  clear q1
  go_wp2_with fail
  go_at_call 16
  refine (g2 _ _ hT hS).mono ?_
  rintro e w2 ⟨vl, rfl, hl, hC⟩
  have hS := hS.next hC
  have hT := hT.below hC
  have hB := below_trans hB hC
  obtain ⟨Al, kl, rfl⟩ := hl.len
  clear g2 hC
  go_wp2_with fail
  go_at_call 17
  refine (q2 _ _ hS).mono ?_
  rintro e w3 ⟨vm, rfl, hm, hC⟩
  have hS := hS.next hC
  have hl := hl.next hC
  have hT := hT.below hC
  have hB := below_trans hB hC
  obtain ⟨Am, km, rfl⟩ := hm.len
  clear q2 hC
  go_wp2_with fail
  go_loopw [15] (fun i wr => ∃ k : Nat, k ≤ rl.length ∧ i = .int .i64 k ∧ Below w3.heap.size w3 wr) (fun i _ => rl.length - (intOf i).toNat)
  case atStart => exact ⟨0, Nat.zero_le _, rfl, Below.refl _ _⟩
  case round =>
    obtain ⟨k, hk, rfl, hBr⟩ := hrel
    by_cases hlt : k < rl.length
    · have hki : (k : Int) < (rl.length : Int) := by omega
      have hkd : decide ((k : Int) < (rl.length : Int)) = true := decide_eq_true hki
      have hl2 := hl.next hBr
      have hm2 := hm.next hBr
      obtain ⟨Al', kl', e, _, hlc⟩ := hl2
      injection e with e1 e2 e3
      subst e1 e3
      obtain ⟨Am', km', e, _, hmc⟩ := hm2
      injection e with e1 e2 e3
      subst e1 e3
      obtain ⟨bl, ol, rfl, _, hlc⟩ := hlc (by omega)
      obtain ⟨bm, om, rfl, _, hmc⟩ := hmc (by omega)
      have k1 := hlc k _ (List.getElem?_eq_getElem hlt)
      have k2 := hmc k _ (List.getElem?_eq_getElem hlt)
      have Hk := Lib.hid hlt
      have hk9 : k ≤ 1000000 := by have := Hrl.out; omega
      have hwk := wrap64_succ k hk9
      generalize rl[k] = g at *
      clear hlc hmc hlt
      go_wp2_with fail
      go_quiet (fail)
      have hBq : Below w3.heap.size w3 (wr.drewN nq) := below_trans hBr ⟨rfl, rfl, rfl, Nat.le_refl _, fun _ _ => rfl⟩
      go_wp2_with fail
      go_roundw
      case rel => exact ⟨k + 1, by have := Hk.out; omega, by go_num, hBq⟩
      case measure => have := Hk.out; simp [intOf]; omega
    · obtain rfl : k = rl.length := by omega
      have hS := hS.next hBr
      have hT := hT.below hBr
      have hB := below_trans hB hBr
      clear hBr hl hm
      go_wp2_with fail
      go_at_call 18
      refine (g3 _ _ hT hS).mono ?_
      rintro e w4 ⟨vx, rfl, hx, hC⟩
      have hS := hS.next hC
      have hT := hT.below hC
      have hB := below_trans hB hC
      obtain ⟨Ax, kx, rfl⟩ := hx.len
      clear g3 hC
      go_wp2_with fail
      go_at_call 19
      refine (q3 _ _ hS).mono ?_
      rintro e w5 ⟨vz, rfl, hz, hC⟩
      have hx := hx.next hC
      have hT := hT.below hC
      have hB := below_trans hB hC
      obtain ⟨Az, kz, rfl⟩ := hz.len
      clear q3 hC hS
      go_wp2_with fail
      go_at_call 20
      refine (same_eq _ _ _ _ _ hx hz).mono ?_
      rintro e w' ⟨rfl, rfl⟩
      go_wp2_with fail
      go_at_call 13
      refine (hw _ hT).mono ?_
      rintro e w6 ⟨rfl, hC⟩
      go_wp2_with fail
      go_ret
      exact ⟨rfl, below_trans hB hC⟩
theorem GapTells_any (v0 : Value) (y : List UInt8) (c : UInt8) (t s : Int) (w : World) (hS : Sl eB w.heap.size w v0 y) (hT : Tab w) :
    Calls Tryd.prog 3 #[v0, eB c, .int .i64 t, .int .i64 s] w fun e w' => e = .returned (.bool true) ∧ Below w.heap.size w w' := by
  by_cases h : y.length ≤ 200
  · exact GapTells_main v0 y c t s w hS hT h
  · have hw := gwakes_any
    have d1 : decide ((200 : Int) < (y.length : Int)) = true := decide_eq_true (by omega)
    obtain ⟨A0, c0, rfl⟩ := hS.len
    clear h hS
    go_enter Tryd.func3, Tryd.ntmps3
    go_wp2_with fail
    go_at_call 13
    refine (hw _ hT).mono ?_
    rintro e w' ⟨rfl, hB⟩
    go_wp2_with fail
    go_ret
    exact ⟨rfl, hB⟩
end Go.Proofs.YtmdpodgodhkjdaaDoor
