/- PolyTells. -/
import Derived.Test.YtgidhkfmelpjfaaRfG
import Derived.Test.YtgidhkfmelpjfaaPoX0
namespace Go.Proofs.Ytgidhkfmelpjfaa
open Go.RowKit Go.Shelf
attribute [local go_sem] Oper.semAt_some

theorem div_some (p q : List UInt8) (hm : 0 < tl (C q) q.length) : ∃ Q R, DivOk p q Q R := by
  have eq1 : C (tr (C q) q.length) = C q := C_tr _ _ (fun k hk => C_big q k hk)
  have ep1 : C (tr (C p) p.length) = C p := C_tr _ _ (fun k hk => C_big p k hk)
  have lq := tr_length (C q) q.length
  have hlead : C (tr (C q) q.length) ((tr (C q) q.length).length - 1) ≠ 0 := by rw [eq1, lq]; exact tl_last _ _ hm
  obtain ⟨d, hd⟩ := div_ex 1 (C (tr (C q) q.length) ((tr (C q) q.length).length - 1)) hlead
  rw [ma_comm] at hd
  obtain ⟨N, hN⟩ : ∃ N, N = (tr (C p) p.length).length + 1 - (tr (C q) q.length).length := ⟨_, rfl⟩
  obtain ⟨Q, hQ⟩ : ∃ Q, Q = tr (dst (tr (C q) q.length) d N (C (tr (C p) p.length)) N).1 N := ⟨_, rfl⟩
  obtain ⟨R, hR⟩ : ∃ R, R = tr (dst (tr (C q) q.length) d N (C (tr (C p) p.length)) N).2 (tr (C p) p.length).length := ⟨_, rfl⟩
  obtain ⟨a, b⟩ := div_is (tr (C p) p.length) (tr (C q) q.length) Q R d N (by omega) hd hN hQ hR
  rw [ep1, eq1] at a
  exact ⟨Q, R, a, b, by rw [hQ]; exact tr_trd _ _, by rw [hR]; exact tr_trd _ _⟩
theorem divides_alike (A0 A1 : Option Addr) (c0 c1 : Nat) (p q : List UInt8) (hp : p.length ≤ 120) (hq : q.length ≤ 120) : ∃ (Q R : List UInt8) (z : Int),
    (∀ w, Sl eB w.heap.size w (.slice A0 p.length c0) p → Sl eB w.heap.size w (.slice A1 q.length c1) q → Calls Try.prog 10 #[.slice A0 p.length c0, .slice A1 q.length c1] w fun e w' => ∃ va vb, e = .returned (.tuple #[va, vb, .int .i64 z]) ∧ Sl eB w'.heap.size w' va Q ∧ Sl eB w'.heap.size w' vb R ∧ Below w.heap.size w w') ∧
    (∀ w, Sl eB w.heap.size w (.slice A0 p.length c0) p → Sl eB w.heap.size w (.slice A1 q.length c1) q → Calls Try.prog 11 #[.slice A0 p.length c0, .slice A1 q.length c1] w fun e w' => ∃ va vb, e = .returned (.tuple #[va, vb, .int .i64 z]) ∧ Sl eB w'.heap.size w' va Q ∧ Sl eB w'.heap.size w' vb R ∧ Below w.heap.size w w') := by
  by_cases hm : 0 < tl (C q) q.length
  · obtain ⟨Q, R, hd⟩ := div_some p q hm
    refine ⟨Q, R, 0, fun w h1 h2 => ?_, fun w h1 h2 => ?_⟩
    · refine (Divide_yes _ _ p q (by omega) (by omega) hm w h1 h2).mono ?_
      rintro e w' ⟨va, vb, Q', R', hd', _, rfl, h3, h4, h5⟩
      obtain ⟨rfl, rfl⟩ := div_one hd hd'
      exact ⟨va, vb, rfl, h3, h4, h5⟩
    · refine (RDivide_yes _ _ p q (by omega) (by omega) hm w h1 h2).mono ?_
      rintro e w' ⟨va, vb, Q', R', hd', rfl, h3, h4, h5⟩
      obtain ⟨rfl, rfl⟩ := div_one hd hd'
      exact ⟨va, vb, rfl, h3, h4, h5⟩
  · have hz : tr (C q) q.length = [] := List.eq_nil_of_length_eq_zero (by rw [tr_length]; omega)
    refine ⟨[], [], 30, fun w h1 h2 => ?_, fun w h1 h2 => ?_⟩
    · refine (Divide_no _ _ p q (by omega) (by omega) hz w h1 h2).mono ?_
      rintro e w' ⟨rfl, h5⟩
      exact ⟨_, _, rfl, Sl.nilB _ _, Sl.nilB _ _, h5⟩
    · refine (RDivide_no _ _ p q (by omega) (by omega) hz w h1 h2).mono ?_
      rintro e w' ⟨rfl, h5⟩
      exact ⟨_, _, rfl, Sl.nilB _ _, Sl.nilB _ _, h5⟩
theorem same_eq (sa sb : Value) (a : List UInt8) (B : Nat) (w : World) (ha : Sl eB B w sa a) (hb : Sl eB B w sb a) :
    Calls Try.prog 12 #[sa, sb] w fun e w' => e = .returned (.bool true) ∧ w = w' := by
  have h := same_any sa sb a a B w ha hb
  rwa [decide_eq_true rfl] at h

set_option maxRecDepth 100000 in
set_option maxHeartbeats 8000000 in
theorem PolyTells_any (v0 v1 : Value) (p q : List UInt8) (c x : UInt8) (n : Int) (w : World) (hP : Sl eB w.heap.size w v0 p) (hQ : Sl eB w.heap.size w v1 q) :
    Calls Try.prog 3 #[v0, v1, eB c, eB x, .int .i64 n] w fun e w' => e = .returned (.bool true) ∧ Below w.heap.size w w' := by
  obtain ⟨A0, c0, rfl⟩ := hP.len
  obtain ⟨A1, c1, rfl⟩ := hQ.len
  have hA0 := below_alloc w (.cells #[.slice A0 p.length c0, .slice A1 q.length c1] 22)
  have hr0 := Rowed.new w 22 #[.slice A0 p.length c0, .slice A1 q.length c1]
  have g0 := hr0.cell 0
  have g1 := hr0.cell 1
  have g0' : (w.alloc (.cells #[.slice A0 p.length c0, .slice A1 q.length c1] 22)).cell? ⟨w.heap.size, 0, none⟩ = some (.slice A0 p.length c0) := g0
  have g1' : (w.alloc (.cells #[.slice A0 p.length c0, .slice A1 q.length c1] 22)).cell? ⟨w.heap.size, 1, none⟩ = some (.slice A1 q.length c1) := g1
  clear g0 g1 hr0
  by_cases hbig : 120 < p.length ∨ 120 < q.length
  · have hg := great2_yes A0 A1 p.length c0 q.length c1 _ _ g0' g1' hbig
    clear g0' g1' hbig
    go_enter Try.func3, Try.ntmps3
    go_wp2_with fail
    generalize w.alloc (.cells #[.slice A0 p.length c0, .slice A1 q.length c1] 22) = w1 at *
    go_at_call 8
    refine hg.mono ?_
    rintro e w' ⟨rfl, rfl⟩
    clear hg
    go_wp2_with fail
    go_at_call 9
    refine (wakes_any _).mono ?_
    rintro e w2 ⟨rfl, hB⟩
    go_wp2
    go_ret
    exact ⟨rfl, below_trans hA0 hB⟩
  · have hg := great2_no A0 A1 p.length c0 q.length c1 _ _ g0' g1' (by omega) (by omega)
    have hp : p.length ≤ 120 := by omega
    have hq : q.length ≤ 120 := by omega
    clear g0' g1' hbig
    obtain ⟨Q, R, z, dv1, dv2⟩ := divides_alike A0 A1 c0 c1 p q hp hq
    have t1 := fun w h => Trim_any (.slice A0 p.length c0) p (by omega) w h
    have t2 := fun w h => RTrim_any (.slice A0 p.length c0) p (by omega) w h
    have a1 := fun w h1 h2 => Add_any (.slice A0 p.length c0) (.slice A1 q.length c1) p q (by omega) (by omega) w h1 h2
    have a2 := fun w h1 h2 => RAdd_any (.slice A0 p.length c0) (.slice A1 q.length c1) p q (by omega) (by omega) w h1 h2
    have m1 := fun w h1 h2 => Mul_row (.slice A0 p.length c0) (.slice A1 q.length c1) p q (by omega) (by omega) w h1 h2
    have m2 := fun w h1 h2 => RMul_any (.slice A0 p.length c0) (.slice A1 q.length c1) p q (by omega) (by omega) w h1 h2
    have s1 := fun w h => Scale_any (.slice A0 p.length c0) p c (by omega) w h
    have s2 := fun w h => RScale_any (.slice A0 p.length c0) p c (by omega) w h
    have h1 := fun w h => Shift_any (.slice A0 p.length c0) p n (by omega) w h
    have h2 := fun w h => RShift_any (.slice A0 p.length c0) p n (by omega) w h
    have e1 := fun w h => Eval_any (.slice A0 p.length c0) p x (by omega) w h
    have e2 := fun w h => REval_any (.slice A0 p.length c0) p x (by omega) w h
    have d1 := fun w h => Deriv_any (.slice A0 p.length c0) p (by omega) w h
    have d2 := fun w h => RDeriv_any (.slice A0 p.length c0) p (by omega) w h
    rw [show dvR (C p) = dv (C p) from rfl] at d2
    have r1 := fun w h => Roots_any (.slice A1 q.length c1) q (by omega) w h
    have r2 := fun w h => RRoots_any (.slice A1 q.length c1) q (by omega) w h
    generalize tr (C (shN (clampN n) p)) (shN (clampN n) p).length = X1 at *
    generalize tr (fun k => C p k ^^^ C q k) (max p.length q.length) = X2 at *
    generalize tr (PM p (C q)) (p.length + q.length) = X3 at *
    generalize tr (fun n => ma c (C p n)) (p.length + 1) = X4 at *
    generalize tr (dv (C p)) p.length = X5 at *
    generalize tr (C p) p.length = X6 at *
    generalize RT q = X7 at *
    generalize ev p x = y at *
    replace hP := hP.next hA0
    replace hQ := hQ.next hA0
    have hT := hA0
    clear hA0 hp hq
    go_enter Try.func3, Try.ntmps3
    go_wp2_with fail
    generalize w.alloc (.cells #[.slice A0 p.length c0, .slice A1 q.length c1] 22) = w1 at *
    go_at_call 8
    refine hg.mono ?_
    rintro e w' ⟨rfl, rfl⟩
    clear hg
    go_wp2_with fail
    go_at_call 10
    refine (dv1 _ hP hQ).mono ?_
    rintro e y1 ⟨vu1, vu2, rfl, u1, u2, hB⟩
    replace hP := hP.next hB
    replace hQ := hQ.next hB
    replace hT := below_trans hT hB
    clear hB
    clear dv1
    go_wp2_with fail
    go_at_call 11
    refine (dv2 _ hP hQ).mono ?_
    rintro e y2 ⟨vu3, vu4, rfl, u3, u4, hB⟩
    replace hP := hP.next hB
    replace hQ := hQ.next hB
    replace u1 := u1.next hB
    replace u2 := u2.next hB
    replace hT := below_trans hT hB
    clear hB
    clear dv2
    go_wp2_with fail
    go_at_call 12
    refine (same_eq _ _ _ _ _ u1 u3).mono ?_
    rintro e w' ⟨rfl, rfl⟩
    clear u1 u3
    go_wp2_with fail
    go_at_call 12
    refine (same_eq _ _ _ _ _ u2 u4).mono ?_
    rintro e w' ⟨rfl, rfl⟩
    clear u2 u4
    go_wp2_with fail
    go_at_call 13
    refine (t1 _ hP).mono ?_
    rintro e y3 ⟨vu5, rfl, u5, hB⟩
    replace u5 := u5.sl
    replace hP := hP.next hB
    replace hQ := hQ.next hB
    replace hT := below_trans hT hB
    clear hB
    clear t1
    go_wp2_with fail
    go_at_call 14
    refine (t2 _ hP).mono ?_
    rintro e y4 ⟨vu6, rfl, u6, hB⟩
    replace u6 := u6.sl
    replace hP := hP.next hB
    replace hQ := hQ.next hB
    replace u5 := u5.next hB
    replace hT := below_trans hT hB
    clear hB
    clear t2
    go_wp2_with fail
    go_at_call 12
    refine (same_eq _ _ _ _ _ u5 u6).mono ?_
    rintro e w' ⟨rfl, rfl⟩
    clear u5 u6
    go_wp2_with fail
    go_at_call 15
    refine (a1 _ hP hQ).mono ?_
    rintro e y5 ⟨vu5, rfl, u5, hB⟩
    replace u5 := u5.sl
    replace hP := hP.next hB
    replace hQ := hQ.next hB
    replace hT := below_trans hT hB
    clear hB
    clear a1
    go_wp2_with fail
    go_at_call 16
    refine (a2 _ hP hQ).mono ?_
    rintro e y6 ⟨vu6, rfl, u6, hB⟩
    replace u6 := u6.sl
    replace hP := hP.next hB
    replace hQ := hQ.next hB
    replace u5 := u5.next hB
    replace hT := below_trans hT hB
    clear hB
    clear a2
    go_wp2_with fail
    go_at_call 12
    refine (same_eq _ _ _ _ _ u5 u6).mono ?_
    rintro e w' ⟨rfl, rfl⟩
    clear u5 u6
    go_wp2_with fail
    go_at_call 17
    refine (m1 _ hP hQ).mono ?_
    rintro e y7 ⟨vu5, rfl, u5, hB⟩
    replace u5 := u5.sl
    replace hP := hP.next hB
    replace hQ := hQ.next hB
    replace hT := below_trans hT hB
    clear hB
    clear m1
    go_wp2_with fail
    go_at_call 18
    refine (m2 _ hP hQ).mono ?_
    rintro e y8 ⟨vu6, rfl, u6, hB⟩
    replace u6 := u6.sl
    replace hP := hP.next hB
    replace hQ := hQ.next hB
    replace u5 := u5.next hB
    replace hT := below_trans hT hB
    clear hB
    clear m2
    go_wp2_with fail
    go_at_call 12
    refine (same_eq _ _ _ _ _ u5 u6).mono ?_
    rintro e w' ⟨rfl, rfl⟩
    clear u5 u6
    go_wp2_with fail
    go_at_call 19
    refine (s1 _ hP).mono ?_
    rintro e y9 ⟨vu5, rfl, u5, hB⟩
    replace u5 := u5.sl
    replace hP := hP.next hB
    replace hQ := hQ.next hB
    replace hT := below_trans hT hB
    clear hB
    clear s1
    go_wp2_with fail
    go_at_call 20
    refine (s2 _ hP).mono ?_
    rintro e y10 ⟨vu6, rfl, u6, hB⟩
    replace u6 := u6.sl
    replace hP := hP.next hB
    replace hQ := hQ.next hB
    replace u5 := u5.next hB
    replace hT := below_trans hT hB
    clear hB
    clear s2
    go_wp2_with fail
    go_at_call 12
    refine (same_eq _ _ _ _ _ u5 u6).mono ?_
    rintro e w' ⟨rfl, rfl⟩
    clear u5 u6
    go_wp2_with fail
    go_at_call 21
    refine (h1 _ hP).mono ?_
    rintro e y11 ⟨vu5, rfl, u5, hB⟩
    replace u5 := u5.sl
    replace hP := hP.next hB
    replace hQ := hQ.next hB
    replace hT := below_trans hT hB
    clear hB
    clear h1
    go_wp2_with fail
    go_at_call 22
    refine (h2 _ hP).mono ?_
    rintro e y12 ⟨vu6, rfl, u6, hB⟩
    replace u6 := u6.sl
    replace hP := hP.next hB
    replace hQ := hQ.next hB
    replace u5 := u5.next hB
    replace hT := below_trans hT hB
    clear hB
    clear h2
    go_wp2_with fail
    go_at_call 12
    refine (same_eq _ _ _ _ _ u5 u6).mono ?_
    rintro e w' ⟨rfl, rfl⟩
    clear u5 u6
    go_wp2_with fail
    go_at_call 23
    refine (e1 _ hP).mono ?_
    rintro e y13 ⟨rfl, hB⟩
    replace hP := hP.next hB
    replace hQ := hQ.next hB
    replace hT := below_trans hT hB
    clear hB
    clear e1
    go_wp2_with fail
    go_at_call 24
    refine (e2 _ hP).mono ?_
    rintro e y14 ⟨rfl, hB⟩
    replace hP := hP.next hB
    replace hQ := hQ.next hB
    replace hT := below_trans hT hB
    clear hB
    clear e2
    go_wp2_with fail
    go_at_call 25
    refine (d1 _ hP).mono ?_
    rintro e y15 ⟨vu5, rfl, u5, hB⟩
    replace u5 := u5.sl
    replace hP := hP.next hB
    replace hQ := hQ.next hB
    replace hT := below_trans hT hB
    clear hB
    clear d1
    go_wp2_with fail
    go_at_call 26
    refine (d2 _ hP).mono ?_
    rintro e y16 ⟨vu6, rfl, u6, hB⟩
    replace u6 := u6.sl
    replace hP := hP.next hB
    replace hQ := hQ.next hB
    replace u5 := u5.next hB
    replace hT := below_trans hT hB
    clear hB
    clear d2
    go_wp2_with fail
    go_at_call 12
    refine (same_eq _ _ _ _ _ u5 u6).mono ?_
    rintro e w' ⟨rfl, rfl⟩
    clear u5 u6
    go_wp2_with fail
    go_at_call 27
    refine (r1 _ hQ).mono ?_
    rintro e y17 ⟨vu5, rfl, u5, hB⟩
    replace hP := hP.next hB
    replace hQ := hQ.next hB
    replace hT := below_trans hT hB
    clear hB
    clear r1
    go_wp2_with fail
    go_at_call 28
    refine (r2 _ hQ).mono ?_
    rintro e y18 ⟨vu6, rfl, u6, hB⟩
    replace hP := hP.next hB
    replace hQ := hQ.next hB
    replace u5 := u5.next hB
    replace hT := below_trans hT hB
    clear hB
    clear r2
    go_wp2_with fail
    go_at_call 12
    refine (same_eq _ _ _ _ _ u5 u6).mono ?_
    rintro e w' ⟨rfl, rfl⟩
    clear u5 u6
    go_wp2_with fail
    go_at_call 9
    refine (wakes_any _).mono ?_
    rintro e wz ⟨rfl, hBz⟩
    go_wp2
    go_ret
    exact ⟨rfl, below_trans hT hBz⟩
end Go.Proofs.Ytgidhkfmelpjfaa
