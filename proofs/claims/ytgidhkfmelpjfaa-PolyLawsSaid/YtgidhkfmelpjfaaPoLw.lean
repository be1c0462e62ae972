/- PolyLaws. -/
import Derived.Test.YtgidhkfmelpjfaaPoLa
import Derived.Test.YtgidhkfmelpjfaaPoX0
import Derived.Test.YtgidhkfmelpjfaaZ0
import Derived.Lib.AppendZeros
namespace Go.Proofs.Ytgidhkfmelpjfaa
open Go.RowKit Go.Shelf
attribute [local go_sem] Oper.semAt_some

theorem Mul_r (pv qv : Value) (p q : List UInt8) (hp : p.length ≤ 1000) (hq : q.length ≤ 1000) (w : World) (hP : Sl eB w.heap.size w pv p) (hQ : Sl eB w.heap.size w qv q) :
    Calls Try.prog 17 #[pv, qv] w fun e w' => ∃ v, e = .returned v ∧ Sl eB w'.heap.size w' v (rM p q) ∧ Below w.heap.size w w' :=
  (Mul_row pv qv p q (by omega) (by omega) w hP hQ).mono fun _ _ ⟨v, h1, h2, h3⟩ => ⟨v, h1, h2.sl, h3⟩
theorem Add_r (pv qv : Value) (p q : List UInt8) (hp : p.length ≤ 1000) (hq : q.length ≤ 1000) (w : World) (hP : Sl eB w.heap.size w pv p) (hQ : Sl eB w.heap.size w qv q) :
    Calls Try.prog 15 #[pv, qv] w fun e w' => ∃ v, e = .returned v ∧ Sl eB w'.heap.size w' v (rA p q) ∧ Below w.heap.size w w' :=
  (Add_any pv qv p q (by omega) (by omega) w hP hQ).mono fun _ _ ⟨v, h1, h2, h3⟩ => ⟨v, h1, h2.sl, h3⟩
theorem Deriv_r (pv : Value) (p : List UInt8) (hp : p.length ≤ 1000) (w : World) (hP : Sl eB w.heap.size w pv p) :
    Calls Try.prog 25 #[pv] w fun e w' => ∃ v, e = .returned v ∧ Sl eB w'.heap.size w' v (dl p) ∧ Below w.heap.size w w' :=
  (Deriv_any pv p (by omega) w hP).mono fun _ _ ⟨v, h1, h2, h3⟩ => ⟨v, h1, h2.sl, h3⟩
theorem same_eq (sa sb : Value) (a : List UInt8) (B : Nat) (w : World) (ha : Sl eB B w sa a) (hb : Sl eB B w sb a) :
    Calls Try.prog 12 #[sa, sb] w fun e w' => e = .returned (.bool true) ∧ w = w' := by
  have h := same_any sa sb a a B w ha hb
  rwa [decide_eq_true rfl] at h
theorem wpList_append_zeros {P : Program} (w : World) {ops : Array Oper} {rest : List Oper} {o : Oper} {a : Act} {Q : Exit → Act → World → Prop} (hgd : o.guard = none) (s x : Operand) (t tn u : TypeId)
    (ho : o.op = .call { callee := .builtin .append, args := #[s, x], argTypes := #[t, tn] })
    (base : Nat) (e : TypeId) (i : TypeInfo) (ht : P.underlying t = some (.slice e)) (htn : P.underlying tn = some (.int .i64)) (hu : P.underlying u = some .string) (hi : P.info? e = some i) (hz : i.zero = some (.int .u8 0))
    (hsize : i.size = 1) (hby : i.bytes = 1) (v : Value) (m : Nat) (ys : List Value) (hown : w.ownsRow base e 1 v m ys) (hv : a.eval s = v)
    (n : Nat) (hx : a.eval x = .int .i64 n) (hn : m + n ≤ 1000000) (hbase : base ≤ w.heap.size)
    (h : ∀ v' w', w'.ownsRow base e 1 v' (m + n) (ys ++ (List.replicate n (0 : UInt8)).map eB) → w.grownBy w' v.ownBlock → wpList P ops Q rest (a.put o.dst v') w') :
    wpList P ops Q (o :: rest) a w := by
  obtain ⟨v', w', hr, r1, r2, -⟩ := Lib.run_append_own_string (P := P) w base t u o.type e i ht hu hi hz hsize hby v m ys hown (zs n) (by rw [zs_size]; unfold maxLen; omega) (by rw [zs_size]; omega) hbase
  rw [zs_size, zs_cells] at r1
  have hr' : (Builtin.append_ #[t, tn] o.type #[v, .int .i64 n]).run P w = .ok v' w' := by
    rcases hown.2 with ⟨rfl, rfl⟩ | ⟨g, cap, cur, rfl, _, _, hnc, _⟩
    · rw [run_zeros w t tn u o.type e i ht htn hu hi hz hsize hby none 0 0 n (Nat.le_refl _) (by omega)]; exact hr
    · rw [run_zeros w t tn u o.type e i ht htn hu hi hz hsize hby _ m cap n hnc (by omega)]; exact hr
  exact Lib.wpList_append_run w hgd s x t tn ho v _ hv hx v' w' hr' (h v' w' r1 r2)

set_option maxRecDepth 100000 in
set_option maxHeartbeats 4000000 in
theorem PolyLaws_big (A0 A1 A2 : Option Addr) (l0 c0 l1 c1 l2 c2 : Nat) (n : Int) (w : World) (hbig : 40 < l0 ∨ 40 < l1 ∨ 40 < l2 ∨ n < 0 ∨ 40 < n) :
    Calls Try.prog 7 #[.slice A0 l0 c0, .slice A1 l1 c1, .slice A2 l2 c2, .int .i64 n] w fun e w' => e = .returned (.bool true) ∧ Below w.heap.size w w' := by
  by_cases b1 : 40 < l0
  · have d1 : decide ((40 : Int) < (l0 : Int)) = true := decide_eq_true (by omega)
    clear hbig b1
    go_enter Try.func7, Try.ntmps7
    go_wp2_with (go_at_call 9; refine (wakes_any _).mono ?_; rintro e w2 ⟨rfl, hB⟩)
    go_ret
    exact ⟨rfl, hB⟩
  have d1 : decide ((40 : Int) < (l0 : Int)) = false := decide_eq_false (by omega)
  by_cases b2 : 40 < l1
  · have d2 : decide ((40 : Int) < (l1 : Int)) = true := decide_eq_true (by omega)
    clear hbig b1 b2
    go_enter Try.func7, Try.ntmps7
    go_wp2_with (go_at_call 9; refine (wakes_any _).mono ?_; rintro e w2 ⟨rfl, hB⟩)
    go_ret
    exact ⟨rfl, hB⟩
  have d2 : decide ((40 : Int) < (l1 : Int)) = false := decide_eq_false (by omega)
  by_cases b3 : 40 < l2
  · have d3 : decide ((40 : Int) < (l2 : Int)) = true := decide_eq_true (by omega)
    clear hbig b1 b2 b3
    go_enter Try.func7, Try.ntmps7
    go_wp2_with (go_at_call 9; refine (wakes_any _).mono ?_; rintro e w2 ⟨rfl, hB⟩)
    go_ret
    exact ⟨rfl, hB⟩
  have d3 : decide ((40 : Int) < (l2 : Int)) = false := decide_eq_false (by omega)
  by_cases b4 : n < 0
  · have d4 : decide (n < 0) = true := decide_eq_true b4
    clear hbig b1 b2 b3
    go_enter Try.func7, Try.ntmps7
    go_wp2_with (go_at_call 9; refine (wakes_any _).mono ?_; rintro e w2 ⟨rfl, hB⟩)
    go_ret
    exact ⟨rfl, hB⟩
  have d4 : decide (n < 0) = false := decide_eq_false b4
  have b5 : 40 < n := by omega
  have d5 : decide (40 < n) = true := decide_eq_true b5
  clear hbig b1 b2 b3
  go_enter Try.func7, Try.ntmps7
  go_wp2_with (go_at_call 9; refine (wakes_any _).mono ?_; rintro e w2 ⟨rfl, hB⟩)
  go_ret
  exact ⟨rfl, hB⟩

set_option maxRecDepth 100000 in
set_option maxHeartbeats 8000000 in
theorem PolyLaws_some (v0 v1 v2 : Value) (p q r : List UInt8) (n : Nat) (w : World) (hP : Sl eB w.heap.size w v0 p) (hQ : Sl eB w.heap.size w v1 q) (hR : Sl eB w.heap.size w v2 r)
    (hp : p.length ≤ 40) (hq : q.length ≤ 40) (hr : r.length ≤ 40) (hn : n ≤ 40) :
    Calls Try.prog 7 #[v0, v1, v2, .int .i64 n] w fun e w' => e = .returned (.bool true) ∧ Below w.heap.size w w' := by
  obtain ⟨i0, hi, hz0, hz1, hz2⟩ := info_parts info_u8
  have hrs := fun w h => run_str (P := Try.prog) (w := w) (B := w.heap.size) (sv := v0) (bs := p) h 22 9 5 Try.underlying22 Try.underlying5 Try.underlying9
  have hL0 : (p ++ List.replicate n (0 : UInt8)).length ≤ 80 := by simp; omega
  have lM := rM_len p q
  have lY := rM_len q r
  have lS := rA_len q r
  have lU := rM_len p r
  have lP1 := dl_len p
  have lQ1 := dl_len q
  have lX1 := rM_len (dl p) q
  have lX2 := rM_len p (dl q)
  have c1 := fun w h1 h2 => Mul_r v0 v1 p q (by omega) (by omega) w h1 h2
  have c2 := fun w h1 h2 => Mul_r v1 v0 q p (by omega) (by omega) w h1 h2
  rw [rM_comm p q] at c2
  have c3 := fun v w h1 h2 => Mul_r v v2 (rM p q) r (by omega) (by omega) w h1 h2
  have c4 := fun w h1 h2 => Mul_r v1 v2 q r (by omega) (by omega) w h1 h2
  have c5 := fun v w h1 h2 => Mul_r v0 v p (rM q r) (by omega) (by omega) w h1 h2
  rw [← rM_assoc] at c5
  have c6 := fun w h1 h2 => Add_r v1 v2 q r (by omega) (by omega) w h1 h2
  have c7 := fun v w h1 h2 => Mul_r v0 v p (rA q r) (by omega) (by omega) w h1 h2
  rw [rM_sum] at c7
  have c8 := fun w h1 h2 => Mul_r v0 v2 p r (by omega) (by omega) w h1 h2
  have c9 := fun va vb w h1 h2 => Add_r va vb (rM p q) (rM p r) (by omega) (by omega) w h1 h2
  have c10 := fun v w h1 h2 => Mul_r v v1 (p ++ List.replicate n 0) q (by omega) (by omega) w h1 h2
  rw [rM_long] at c10
  have c11 := fun v w h1 h2 => Add_r v v1 (p ++ List.replicate n 0) q (by omega) (by omega) w h1 h2
  rw [rA_long] at c11
  have c12 := fun w h1 h2 => Add_r v0 v1 p q (by omega) (by omega) w h1 h2
  have c13 := fun w h1 => Deriv_r v0 p (by omega) w h1
  have c14 := fun v w h1 h2 => Mul_r v v1 (dl p) q (by omega) (by omega) w h1 h2
  have c15 := fun w h1 => Deriv_r v1 q (by omega) w h1
  have c16 := fun v w h1 h2 => Mul_r v0 v p (dl q) (by omega) (by omega) w h1 h2
  have c17 := fun va vb w h1 h2 => Add_r va vb (rM (dl p) q) (rM p (dl q)) (by omega) (by omega) w h1 h2
  have c18 := fun v w h1 => Deriv_r v (rM p q) (by omega) w h1
  rw [dl_rM] at c18
  have c19 := fun w h1 h2 => Add_r v0 v0 p p (by omega) (by omega) w h1 h2
  rw [rA_self] at c19
  generalize rA (rM p q) (rM p r) = T at *
  generalize rA (rM (dl p) q) (rM p (dl q)) = X at *
  generalize rM (rM p q) r = N at *
  generalize rM p q = M at *
  generalize rM q r = Y at *
  generalize rA q r = S at *
  generalize rM p r = U at *
  generalize rM (dl p) q = X1 at *
  generalize rM p (dl q) = X2 at *
  generalize dl p = P1 at *
  generalize dl q = Q1 at *
  generalize rA p q = Z at *
  have hLrow : ∀ W v, Own8 w.heap.size W v (p ++ List.replicate n 0) → Sl eB W.heap.size W v (p ++ List.replicate n 0) := fun W v h => h.sl
  obtain ⟨A0, k0, rfl⟩ := hP.len
  obtain ⟨A1, k1, rfl⟩ := hQ.len
  obtain ⟨A2, k2, rfl⟩ := hR.len
  have d1 : decide ((40 : Int) < (p.length : Int)) = false := decide_eq_false (by omega)
  have d2 : decide ((40 : Int) < (q.length : Int)) = false := decide_eq_false (by omega)
  have d3 : decide ((40 : Int) < (r.length : Int)) = false := decide_eq_false (by omega)
  have d4 : decide ((n : Int) < 0) = false := decide_eq_false (by omega)
  have d5 : decide ((40 : Int) < (n : Int)) = false := decide_eq_false (by omega)
  have hs1 := hrs w hP
  clear lM lY lS lU lP1 lQ1 lX1 lX2 hq hr
  go_enter Try.func7, Try.ntmps7
  go_wp2_with fail
  go_at_call 17
  refine (c1 w hP hQ).mono ?_
  rintro e w1 ⟨vm, rfl, hm, hT⟩
  replace hP := hP.next hT
  replace hQ := hQ.next hT
  replace hR := hR.next hT
  clear c1 hs1
  have hrow := row_made w1
  have hB1 := below_alloc w1 (.cells #[] 5)
  go_wp2_with
    (at_builtin
     first
     | (refine wpList_append_sl _ rfl (.tmp 40) (.tmp 41) _ rfl w1.heap.size 5 i0 (.int .u8 0) 1 Try.underlying22 hi hz0 hz1 hz2 rfl _ 0 [] hrow rfl w1.heap.size (.slice A0 p.length k0) p (hP.below hB1) rfl (fun _ => rfl) (by unfold maxLen; omega) (by omega) (by simp) ?_
        intro vl1 wl1 hown1 hg1 _
        have hB2 : Below w1.heap.size w1 wl1 := hB1.trans (below_grown hrow hg1 (by simp) (Nat.le_refl _)))
     | (refine wpList_append_zeros _ rfl (.tmp 42) (.tmp 43) 22 3 9 rfl w1.heap.size 5 i0 Try.underlying22 Try.underlying3 Try.underlying9 hi hz0 hz1 hz2 _ _ _ hown1 rfl n rfl (by omega) hB2.size ?_
        intro vl wl hown2 hg2
        have hB3 : Below w1.heap.size w1 wl := hB2.trans (below_grown hown1 hg2 hB2.size (Nat.le_refl _))))
  have hl : Sl eB wl.heap.size wl vl (p ++ List.replicate n 0) := by
    have hw : Own8 w1.heap.size wl vl (p ++ List.replicate n 0) := by
      unfold Own8
      rw [List.map_append, List.length_append, List.length_replicate]
      simpa using hown2
    exact hw.sl
  clear hown1 hg1 hown2 hg2 hB1 hB2 hrow hi hz0 hz1 hz2 hLrow hL0 hp hn d1 d2 d3 d4 d5
  clear i0
  replace hP := hP.next hB3
  replace hQ := hQ.next hB3
  replace hR := hR.next hB3
  replace hm := hm.next hB3
  replace hT := below_trans hT hB3
  clear hB3
  go_wp2_with fail
  go_at_call 17
  refine (c2 _ hQ hP).mono ?_
  rintro e y1 ⟨vs1, rfl, s1, hB⟩
  replace hP := hP.next hB
  replace hQ := hQ.next hB
  replace hR := hR.next hB
  replace hm := hm.next hB
  replace hl := hl.next hB
  replace hT := below_trans hT hB
  clear hB
  go_wp2_with fail
  go_at_call 12
  refine (same_eq _ _ _ _ _ hm s1).mono ?_
  rintro e w' ⟨rfl, rfl⟩
  clear s1 c2
  go_wp2_with fail
  go_at_call 17
  refine (c3 _ _ hm hR).mono ?_
  rintro e y2 ⟨vs2, rfl, s2, hB⟩
  replace hP := hP.next hB
  replace hQ := hQ.next hB
  replace hR := hR.next hB
  replace hm := hm.next hB
  replace hl := hl.next hB
  replace hT := below_trans hT hB
  clear hB
  go_wp2_with fail
  go_at_call 17
  refine (c4 _ hQ hR).mono ?_
  rintro e y3 ⟨vs3, rfl, s3, hB⟩
  replace hP := hP.next hB
  replace hQ := hQ.next hB
  replace hR := hR.next hB
  replace hm := hm.next hB
  replace hl := hl.next hB
  replace s2 := s2.next hB
  replace hT := below_trans hT hB
  clear hB
  go_wp2_with fail
  go_at_call 17
  refine (c5 _ _ hP s3).mono ?_
  rintro e y4 ⟨vs4, rfl, s4, hB⟩
  replace hP := hP.next hB
  replace hQ := hQ.next hB
  replace hR := hR.next hB
  replace hm := hm.next hB
  replace hl := hl.next hB
  replace s2 := s2.next hB
  replace s3 := s3.next hB
  replace hT := below_trans hT hB
  clear hB
  go_wp2_with fail
  go_at_call 12
  refine (same_eq _ _ _ _ _ s2 s4).mono ?_
  rintro e w' ⟨rfl, rfl⟩
  clear s2 s3 s4 c3 c4 c5
  go_wp2_with fail
  go_at_call 15
  refine (c6 _ hQ hR).mono ?_
  rintro e y5 ⟨vs5, rfl, s5, hB⟩
  replace hP := hP.next hB
  replace hQ := hQ.next hB
  replace hR := hR.next hB
  replace hm := hm.next hB
  replace hl := hl.next hB
  replace hT := below_trans hT hB
  clear hB
  go_wp2_with fail
  go_at_call 17
  refine (c7 _ _ hP s5).mono ?_
  rintro e y6 ⟨vs6, rfl, s6, hB⟩
  replace hP := hP.next hB
  replace hQ := hQ.next hB
  replace hR := hR.next hB
  replace hm := hm.next hB
  replace hl := hl.next hB
  replace s5 := s5.next hB
  replace hT := below_trans hT hB
  clear hB
  go_wp2_with fail
  go_at_call 17
  refine (c8 _ hP hR).mono ?_
  rintro e y7 ⟨vs7, rfl, s7, hB⟩
  replace hP := hP.next hB
  replace hQ := hQ.next hB
  replace hR := hR.next hB
  replace hm := hm.next hB
  replace hl := hl.next hB
  replace s5 := s5.next hB
  replace s6 := s6.next hB
  replace hT := below_trans hT hB
  clear hB
  go_wp2_with fail
  go_at_call 15
  refine (c9 _ _ _ hm s7).mono ?_
  rintro e y8 ⟨vs8, rfl, s8, hB⟩
  replace hP := hP.next hB
  replace hQ := hQ.next hB
  replace hR := hR.next hB
  replace hm := hm.next hB
  replace hl := hl.next hB
  replace s5 := s5.next hB
  replace s6 := s6.next hB
  replace s7 := s7.next hB
  replace hT := below_trans hT hB
  clear hB
  go_wp2_with fail
  go_at_call 12
  refine (same_eq _ _ _ _ _ s6 s8).mono ?_
  rintro e w' ⟨rfl, rfl⟩
  clear s5 s6 s7 s8 hR c6 c7 c8 c9
  go_wp2_with fail
  go_at_call 17
  refine (c10 _ _ hl hQ).mono ?_
  rintro e y9 ⟨vs9, rfl, s9, hB⟩
  replace hP := hP.next hB
  replace hQ := hQ.next hB
  replace hm := hm.next hB
  replace hl := hl.next hB
  replace hT := below_trans hT hB
  clear hB
  go_wp2_with fail
  go_at_call 12
  refine (same_eq _ _ _ _ _ s9 hm).mono ?_
  rintro e w' ⟨rfl, rfl⟩
  clear s9 c10
  go_wp2_with fail
  go_at_call 15
  refine (c11 _ _ hl hQ).mono ?_
  rintro e y10 ⟨vs10, rfl, s10, hB⟩
  replace hP := hP.next hB
  replace hQ := hQ.next hB
  replace hm := hm.next hB
  replace hl := hl.next hB
  replace hT := below_trans hT hB
  clear hB
  go_wp2_with fail
  go_at_call 15
  refine (c12 _ hP hQ).mono ?_
  rintro e y11 ⟨vs11, rfl, s11, hB⟩
  replace hP := hP.next hB
  replace hQ := hQ.next hB
  replace hm := hm.next hB
  replace hl := hl.next hB
  replace s10 := s10.next hB
  replace hT := below_trans hT hB
  clear hB
  go_wp2_with fail
  go_at_call 12
  refine (same_eq _ _ _ _ _ s10 s11).mono ?_
  rintro e w' ⟨rfl, rfl⟩
  clear s10 s11 hl c11 c12
  go_wp2_with fail
  go_at_call 25
  refine (c13 _ hP).mono ?_
  rintro e y12 ⟨vs12, rfl, s12, hB⟩
  replace hP := hP.next hB
  replace hQ := hQ.next hB
  replace hm := hm.next hB
  replace hT := below_trans hT hB
  clear hB
  go_wp2_with fail
  go_at_call 17
  refine (c14 _ _ s12 hQ).mono ?_
  rintro e y13 ⟨vs13, rfl, s13, hB⟩
  replace hP := hP.next hB
  replace hQ := hQ.next hB
  replace hm := hm.next hB
  replace s12 := s12.next hB
  replace hT := below_trans hT hB
  clear hB
  clear s12 c13 c14
  go_wp2_with fail
  go_at_call 25
  refine (c15 _ hQ).mono ?_
  rintro e y14 ⟨vs14, rfl, s14, hB⟩
  replace hP := hP.next hB
  replace hQ := hQ.next hB
  replace hm := hm.next hB
  replace s13 := s13.next hB
  replace hT := below_trans hT hB
  clear hB
  go_wp2_with fail
  go_at_call 17
  refine (c16 _ _ hP s14).mono ?_
  rintro e y15 ⟨vs15, rfl, s15, hB⟩
  replace hP := hP.next hB
  replace hQ := hQ.next hB
  replace hm := hm.next hB
  replace s13 := s13.next hB
  replace s14 := s14.next hB
  replace hT := below_trans hT hB
  clear hB
  clear s14 c15 c16
  go_wp2_with fail
  go_at_call 15
  refine (c17 _ _ _ s13 s15).mono ?_
  rintro e y16 ⟨vs16, rfl, s16, hB⟩
  replace hP := hP.next hB
  replace hQ := hQ.next hB
  replace hm := hm.next hB
  replace s13 := s13.next hB
  replace s15 := s15.next hB
  replace hT := below_trans hT hB
  clear hB
  clear s13 s15 c17
  go_wp2_with fail
  go_at_call 25
  refine (c18 _ _ hm).mono ?_
  rintro e y17 ⟨vs17, rfl, s17, hB⟩
  replace hP := hP.next hB
  replace hQ := hQ.next hB
  replace hm := hm.next hB
  replace s16 := s16.next hB
  replace hT := below_trans hT hB
  clear hB
  go_wp2_with fail
  go_at_call 12
  refine (same_eq _ _ _ _ _ s17 s16).mono ?_
  rintro e w' ⟨rfl, rfl⟩
  clear s17 s16 hm c18
  go_wp2_with fail
  go_at_call 15
  refine (c19 _ hP hP).mono ?_
  rintro e y18 ⟨vs18, rfl, s18, hB⟩
  replace hP := hP.next hB
  replace hQ := hQ.next hB
  replace hT := below_trans hT hB
  clear hB
  obtain ⟨A9, k9, rfl⟩ := s18.len
  have hs2 := hrs _ hP
  clear s18 c19 hrs hP hQ
  go_wp2_with fail
  go_at_call 9
  refine (wakes_any _).mono ?_
  rintro e wz ⟨rfl, hBz⟩
  go_wp2
  go_ret
  exact ⟨rfl, below_trans hT hBz⟩

theorem PolyLaws_any (v0 v1 v2 : Value) (p q r : List UInt8) (n : Int) (w : World) (hP : Sl eB w.heap.size w v0 p) (hQ : Sl eB w.heap.size w v1 q) (hR : Sl eB w.heap.size w v2 r) :
    Calls Try.prog 7 #[v0, v1, v2, .int .i64 n] w fun e w' => e = .returned (.bool true) ∧ Below w.heap.size w w' := by
  by_cases hbig : 40 < p.length ∨ 40 < q.length ∨ 40 < r.length ∨ n < 0 ∨ 40 < n
  · obtain ⟨A0, c0, rfl⟩ := hP.len
    obtain ⟨A1, c1, rfl⟩ := hQ.len
    obtain ⟨A2, c2, rfl⟩ := hR.len
    exact PolyLaws_big A0 A1 A2 _ c0 _ c1 _ c2 n w hbig
  · obtain ⟨m, rfl⟩ : ∃ m : Nat, n = m := ⟨n.toNat, by omega⟩
    exact PolyLaws_some v0 v1 v2 p q r m w hP hQ hR (by omega) (by omega) (by omega) (by omega)
end Go.Proofs.Ytgidhkfmelpjfaa
