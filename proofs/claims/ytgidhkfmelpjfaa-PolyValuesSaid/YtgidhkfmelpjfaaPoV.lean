/- PolyValues. -/
import Derived.Test.YtgidhkfmelpjfaaPoY
import Derived.Test.YtgidhkfmelpjfaaPoZ
namespace Go.Proofs.Ytgidhkfmelpjfaa
open Go.RowKit Go.Shelf
attribute [local go_sem] Oper.semAt_some

theorem ev_sum (p q : List UInt8) (x : UInt8) : ev (tr (fun k => C p k ^^^ C q k) (max p.length q.length)) x = ev p x ^^^ ev q x := by
  rw [← ev_addR]
  refine ev_congr ?_ x
  rw [C_tr _ _ (sum_big p q _ (by omega) (by omega))]
  funext k
  rw [C_addR]
theorem ev_prod (p q : List UInt8) (x : UInt8) : ev (tr (PM p (C q)) (p.length + q.length)) x = ma (ev p x) (ev q x) := by
  rw [← ev_mulR]
  refine ev_congr ?_ x
  rw [C_tr _ _ (fun k hk => PM_big' p q k hk), C_mulR]
theorem ev_scale (p : List UInt8) (c x : UInt8) : ev (tr (fun n => ma c (C p n)) (p.length + 1)) x = ma (ev p x) c := by
  rw [ma_comm, ← ev_map]
  refine ev_congr ?_ x
  rw [C_tr _ _ (fun k hk => by rw [C_big p k (by omega), ma_zero])]
  funext k
  rw [C_map]
theorem ev_shift (p : List UInt8) (x : UInt8) : ev (tr (sh (C p)) (p.length + 1)) x = ma (ev p x) x := by
  have : ev (0 :: p) x = ma (ev p x) x := by rw [ev, x_zero]
  rw [← this]
  refine ev_congr ?_ x
  rw [← C_shift, C_tr _ _ (fun k hk => C_big (0 :: p) k (by simpa using hk))]
theorem ev_trim (p : List UInt8) (x : UInt8) : ev (tr (C p) p.length) x = ev p x :=
  ev_congr (C_tr _ _ (fun k hk => C_big p k hk)) x

set_option maxRecDepth 100000 in
set_option maxHeartbeats 4000000 in
theorem PolyValues_any (v0 v1 : Value) (p q : List UInt8) (x c : UInt8) (w : World) (hP : Sl eB w.heap.size w v0 p) (hQ : Sl eB w.heap.size w v1 q) :
    Calls Try.prog 4 #[v0, v1, eB x, eB c] w fun e w' => e = .returned (.bool true) ∧ Below w.heap.size w w' := by
  obtain ⟨A0, c0, rfl⟩ := hP.len
  obtain ⟨A1, c1, rfl⟩ := hQ.len
  have hA0 := below_alloc w (.cells #[.slice A0 p.length c0, .slice A1 q.length c1] 22)
  have hr0 := Rowed.new w 22 #[.slice A0 p.length c0, .slice A1 q.length c1]
  have g0 := hr0.cell 0
  have g1 := hr0.cell 1
  have g0' : (w.alloc (.cells #[.slice A0 p.length c0, .slice A1 q.length c1] 22)).cell? ⟨w.heap.size, 0, none⟩ = some (.slice A0 p.length c0) := g0
  have g1' : (w.alloc (.cells #[.slice A0 p.length c0, .slice A1 q.length c1] 22)).cell? ⟨w.heap.size, 1, none⟩ = some (.slice A1 q.length c1) := g1
  clear g0 g1 hr0
  by_cases hbig : 120 < p.length ∨ 120 < q.length
  · have hg := great2_yes A0 A1 p.length c0 q.length c1 _ _ g0' g1' hbig
    clear g0' g1' hbig
    go_enter Try.func4, Try.ntmps4
    go_wp2_with fail
    generalize w.alloc (.cells #[.slice A0 p.length c0, .slice A1 q.length c1] 22) = w1 at *
    go_at_call 8
    refine hg.mono ?_
    rintro e w' ⟨rfl, rfl⟩
    clear hg
    go_wp2_with fail
    go_at_call 9
    refine (wakes_any _).mono ?_
    rintro e w2 ⟨rfl, hB⟩
    go_wp2
    go_ret
    exact ⟨rfl, below_trans hA0 hB⟩
  · have hg := great2_no A0 A1 p.length c0 q.length c1 _ _ g0' g1' (by omega) (by omega)
    have hp : p.length ≤ 120 := by omega
    have hq : q.length ≤ 120 := by omega
    clear g0' g1' hbig
    have hP1 := hP.next hA0
    have hQ1 := hQ.next hA0
    clear hP hQ
    have hEv := fun v l (hl : l.length ≤ 1000) w h => Eval_any v l x (by omega) w h
    have hEs := hEv
    have hS1 := ev_sum p q x
    have hS2 := ev_prod p q x
    have hS3 := ev_scale p c x
    have hS4 := ev_shift p x
    have hS5 := ev_trim p x
    have hAd := fun w h1 h2 => Add_any (.slice A0 p.length c0) (.slice A1 q.length c1) p q (by omega) (by omega) w h1 h2
    have hMu := fun w h1 h2 => Mul_row (.slice A0 p.length c0) (.slice A1 q.length c1) p q (by omega) (by omega) w h1 h2
    have hSc := fun w h1 => Scale_any (.slice A0 p.length c0) p c (by omega) w h1
    have hSh := fun w h1 => Shift_one (.slice A0 p.length c0) p (by omega) w h1
    have hTr := fun w h1 => Trim_any (.slice A0 p.length c0) p (by omega) w h1
    have hEp := fun w h => Eval_any (.slice A0 p.length c0) p x (by omega) w h
    have hEq := fun w h => Eval_any (.slice A1 q.length c1) q x (by omega) w h
    have l1 : (tr (fun k => C p k ^^^ C q k) (max p.length q.length)).length ≤ 1000 := by rw [tr_length]; have := tl_le (fun k => C p k ^^^ C q k) (max p.length q.length); omega
    have l2 : (tr (PM p (C q)) (p.length + q.length)).length ≤ 1000 := by rw [tr_length]; have := tl_le (PM p (C q)) (p.length + q.length); omega
    have l3 : (tr (fun n => ma c (C p n)) (p.length + 1)).length ≤ 1000 := by rw [tr_length]; have := tl_le (fun n => ma c (C p n)) (p.length + 1); omega
    have l4 : (tr (sh (C p)) (p.length + 1)).length ≤ 1000 := by rw [tr_length]; have := tl_le (sh (C p)) (p.length + 1); omega
    have l5 : (tr (C p) p.length).length ≤ 1000 := by rw [tr_length]; have := tl_le (C p) p.length; omega
    generalize tr (fun k => C p k ^^^ C q k) (max p.length q.length) = R1 at *
    generalize tr (PM p (C q)) (p.length + q.length) = R2 at *
    generalize tr (fun n => ma c (C p n)) (p.length + 1) = R3 at *
    generalize tr (sh (C p)) (p.length + 1) = R4 at *
    generalize tr (C p) p.length = R5 at *
    generalize ev p x = a at *
    generalize ev q x = b at *
    have E1 := fun v w h => hEv v R1 l1 w h
    rw [hS1] at E1
    have E2 := fun v w h => hEv v R2 l2 w h
    rw [hS2] at E2
    have E3 := fun v w h => hEv v R3 l3 w h
    rw [hS3] at E3
    have E4 := fun v w h => hEv v R4 l4 w h
    rw [hS4] at E4
    have E5 := fun v w h => hEv v R5 l5 w h
    rw [hS5] at E5
    have hx : bits .xor .u8 (a.toNat : Int) (b.toNat : Int) = ((a ^^^ b).toNat : Int) := by rw [u8_xor _ _ a.toNat_lt b.toNat_lt, xor_toNat]
    clear hEv hEs hS1 hS2 hS3 hS4 hS5 l1 l2 l3 l4 l5 hp hq
    go_enter Try.func4, Try.ntmps4
    go_wp2_with fail
    generalize w.alloc (.cells #[.slice A0 p.length c0, .slice A1 q.length c1] 22) = w1 at *
    go_at_call 8
    refine hg.mono ?_
    rintro e w' ⟨rfl, rfl⟩
    clear hg
    go_wp2_with fail
    go_at_call 23
    refine (hEp w1 hP1).mono ?_
    rintro e w2 ⟨rfl, hB2⟩
    go_wp2_with fail
    go_at_call 23
    refine (hEq w2 (hQ1.next hB2)).mono ?_
    rintro e w3 ⟨rfl, hB3⟩
    replace hB3 := below_trans hB2 hB3
    clear hB2
    go_wp2_with fail
    go_at_call 15
    refine (hAd w3 (hP1.next hB3) (hQ1.next hB3)).mono ?_
    rintro e w4 ⟨v4, rfl, hv4, hB4⟩
    replace hB4 := below_trans hB3 hB4
    clear hB3
    go_wp2_with fail
    go_at_call 23
    refine (E1 v4 w4 hv4.sl).mono ?_
    rintro e w5 ⟨rfl, hB5⟩
    replace hB5 := below_trans hB4 hB5
    clear hB4 hv4
    go_wp2_with fail
    go_at_call 17
    refine (hMu w5 (hP1.next hB5) (hQ1.next hB5)).mono ?_
    rintro e w6 ⟨v6, rfl, hv6, hB6⟩
    replace hB6 := below_trans hB5 hB6
    clear hB5
    go_wp2_with fail
    go_at_call 23
    refine (E2 v6 w6 hv6.sl).mono ?_
    rintro e w7 ⟨rfl, hB7⟩
    replace hB7 := below_trans hB6 hB7
    clear hB6 hv6
    go_wp2_with fail
    go_at_call 29
    refine (RefMul8 a b _).mono ?_
    rintro e w' ⟨rfl, rfl⟩
    go_wp2_with fail
    go_at_call 19
    refine (hSc w7 (hP1.next hB7)).mono ?_
    rintro e w8 ⟨v8, rfl, hv8, hB8⟩
    replace hB8 := below_trans hB7 hB8
    clear hB7
    go_wp2_with fail
    go_at_call 23
    refine (E3 v8 w8 hv8.sl).mono ?_
    rintro e w9 ⟨rfl, hB9⟩
    replace hB9 := below_trans hB8 hB9
    clear hB8 hv8
    go_wp2_with fail
    go_at_call 29
    refine (RefMul8 a c _).mono ?_
    rintro e w' ⟨rfl, rfl⟩
    go_wp2_with fail
    go_at_call 21
    refine (hSh w9 (hP1.next hB9)).mono ?_
    rintro e w10 ⟨v10, rfl, hv10, hB10⟩
    replace hB10 := below_trans hB9 hB10
    clear hB9
    go_wp2_with fail
    go_at_call 23
    refine (E4 v10 w10 hv10.sl).mono ?_
    rintro e w11 ⟨rfl, hB11⟩
    replace hB11 := below_trans hB10 hB11
    clear hB10 hv10
    go_wp2_with fail
    go_at_call 29
    refine (RefMul8 a x _).mono ?_
    rintro e w' ⟨rfl, rfl⟩
    go_wp2_with fail
    go_at_call 13
    refine (hTr w11 (hP1.next hB11)).mono ?_
    rintro e w12 ⟨v12, rfl, hv12, hB12⟩
    replace hB12 := below_trans hB11 hB12
    clear hB11
    go_wp2_with fail
    go_at_call 23
    refine (E5 v12 w12 hv12.sl).mono ?_
    rintro e w13 ⟨rfl, hB13⟩
    replace hB13 := below_trans hB12 hB13
    clear hB12 hv12
    go_wp2_with fail
    go_at_call 9
    refine (wakes_any _).mono ?_
    rintro e wz ⟨rfl, hBz⟩
    go_wp2
    go_ret
    exact ⟨rfl, below_trans (below_trans hA0 hB13) hBz⟩
end Go.Proofs.Ytgidhkfmelpjfaa
