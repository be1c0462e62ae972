/- The walk of GfPowers. -/
import Derived.Test.YtmbajcjbaabmcaaGfP
namespace Go.Proofs.Ytmbajcjbaabmcaa
open Go.RowKit Go.Shelf
attribute [local go_sem] Oper.semAt_some run_store_func

theorem rest_add (n m : Int) : restN (n + m) % 255 = (restN n + restN m) % 255 := by unfold restN; omega
theorem pows_add (n m : Int) : mulN (pw (restN n)) (pw (restN m)) = pw (restN (n + m)) := by
  rw [pw_mul]
  exact pw_congr _ _ (rest_add n m).symm
theorem powk_add (k : Nat) (n m : Int) : mulN (pw (k * restN n)) (pw (k * restN m)) = pw (k * restN (n + m)) := by
  rw [pw_mul]
  refine pw_congr _ _ ?_
  rw [← Nat.mul_add, Nat.mul_mod, ← rest_add, ← Nat.mul_mod]
theorem powk_neg (k : Nat) : pw (k * restN (-1)) = pw (restN (-(k : Int))) := by
  refine pw_congr _ _ ?_
  rw [show restN (-1) = 254 by decide]
  unfold restN
  omega
theorem powk_three (k : Nat) (n : Int) : powT (pw (k * restN n)) 3 = pw (k * restN (3 * n)) := by
  rw [powT_some _ 3 (pw_pos _), show restN 3 = 3 by decide]
  have h1 : lg (pw (k * restN n)) = k * restN n % 255 := by
    rw [← pw_mod (k * restN n)]
    exact lg_pw _ (Nat.mod_lt _ (by omega))
  rw [h1]
  refine pw_congr _ _ ?_
  have h2 : restN (3 * n) % 255 = (restN n * 3) % 255 := by unfold restN; omega
  rw [Nat.mul_mod k (restN (3 * n)), h2, ← Nat.mul_mod, ← Nat.mul_assoc, Nat.mul_mod (k * restN n % 255) 3, Nat.mod_mod, ← Nat.mul_mod]
theorem pow_of_two (n : Int) : powT 2 n = pw (restN n) := by
  rw [powT_some 2 n (by decide), show lg 2 = 1 from lg_pw 1 (by decide), Nat.one_mul]

set_option maxRecDepth 100000 in
set_option maxHeartbeats 4000000 in
theorem GfPowers_any (a : UInt8) (n m : Int) (w : World) : Calls Try.prog 3 #[eB a, .int .i64 n, .int .i64 m] w fun e w' => e = .returned (.bool true) ∧ Below w.heap.size w w' := by
  have ha : a.toNat < 256 := a.toNat_lt
  show Calls _ _ #[bV a.toNat, .int .i64 n, .int .i64 m] _ _
  generalize a.toNat = x at *
  by_cases hn1 : 1073741824 < max n m
  · have d1 : decide (1073741824 < max n m) = true := decide_eq_true hn1
    go_enter Try.func3, Try.ntmps3
    go_wp2_with (go_at_call 6; refine (wakes_any _).mono ?_; rintro e w1 ⟨rfl, hB1⟩)
    all_goals first
      | (go_ret; exact ⟨rfl, hB1⟩)
      | (exfalso; omega)
  have d1 : decide (1073741824 < max n m) = false := decide_eq_false hn1
  by_cases hn2 : min n m < -1073741824
  · have d2 : decide (min n m < -1073741824) = true := decide_eq_true hn2
    go_enter Try.func3, Try.ntmps3
    go_wp2_with (go_at_call 6; refine (wakes_any _).mono ?_; rintro e w1 ⟨rfl, hB1⟩)
    all_goals first
      | (go_ret; exact ⟨rfl, hB1⟩)
      | (exfalso; omega)
  have d2 : decide (min n m < -1073741824) = false := decide_eq_false hn2
  have b1 : n ≤ 1073741824 := by omega
  have b2 : m ≤ 1073741824 := by omega
  have b3 : -1073741824 ≤ n := by omega
  have b4 : -1073741824 ≤ m := by omega
  have w1 : IntKind.i64.wrap (n + m) = n + m := IntWalk.i64_in _ (by omega)
  have w2 : IntKind.i64.wrap (3 * n) = 3 * n := IntWalk.i64_in _ (by omega)
  have en := fun w => Exp_any n w
  have em := fun w => Exp_any m w
  have enm := fun w => Exp_any (n + m) w
  have mm := fun w => Mul_is (pw (restN n)) (pw (restN m)) (pw (restN (n + m))) (pw_lt _) (pw_lt _) (pows_add n m) w
  have p2 := fun w => Pow_any 2 n (by decide) w
  rw [pow_of_two] at p2
  have z1 : ((pw (restN n) : Int) == 0) = false := by have := pw_pos (restN n); simp; omega
  have z1' : (pw (restN n) == 0) = false := by have := pw_pos (restN n); simp; omega
  by_cases h0 : x = 0
  · subst h0
    have l0 := Log_zero
    have p00 := fun w => Pow_nought 0 w
    have p0n := fun w => Pow_any 0 n (by decide) w
    have hz : (n == 0) = true ∨ ((n == 0) = false ∧ powT 0 n = 0) := by
      by_cases h : n = 0
      · exact .inl (by simp [h])
      · exact .inr ⟨by simp [h], by rw [powT, if_neg h, if_pos rfl]⟩
    generalize pw (restN n) = a1 at *
    generalize pw (restN m) = a2 at *
    generalize pw (restN (n + m)) = a3 at *
    generalize powT 0 n = a4 at *
    clear ha
    go_enter Try.func3, Try.ntmps3
    go_wp2_with fail
    all_goals (try (exfalso; omega))
    all_goals
      go_at_call 8
      refine (en _).mono ?_
      rintro e v1 ⟨rfl, hB1⟩
      go_wp2_with fail
      go_at_call 8
      refine (em _).mono ?_
      rintro e v2 ⟨rfl, hB2⟩
      go_wp2_with fail
      go_at_call 7
      refine (mm _).mono ?_
      rintro e v3 ⟨rfl, hB3⟩
      go_wp2_with fail
      go_at_call 8
      refine (enm _).mono ?_
      rintro e v4 ⟨rfl, hB4⟩
      go_wp2_with fail
      go_at_call 8
      refine (en _).mono ?_
      rintro e v5 ⟨rfl, hB5⟩
      go_wp2_with fail
      go_at_call 9
      refine (p2 _).mono ?_
      rintro e v6 ⟨rfl, hB6⟩
      go_wp2_with fail
      go_at_call 8
      refine (en _).mono ?_
      rintro e v7 ⟨rfl, hB7⟩
      go_wp2_with fail
      go_at_call 10
      refine (l0 _).mono ?_
      rintro e w' ⟨rfl, rfl⟩
      go_wp2_with fail
      go_at_call 9
      refine (p00 _).mono ?_
      rintro e w' ⟨rfl, rfl⟩
      have hBw := below_trans hB1 (below_trans hB2 (below_trans hB3 (below_trans hB4 (below_trans hB5 (below_trans hB6 hB7)))))
      clear hB1 hB2 hB3 hB4 hB5 hB6 hB7 en em enm mm p2 l0 p00
      rcases hz with hz | ⟨hz, h4⟩
      · go_wp2_with (go_at_call 6; refine (wakes_any _).mono ?_; rintro e v9 ⟨rfl, hB9⟩)
        go_ret
        exact ⟨rfl, below_trans hBw hB9⟩
      · rw [h4] at p0n
        clear h4
        go_wp2_with fail
        go_at_call 9
        refine (p0n _).mono ?_
        rintro e v8 ⟨rfl, hB8⟩
        go_wp2_with (go_at_call 6; refine (wakes_any _).mono ?_; rintro e v9 ⟨rfl, hB9⟩)
        go_ret
        exact ⟨rfl, below_trans hBw (below_trans hB8 hB9)⟩
  · have hlog := fun w => Log_any x ha h0 w
    have hinv := fun w => Inv_any x ha h0 w
    obtain ⟨k, hk, hpk⟩ := pw_all x ha h0
    have hlg : lg x = k := by rw [← hpk]; exact lg_pw k hk
    have hPow : ∀ (j : Int) w, Calls Try.prog 9 #[bV x, .int .i64 j] w fun e w' => e = .returned (bV (pw (k * restN j))) ∧ Below w.heap.size w w' := by
      intro j w
      have h := Pow_any x j ha w
      rwa [powT_some x j h0, hlg] at h
    have pn := fun w => hPow n w
    have pm := fun w => hPow m w
    have pnm := fun w => hPow (n + m) w
    have p3n := fun w => hPow (3 * n) w
    have pneg := fun w => hPow (-1) w
    rw [powk_neg] at pneg
    have mk := fun w => Mul_is (pw (k * restN n)) (pw (k * restN m)) (pw (k * restN (n + m))) (pw_lt _) (pw_lt _) (powk_add k n m) w
    have p3 := fun w => Pow_any (pw (k * restN n)) 3 (pw_lt _) w
    rw [powk_three] at p3
    have ek := fun w => Exp_is (k : Int) x (by rw [pw_rest, hpk]) w
    have hx0 : ((x : Int) == 0) = false := by simp; omega
    have hx0' : (x == 0) = false := by simp [h0]
    have Hpk := Lib.hid hpk
    have lk : decide ((k : Int) < 255) = true := decide_eq_true (by omega)
    clear hlg hpk h0 hPow
    generalize pw (restN n) = a1 at *
    generalize pw (restN m) = a2 at *
    generalize pw (restN (n + m)) = a3 at *
    generalize pw (k * restN n) = c1 at *
    generalize pw (k * restN m) = c2 at *
    generalize pw (k * restN (n + m)) = c3 at *
    generalize pw (k * restN (3 * n)) = c4 at *
    clear ha
    go_enter Try.func3, Try.ntmps3
    go_wp2_with fail
    all_goals (try (exfalso; omega))
    all_goals
      go_at_call 8
      refine (en _).mono ?_
      rintro e v1 ⟨rfl, hB1⟩
      go_wp2_with fail
      go_at_call 8
      refine (em _).mono ?_
      rintro e v2 ⟨rfl, hB2⟩
      go_wp2_with fail
      go_at_call 7
      refine (mm _).mono ?_
      rintro e v3 ⟨rfl, hB3⟩
      go_wp2_with fail
      go_at_call 8
      refine (enm _).mono ?_
      rintro e v4 ⟨rfl, hB4⟩
      go_wp2_with fail
      go_at_call 8
      refine (en _).mono ?_
      rintro e v5 ⟨rfl, hB5⟩
      go_wp2_with fail
      go_at_call 9
      refine (p2 _).mono ?_
      rintro e v6 ⟨rfl, hB6⟩
      go_wp2_with fail
      go_at_call 8
      refine (en _).mono ?_
      rintro e v7 ⟨rfl, hB7⟩
      have hBw := below_trans hB1 (below_trans hB2 (below_trans hB3 (below_trans hB4 (below_trans hB5 (below_trans hB6 hB7)))))
      clear hB1 hB2 hB3 hB4 hB5 hB6 hB7 en em enm mm p2
      go_wp2_with fail
      go_at_call 10
      refine (hlog _).mono ?_
      rintro e v8 ⟨k2, hk2, hp2, rfl, hB8⟩
      obtain rfl : k2 = k := pw_inj k2 k hk2 hk (by rw [hp2, Hpk.out])
      clear hp2 hlog
      go_wp2_with fail
      go_at_call 11
      refine (hinv _).mono ?_
      rintro e v9 ⟨k3, hk3, hp3, rfl, hB9⟩
      obtain rfl : k3 = k2 := pw_inj k3 k2 hk3 hk (by rw [hp3, Hpk.out])
      clear hp3 hinv
      generalize pw (restN (-(k3 : Int))) = iv at *
      go_wp2_with fail
      go_at_call 8
      refine (ek _).mono ?_
      rintro e v10 ⟨rfl, hB10⟩
      go_wp2_with fail
      go_at_call 9
      refine (pn _).mono ?_
      rintro e v11 ⟨rfl, hB11⟩
      go_wp2_with fail
      go_at_call 9
      refine (pm _).mono ?_
      rintro e v12 ⟨rfl, hB12⟩
      go_wp2_with fail
      go_at_call 7
      refine (mk _).mono ?_
      rintro e v13 ⟨rfl, hB13⟩
      go_wp2_with fail
      go_at_call 9
      refine (pnm _).mono ?_
      rintro e v14 ⟨rfl, hB14⟩
      go_wp2_with fail
      go_at_call 9
      refine (pneg _).mono ?_
      rintro e v15 ⟨rfl, hB15⟩
      go_wp2_with fail
      go_at_call 9
      refine (pn _).mono ?_
      rintro e v16 ⟨rfl, hB16⟩
      go_wp2_with fail
      go_at_call 9
      refine (p3 _).mono ?_
      rintro e v17 ⟨rfl, hB17⟩
      go_wp2_with fail
      go_at_call 9
      refine (p3n _).mono ?_
      rintro e v18 ⟨rfl, hB18⟩
      go_wp2_with (go_at_call 6; refine (wakes_any _).mono ?_; rintro e v19 ⟨rfl, hB19⟩)
      go_ret
      exact ⟨rfl, below_trans hBw (below_trans hB8 (below_trans hB9 (below_trans hB10 (below_trans hB11 (below_trans hB12 (below_trans hB13 (below_trans hB14 (below_trans hB15 (below_trans hB16 (below_trans hB17 (below_trans hB18 hB19)))))))))))⟩
end Go.Proofs.Ytmbajcjbaabmcaa
