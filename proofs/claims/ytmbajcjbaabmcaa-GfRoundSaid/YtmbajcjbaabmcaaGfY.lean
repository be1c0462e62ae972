/- The walk of GfRound. -/
import Derived.Test.YtmbajcjbaabmcaaGfP
namespace Go.Proofs.Ytmbajcjbaabmcaa
open Go.RowKit Go.Shelf
attribute [local go_sem] Oper.semAt_some run_store_func

/-- How many of so many powers, from the r-th on, are a. -/
def cntW (a r k : Nat) : Nat := (List.range k).countP fun i => pw (r + i) == a
theorem cntW_succ (a r k : Nat) : cntW a r (k + 1) = cntW a r k + if pw (r + k) = a then 1 else 0 := by
  unfold cntW
  rw [List.range_succ, List.countP_append]
  congr 1
  by_cases h : pw (r + k) = a
  · simp [h]
  · simp [h]
theorem cntW_front (a r k : Nat) : cntW a r (k + 1) = cntW a (r + 1) k + if pw r = a then 1 else 0 := by
  unfold cntW
  rw [List.range_succ_eq_map, List.countP_cons, List.countP_map]
  have h1 : ((fun i => pw (r + i) == a) ∘ Nat.succ) = fun i => pw (r + 1 + i) == a := by
    funext i
    simp only [Function.comp, Nat.succ_eq_add_one]
    rw [show r + (i + 1) = r + 1 + i by omega]
  rw [h1]
  congr 1
  by_cases h : pw r = a
  · simp [h]
  · simp [h]
theorem cntW_next (a r : Nat) : cntW a (r + 1) 255 = cntW a r 255 := by
  have h1 := cntW_front a r 255
  have h2 := cntW_succ a r 255
  rw [pw_more] at h2
  omega
theorem cntW_any (a r : Nat) : cntW a r 255 = cntW a 0 255 := by
  induction r with
  | zero => rfl
  | succ r ih => rw [cntW_next, ih]
theorem pows_map : pows 255 1 = (List.range 255).map pw := by
  apply List.ext_getElem?
  intro k
  rcases Nat.lt_or_ge k 255 with h | h
  · rw [pows_pw k h]; simp [h]
  · rw [List.getElem?_eq_none (by rw [pows_length]; exact h), List.getElem?_eq_none (by simp; exact h)]
theorem cntW_all (a r : Nat) (ha : a < 256) : cntW a r 255 = if a = 0 then 0 else 1 := by
  rw [cntW_any, ← pows_count a ha, pows_map, List.count, List.countP_map]
  unfold cntW
  congr 1
  funext i
  simp
theorem rest_more (n : Int) (k : Nat) : pw (restN (n + k)) = pw (restN n + k) := by
  refine pw_congr _ _ ?_
  unfold restN
  omega

set_option maxRecDepth 100000 in
set_option maxHeartbeats 2000000 in
theorem GfRound_any (a : UInt8) (n : Int) (w : World) : Calls Try.prog 4 #[eB a, .int .i64 n] w fun e w' => e = .returned (.bool true) ∧ Below w.heap.size w w' := by
  have ha : a.toNat < 256 := a.toNat_lt
  show Calls _ _ #[bV a.toNat, .int .i64 n] _ _
  generalize a.toNat = x at *
  by_cases hn1 : 1099511627776 < n
  · have d1 : decide (1099511627776 < n) = true := decide_eq_true hn1
    go_enter Try.func4, Try.ntmps4
    go_wp2_with (go_at_call 6; refine (wakes_any _).mono ?_; rintro e w1 ⟨rfl, hB1⟩)
    go_ret
    exact ⟨rfl, hB1⟩
  have d1 : decide (1099511627776 < n) = false := decide_eq_false hn1
  by_cases hn2 : n < -1099511627776
  · have d2 : decide (n < -1099511627776) = true := decide_eq_true hn2
    go_enter Try.func4, Try.ntmps4
    go_wp2_with (go_at_call 6; refine (wakes_any _).mono ?_; rintro e w1 ⟨rfl, hB1⟩)
    go_ret
    exact ⟨rfl, hB1⟩
  have d2 : decide (n < -1099511627776) = false := decide_eq_false hn2
  have Hall := Lib.hid (cntW_all x (restN n) ha)
  have hr := Lib.hid (fun k => rest_more n k)
  have hr255 := fun w => Exp_is (n + 255) (pw (restN n)) (by rw [show n + 255 = n + ((255 : Nat) : Int) by rfl, rest_more, pw_more]) w
  have hr0 := fun w => Exp_any n w
  have hsucc := Lib.hid (fun k => cntW_succ x (restN n) k)
  have hzero := Lib.hid (show cntW x (restN n) 0 = 0 from rfl)
  generalize restN n = r at *
  go_enter Try.func4, Try.ntmps4
  go_wp2_with fail
  go_loopw [5, 6] (fun z i wr => ∃ k : Nat, k ≤ 255 ∧ i = .int .i64 k ∧ z = .int .i64 (cntW x r k : Nat) ∧ cntW x r k ≤ k ∧ Below w.heap.size w wr) (fun _ i _ => 255 - (intOf i).toNat)
  case atStart => exact ⟨0, Nat.zero_le _, rfl, by rw [hzero.out]; rfl, by rw [hzero.out]; omega, Below.refl _ _⟩
  case round =>
    obtain ⟨k, hk, rfl, rfl, hck, hB⟩ := hrel
    by_cases hlt : k < 255
    · have hl : decide ((k : Int) < 255) = true := decide_eq_true (by omega)
      have e1 : IntKind.i64.wrap (n + k) = n + k := IntWalk.i64_in _ (by omega)
      have hex := fun w => Exp_is (n + k) (pw (r + k)) (hr.out k) w
      have hs := hsucc.out k
      by_cases hp : pw (r + k) = x
      · rw [if_pos hp] at hs
        have hq : ((pw (r + k) : Int) == (x : Int)) = true := by rw [hp]; simp
        have hs' := Lib.hid hs
        clear hp hs
        generalize pw (r + k) = q at *
        go_wp2_with (go_at_call 8; refine (hex _).mono ?_; rintro e w2 ⟨rfl, hB2⟩)
        all_goals exact ⟨⟨k + 1, by omega, by go_num, by rw [hs'.out]; go_num, by rw [hs'.out]; omega, below_trans hB hB2⟩, by simp [intOf]; omega⟩
      · rw [if_neg hp] at hs
        have hq : ((pw (r + k) : Int) == (x : Int)) = false := by simp; omega
        have hq' : (pw (r + k) == x) = false := by simp [hp]
        have hs' := Lib.hid hs
        clear hp hs
        generalize pw (r + k) = q at *
        go_wp2_with (go_at_call 8; refine (hex _).mono ?_; rintro e w2 ⟨rfl, hB2⟩)
        all_goals exact ⟨⟨k + 1, by omega, by go_num, by rw [hs'.out]; rfl, by rw [hs'.out]; omega, below_trans hB hB2⟩, by simp [intOf]; omega⟩
    · obtain rfl : k = 255 := by omega
      rw [Hall.out]
      have e1 : IntKind.i64.wrap (n + 255) = n + 255 := IntWalk.i64_in _ (by omega)
      by_cases hx : x = 0
      · subst hx
        rw [if_pos rfl]
        go_wp2_with (first
          | (go_at_call 8; refine (hr255 _).mono ?_; rintro e w2 ⟨rfl, hB2⟩)
          | (go_at_call 8; refine (hr0 _).mono ?_; rintro e w3 ⟨rfl, hB3⟩)
          | (go_at_call 6; refine (wakes_any _).mono ?_; rintro e w4 ⟨rfl, hB4⟩))
        go_ret
        exact ⟨rfl, below_trans hB (below_trans hB2 (below_trans hB3 hB4))⟩
      · rw [if_neg hx]
        have hx0 : ((x : Int) == 0) = false := by simp; omega
        have hx0' : (x == 0) = false := by simp [hx]
        clear hx
        go_wp2_with (first
          | (go_at_call 8; refine (hr255 _).mono ?_; rintro e w2 ⟨rfl, hB2⟩)
          | (go_at_call 8; refine (hr0 _).mono ?_; rintro e w3 ⟨rfl, hB3⟩)
          | (go_at_call 6; refine (wakes_any _).mono ?_; rintro e w4 ⟨rfl, hB4⟩))
        go_ret
        exact ⟨rfl, below_trans hB (below_trans hB2 (below_trans hB3 hB4))⟩
end Go.Proofs.Ytmbajcjbaabmcaa
