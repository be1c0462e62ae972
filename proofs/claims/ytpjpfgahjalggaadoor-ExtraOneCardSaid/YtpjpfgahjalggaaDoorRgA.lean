/- Contract of sums.Right. -/
import Derived.Test.YtpjpfgahjalggaaDoorMS
namespace Go.Proofs.YtpjpfgahjalggaaDoor
open Go.RowKit Go.Shelf
attribute [local go_sem] Oper.semAt_some run_store_func

theorem may_any (k : Int) (w : World) : Calls Tryd.prog 27 #[.int .i64 k] w fun e w' => e = .returned (.bool (mayB k)) ∧ w = w' := callsIn_inProg (may_in k 0 w)
/-- Whether sums may be a word's of n letters. -/
def rightB (a b c n : Int) : Bool := mayB n && (decide (0 ≤ a) && (decide (a < n) && (decide (0 ≤ b) && (decide (b < 4) && (decide (0 ≤ c) && decide (c ≤ 6 * n))))))
set_option maxRecDepth 100000 in
set_option maxHeartbeats 2000000 in
theorem Right_any (a b c n : Int) (w : World) :
    Calls Tryd.prog 24 #[v3 a b c, .int .i64 n] w fun e w' => e = .returned (.bool (rightB a b c n)) ∧ Below w.heap.size w w' := by
  have hmy := may_any n
  have hcl : (v3 a b c).cells = c3 a b c := rfl
  have hr := Rowed.new w 24 (c3 a b c)
  have hB := below_alloc w (.cells (c3 a b c) 24)
  have k0 := hr.cell 0
  have k1 := hr.cell 1
  have k2 := hr.cell 2
  simp at k0 k1 k2
  have hn : mayB n = true → 2 ≤ n ∧ n ≤ 1000 := by
    intro h
    unfold mayB at h
    rw [Bool.and_eq_true, decide_eq_true_eq, decide_eq_true_eq] at h
    omega
  cases hm : mayB n with
  | false =>
    have Hv := Lib.hid (show rightB a b c n = false by rw [rightB, hm, Bool.false_and])
    rw [hm] at hmy
    go_enter Tryd.func24, Tryd.ntmps24
    go_wp2_with (go_at_call 27; refine (hmy _).mono ?_; rintro e w' ⟨rfl, rfl⟩)
    go_ret
    exact ⟨by rw [Hv.out]; rfl, hB⟩
  | true =>
    obtain ⟨hn2, hn1⟩ := hn hm
    rw [hm] at hmy
    have e6 : IntKind.i64.wrap (6 * n) = 6 * n := IntWalk.i64_in _ (by omega)
    have w6 : wrap64 (6 * n) = 6 * n := IntWalk.wrap64_in _ (by omega)
    cases h0 : decide (0 ≤ a) with
    | false =>
      have Hv := Lib.hid (show rightB a b c n = false by rw [rightB, hm, h0]; simp)
      go_enter Tryd.func24, Tryd.ntmps24
      go_wp2_with (go_at_call 27; refine (hmy _).mono ?_; rintro e w' ⟨rfl, rfl⟩)
      go_ret
      exact ⟨by rw [Hv.out]; rfl, hB⟩
    | true =>
      cases h1 : decide (a < n) with
      | false =>
        have Hv := Lib.hid (show rightB a b c n = false by rw [rightB, hm, h0, h1]; simp)
        go_enter Tryd.func24, Tryd.ntmps24
        go_wp2_with (go_at_call 27; refine (hmy _).mono ?_; rintro e w' ⟨rfl, rfl⟩)
        go_ret
        exact ⟨by rw [Hv.out]; rfl, hB⟩
      | true =>
        cases h2 : decide (0 ≤ b) with
        | false =>
          have Hv := Lib.hid (show rightB a b c n = false by rw [rightB, hm, h0, h1, h2]; simp)
          go_enter Tryd.func24, Tryd.ntmps24
          go_wp2_with (go_at_call 27; refine (hmy _).mono ?_; rintro e w' ⟨rfl, rfl⟩)
          go_ret
          exact ⟨by rw [Hv.out]; rfl, hB⟩
        | true =>
          cases h3 : decide (b < 4) with
          | false =>
            have Hv := Lib.hid (show rightB a b c n = false by rw [rightB, hm, h0, h1, h2, h3]; simp)
            go_enter Tryd.func24, Tryd.ntmps24
            go_wp2_with (go_at_call 27; refine (hmy _).mono ?_; rintro e w' ⟨rfl, rfl⟩)
            go_ret
            exact ⟨by rw [Hv.out]; rfl, hB⟩
          | true =>
            cases h4 : decide (0 ≤ c) with
            | false =>
              have Hv := Lib.hid (show rightB a b c n = false by rw [rightB, hm, h0, h1, h2, h3, h4]; simp)
              go_enter Tryd.func24, Tryd.ntmps24
              go_wp2_with (go_at_call 27; refine (hmy _).mono ?_; rintro e w' ⟨rfl, rfl⟩)
              go_ret
              exact ⟨by rw [Hv.out]; rfl, hB⟩
            | true =>
              cases h5 : decide (c ≤ 6 * n) with
              | false =>
                have Hv := Lib.hid (show rightB a b c n = false by rw [rightB, hm, h0, h1, h2, h3, h4, h5]; simp)
                go_enter Tryd.func24, Tryd.ntmps24
                go_wp2_with (go_at_call 27; refine (hmy _).mono ?_; rintro e w' ⟨rfl, rfl⟩)
                go_ret
                exact ⟨by rw [Hv.out]; rfl, hB⟩
              | true =>
                have Hv := Lib.hid (show rightB a b c n = true by rw [rightB, hm, h0, h1, h2, h3, h4, h5]; rfl)
                go_enter Tryd.func24, Tryd.ntmps24
                go_wp2_with (go_at_call 27; refine (hmy _).mono ?_; rintro e w' ⟨rfl, rfl⟩)
                go_ret
                exact ⟨by rw [Hv.out]; rfl, hB⟩
theorem rightB_nat {a b c n : Int} (h : rightB a b c n = true) : ∃ a' b' c' n' : Nat, a = a' ∧ b = b' ∧ c = c' ∧ n = n' ∧ 2 ≤ n' ∧ n' ≤ 1000 ∧ a' < n' ∧ b' < 4 ∧ c' ≤ 6 * n' := by
  unfold rightB mayB at h
  simp only [Bool.and_eq_true, decide_eq_true_eq] at h
  exact ⟨a.toNat, b.toNat, c.toNat, n.toNat, by omega, by omega, by omega, by omega, by omega, by omega, by omega, by omega, by omega⟩
end Go.Proofs.YtpjpfgahjalggaaDoor
