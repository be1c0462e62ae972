/- TritsTells. -/
import Derived.Test.YtmppkfiocleicaaTsC
import Derived.Test.YtmppkfiocleicaaTrY
namespace Go.Proofs.Ytmppkfiocleicaa
open Go.RowKit Go.Shelf
attribute [local go_sem] Oper.semAt_some run_store_func

theorem RLong_any (n : Int) (w : World) : Calls Try.prog 18 #[.int .i64 n] w fun e w' => e = .returned (.int .i64 (longF n)) ∧ w' = w := by
  by_cases h0 : n < 0
  · have d1 : decide (n < 0) = true := decide_eq_true h0
    have HF := Lib.hid (show longF n = -1 by unfold longF; rw [if_pos (.inl h0)])
    go_enter Try.func18, Try.ntmps18
    go_wp2
    go_ret
    exact ⟨by rw [HF.out]; rfl, rfl⟩
  · have d1 : decide (n < 0) = false := decide_eq_false h0
    by_cases h1 : 1048576 < n
    · have d2 : decide (1048576 < n) = true := decide_eq_true h1
      have HF := Lib.hid (show longF n = -1 by unfold longF; rw [if_pos (.inr (.inl h1))])
      go_enter Try.func18, Try.ntmps18
      go_wp2
      go_ret
      exact ⟨by rw [HF.out]; rfl, rfl⟩
    · have d2 : decide (1048576 < n) = false := decide_eq_false h1
      have p0 : 0 ≤ n := by omega
      have p1 : n ≤ 1048576 := by omega
      by_cases h2 : n % 5 = 0
      · have d3 : (n % 5 != 0) = false := by rw [h2]; rfl
        have HF := Lib.hid (show longF n = n / 5 * 26 by unfold longF; rw [if_neg (by omega)])
        clear h2
        go_enter Try.func18, Try.ntmps18
        go_wp2
        go_ret
        exact ⟨by rw [HF.out]; rfl, rfl⟩
      · have d3 : (n % 5 != 0) = true := by simpa using h2
        have HF := Lib.hid (show longF n = -1 by unfold longF; rw [if_pos (.inr (.inr h2))])
        clear h2
        go_enter Try.func18, Try.ntmps18
        go_wp2
        go_ret
        exact ⟨by rw [HF.out]; rfl, rfl⟩
/-- A call that answers a row and an error, whatever memory is like. -/
def Tells (f : FuncId) (bs r : List UInt8) (ev : Int) : Prop :=
  ∀ (w : World) (sv : Value), Sl eB w.heap.size w sv bs → Calls Try.prog f #[sv] w fun e w' => ∃ A c, e = .returned (.tuple #[.slice A r.length c, .int .i64 ev]) ∧ Sl eB w'.heap.size w' (.slice A r.length c) r ∧ Below w.heap.size w w'
theorem Pack_both (bs : List UInt8) (h : bs.length ≤ 2000) : ∃ r ev, Tells 10 bs r ev ∧ Tells 11 bs r ev := by
  by_cases h5 : bs.length % 5 = 0
  · obtain ⟨k, hk⟩ : ∃ k, bs.length = k * 5 := ⟨bs.length / 5, by omega⟩
    refine ⟨packL bs k, 0, fun w sv hS => ?_, fun w sv hS => ?_⟩
    · refine (Pack_yes sv bs k hk (by omega) w hS).mono ?_
      rintro e w' ⟨v, rfl, hv, hB⟩
      have hs := sl_own hv
      obtain ⟨A, c, rfl⟩ := hs.len
      exact ⟨A, c, rfl, hs, hB⟩
    · refine (RPack_yes sv bs k hk (by omega) w hS).mono ?_
      rintro e w' ⟨v, rfl, hv, hB⟩
      have hs := sl_own hv
      obtain ⟨A, c, rfl⟩ := hs.len
      exact ⟨A, c, rfl, hs, hB⟩
  · refine ⟨[], 2, fun w sv hS => ?_, fun w sv hS => ?_⟩
    · obtain ⟨A, c, rfl⟩ := hS.len
      refine (Pack_no A bs.length c h5 (by omega) w).mono ?_
      rintro e w' ⟨rfl, hB⟩
      exact ⟨none, 0, rfl, Sl.nil _ _ _, hB⟩
    · obtain ⟨A, c, rfl⟩ := hS.len
      refine (RPack_no A bs.length c h5 (by omega) w).mono ?_
      rintro e w' ⟨rfl, hB⟩
      exact ⟨none, 0, rfl, Sl.nil _ _ _, hB⟩
theorem Unpack_both (bs : List UInt8) (h : bs.length ≤ 2000) : ∃ r ev, Tells 12 bs r ev ∧ Tells 13 bs r ev := by
  by_cases h5 : bs.length % 26 = 0
  · obtain ⟨k, hk⟩ : ∃ k, bs.length = k * 26 := ⟨bs.length / 26, by omega⟩
    cases hg : eachG backG bs 26 k with
    | ok r =>
      refine ⟨r, 0, fun w sv hS => ?_, fun w sv hS => ?_⟩
      · refine (Unpack_yes sv bs k hk (by omega) w hS).mono ?_
        rintro e w' ⟨hB, ⟨v, r', hr, rfl, hv⟩ | ⟨m, hm, _⟩⟩
        · rw [hg] at hr
          cases hr
          have hs := sl_own hv
          obtain ⟨A, c, rfl⟩ := hs.len
          exact ⟨A, c, rfl, hs, hB⟩
        · rw [hg] at hm; cases hm
      · refine (RUnpack_yes sv bs k hk (by omega) w hS).mono ?_
        rintro e w' ⟨hB, ⟨v, r', hr, rfl, hv⟩ | ⟨m, hm, _⟩⟩
        · rw [hg] at hr
          cases hr
          have hs := sl_own hv
          obtain ⟨A, c, rfl⟩ := hs.len
          exact ⟨A, c, rfl, hs, hB⟩
        · rw [hg] at hm; cases hm
    | error m =>
      refine ⟨[], m, fun w sv hS => ?_, fun w sv hS => ?_⟩
      · refine (Unpack_yes sv bs k hk (by omega) w hS).mono ?_
        rintro e w' ⟨hB, ⟨v, r', hr, _, _⟩ | ⟨m', hm, rfl⟩⟩
        · rw [hg] at hr; cases hr
        · rw [hg] at hm; cases hm; exact ⟨none, 0, rfl, Sl.nil _ _ _, hB⟩
      · refine (RUnpack_yes sv bs k hk (by omega) w hS).mono ?_
        rintro e w' ⟨hB, ⟨v, r', hr, _, _⟩ | ⟨m', hm, rfl⟩⟩
        · rw [hg] at hr; cases hr
        · rw [hg] at hm; cases hm; exact ⟨none, 0, rfl, Sl.nil _ _ _, hB⟩
  · refine ⟨[], 2, fun w sv hS => ?_, fun w sv hS => ?_⟩
    · obtain ⟨A, c, rfl⟩ := hS.len
      refine (Unpack_no A bs.length c h5 (by omega) w).mono ?_
      rintro e w' ⟨rfl, hB⟩
      exact ⟨none, 0, rfl, Sl.nil _ _ _, hB⟩
    · obtain ⟨A, c, rfl⟩ := hS.len
      refine (RUnpack_no A bs.length c h5 (by omega) w).mono ?_
      rintro e w' ⟨rfl, hB⟩
      exact ⟨none, 0, rfl, Sl.nil _ _ _, hB⟩

set_option maxRecDepth 100000 in
set_option maxHeartbeats 1000000 in
theorem TritsTells_big (L5 L26 : List UInt8) (A0 A1 : Option Addr) (l0 c0 l1 c1 : Nat) (n : Int) (w : World) (h : 2000 < l0 ∨ 2000 < l1) :
    Calls Try.prog 3 #[aB L5, aB L26, .slice A0 l0 c0, .slice A1 l1 c1, .int .i64 n] w fun e w' => e = .returned (.bool true) ∧ Below w.heap.size w w' := by
  have hw := wakes_any
  have hA := ((Below.refl w.heap.size w).alloc (Nat.le_refl _) (.cells (L5.map eB).toArray 22)).alloc (by simp) (.cells (L26.map eB).toArray 23)
  have h5 := cells_aB L5
  have h26 := cells_aB L26
  by_cases h0 : 2000 < l0
  · have d1 : decide ((2000 : Int) < (l0 : Int)) = true := decide_eq_true (by omega)
    clear h
    go_enter Try.func3, Try.ntmps3
    go_wp2_with (go_at_call 7; refine (hw _).mono ?_; rintro e w' ⟨rfl, hB⟩)
    go_ret
    exact ⟨rfl, below_trans hA hB⟩
  · have d1 : decide ((2000 : Int) < (l0 : Int)) = false := decide_eq_false (by omega)
    have d2 : decide ((2000 : Int) < (l1 : Int)) = true := decide_eq_true (by omega)
    clear h
    go_enter Try.func3, Try.ntmps3
    go_wp2_with (go_at_call 7; refine (hw _).mono ?_; rintro e w' ⟨rfl, hB⟩)
    go_ret
    exact ⟨rfl, below_trans hA hB⟩
end Go.Proofs.Ytmppkfiocleicaa
