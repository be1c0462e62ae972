/- Contract of word.Junction. -/
import Derived.Test.YtnlndaknljbhcaaDoorLtAZ
import Derived.Test.YtnlndaknljbhcaaDoorWdAZ
namespace Go.Proofs.YtnlndaknljbhcaaDoor
open Go.RowKit Go.Shelf
attribute [local go_sem] Oper.semAt_some run_store_func

/-- The first letter's number that is neither of two. -/
def jN (a b : UInt8) : Nat := if a ≠ 65 ∧ b ≠ 65 then 0 else if a ≠ 67 ∧ b ≠ 67 then 1 else 2
theorem lett_n : letterOf ((0 : Nat) : Int) = 65 ∧ letterOf ((1 : Nat) : Int) = 67 ∧ letterOf ((2 : Nat) : Int) = 71 := ⟨by kernel_rfl, by kernel_rfl, by kernel_rfl⟩
theorem jN_le (a b : UInt8) : jN a b ≤ 2 := by unfold jN; split <;> (try split) <;> omega
theorem jN_hit (a b : UInt8) (k : Nat) (h : k < jN a b) : letterOf (k : Int) = a ∨ letterOf (k : Int) = b := by
  obtain ⟨l0, l1, -⟩ := lett_n
  unfold jN at h
  by_cases h0 : a ≠ 65 ∧ b ≠ 65
  · rw [if_pos h0] at h; omega
  · rw [if_neg h0] at h
    have e0 : a = 65 ∨ b = 65 := by
      by_cases h1 : a = 65
      · exact .inl h1
      · exact .inr (Decidable.byContradiction fun h2 => h0 ⟨h1, h2⟩)
    by_cases h1 : a ≠ 67 ∧ b ≠ 67
    · rw [if_pos h1] at h
      obtain rfl : k = 0 := by omega
      rw [l0]
      rcases e0 with e | e
      · exact .inl e.symm
      · exact .inr e.symm
    · rw [if_neg h1] at h
      have e1 : a = 67 ∨ b = 67 := by
        by_cases h2 : a = 67
        · exact .inl h2
        · exact .inr (Decidable.byContradiction fun h3 => h1 ⟨h2, h3⟩)
      rcases (show k = 0 ∨ k = 1 by omega) with rfl | rfl
      · rw [l0]
        rcases e0 with e | e
        · exact .inl e.symm
        · exact .inr e.symm
      · rw [l1]
        rcases e1 with e | e
        · exact .inl e.symm
        · exact .inr e.symm
theorem jN_free (a b : UInt8) : letterOf (jN a b : Nat) ≠ a ∧ letterOf (jN a b : Nat) ≠ b := by
  obtain ⟨l0, l1, l2⟩ := lett_n
  unfold jN
  by_cases h0 : a ≠ 65 ∧ b ≠ 65
  · rw [if_pos h0, l0]; exact ⟨fun e => h0.1 e.symm, fun e => h0.2 e.symm⟩
  · rw [if_neg h0]
    by_cases h1 : a ≠ 67 ∧ b ≠ 67
    · rw [if_pos h1, l1]; exact ⟨fun e => h1.1 e.symm, fun e => h1.2 e.symm⟩
    · rw [if_neg h1, l2]
      constructor
      · rintro rfl
        exact h0 ⟨by decide, fun e => h1 ⟨by decide, by rw [e]; decide⟩⟩
      · rintro rfl
        exact h0 ⟨fun e => h1 ⟨by rw [e]; decide, by decide⟩, by decide⟩
set_option maxRecDepth 100000 in
set_option maxHeartbeats 1000000 in
theorem Junction_any (a b : UInt8) (w : World) (hT : Tab w) :
    Calls Tryd.prog 18 #[eB a, eB b] w fun e w' => e = .returned (eB (letterOf (jN a b : Nat))) ∧ w = w' := by
  have hL := fun n : Int => Letter_any n w hT
  have hj := jN_le a b
  go_enter Tryd.func18, Tryd.ntmps18
  go_wp2_with fail
  go_loopw [5] (fun t wr => ∃ k : Nat, k ≤ jN a b ∧ t = .int .i64 k ∧ wr = w) (fun t _ => jN a b - (intOf t).toNat)
  case atStart => exact ⟨0, Nat.zero_le _, rfl, rfl⟩
  case round =>
    obtain ⟨k, hk, rfl, rfl⟩ := hrel
    by_cases hlt : k < jN a b
    · have hh := jN_hit a b k hlt
      have hLk := hL k
      have Hk := Lib.hid hlt
      have hk9 : k ≤ 2 := by omega
      generalize letterOf (k : Int) = l at *
      by_cases ha : l = a
      · have f1 : ((l.toNat : Int) == (a.toNat : Int)) = true := by rw [ha]; simp
        clear hL hh hk hlt hj hT
        go_wp2_with (go_at_call 42; refine hLk.mono ?_; rintro e w' ⟨rfl, rfl⟩)
        go_roundw
        case rel => exact ⟨k + 1, Hk.out, by go_num, trivial⟩
        case measure => have := Hk.out; simp [intOf]; omega
      · have hb : l = b := hh.resolve_left ha
        have f1 : ((l.toNat : Int) == (a.toNat : Int)) = false := beq_eq_false_iff_ne.2 (u8_neR _ _ ha)
        have f2 : ((l.toNat : Int) == (b.toNat : Int)) = true := by rw [hb]; simp
        clear hL hh hk hlt hj hT ha hb
        go_wp2_with (go_at_call 42; refine hLk.mono ?_; rintro e w' ⟨rfl, rfl⟩)
        go_roundw
        case rel => exact ⟨k + 1, Hk.out, by go_num, trivial⟩
        case measure => have := Hk.out; simp [intOf]; omega
    · have hkj : k = jN a b := by omega
      have hf := jN_free a b
      rw [← hkj] at hf
      have hLk := hL k
      have Hkj := Lib.hid hkj
      obtain ⟨l, hl⟩ : ∃ l, letterOf (k : Int) = l := ⟨_, rfl⟩
      rw [hl] at hLk hf
      have Hl := Lib.hid hl
      have f1 : ((l.toNat : Int) == (a.toNat : Int)) = false := beq_eq_false_iff_ne.2 (u8_neR _ _ hf.1)
      have f2 : ((l.toNat : Int) == (b.toNat : Int)) = false := beq_eq_false_iff_ne.2 (u8_neR _ _ hf.2)
      clear hL hk hlt hj hT hf hl hkj
      go_wp2_with fail
      go_at_call 42
      refine hLk.mono ?_
      rintro e w' ⟨rfl, rfl⟩
      go_wp2_with fail
      go_at_call 42
      refine hLk.mono ?_
      rintro e w' ⟨rfl, rfl⟩
      go_wp2_with fail
      go_at_call 42
      refine hLk.mono ?_
      rintro e w' ⟨rfl, rfl⟩
      go_wp2_with fail
      go_ret
      exact ⟨by rw [← Hkj.out, Hl.out]; rfl, rfl⟩
end Go.Proofs.YtnlndaknljbhcaaDoor
/- Contracts of word.may and word.Long. -/
namespace Go.Proofs.YtnlndaknljbhcaaDoor
open Go.RowKit Go.Shelf
attribute [local go_sem] Oper.semAt_some run_store_func

theorem wmay_yes (k : Int) (h : 2 ≤ k) (h2 : k ≤ 800) (w : World) : Calls Tryd.prog 43 #[.int .i64 k] w fun e w' => e = .returned (.bool true) ∧ w = w' := by
  go_enter Tryd.func43, Tryd.ntmps43
  go_wp2
  go_ret
  exact ⟨rfl, rfl⟩
theorem wmay_no (k : Int) (h : k < 2 ∨ 800 < k) (w : World) : Calls Tryd.prog 43 #[.int .i64 k] w fun e w' => e = .returned (.bool false) ∧ w = w' := by
  by_cases h1 : k < 2
  · have h2 : ¬ 2 ≤ k := by omega
    clear h
    go_enter Tryd.func43, Tryd.ntmps43
    go_wp2
    go_ret
    exact ⟨rfl, rfl⟩
  · have h2 : 2 ≤ k := by omega
    have h3 : ¬ k ≤ 800 := by omega
    clear h h1
    go_enter Tryd.func43, Tryd.ntmps43
    go_wp2
    go_ret
    exact ⟨rfl, rfl⟩
theorem WLong_no (k : Int) (h : k < 2 ∨ 800 < k) (w : World) : Calls Tryd.prog 20 #[.int .i64 k] w fun e w' => e = .returned (.int .i64 (-1)) ∧ w = w' := by
  have hm := wmay_no k h w
  clear h
  go_enter Tryd.func20, Tryd.ntmps20
  go_wp2_with fail
  go_at_call 43
  refine hm.mono ?_
  rintro e w' ⟨rfl, rfl⟩
  go_wp2_with fail
  go_ret
  exact ⟨rfl, rfl⟩
def wlongN (n : Nat) : Nat := n + 1 + 3 * longN n
theorem long_facts (n L : Nat) (h : n ≤ 800) (hL : L ≤ 1000) :
    (wrap64 ((n : Int) + 1) = (n : Int) + 1 ∧ IntKind.i64.wrap ((n : Int) + 1) = (n : Int) + 1) ∧ (wrap64 (3 * (L : Int)) = 3 * (L : Int) ∧ IntKind.i64.wrap (3 * (L : Int)) = 3 * (L : Int)) ∧
    wrap64 ((n : Int) + 1 + 3 * (L : Int)) = ((n + 1 + 3 * L : Nat) : Int) ∧ IntKind.i64.wrap ((n : Int) + 1 + 3 * (L : Int)) = ((n + 1 + 3 * L : Nat) : Int) :=
  ⟨rw_is _ _ rfl (by omega) (by omega), rw_is _ _ rfl (by omega) (by omega), rw_is _ _ (by omega) (by omega) (by omega)⟩
theorem WLong_yes (n : Nat) (h2 : 2 ≤ n) (h8 : n ≤ 800) (hl : longN n ≤ 1000) (w : World) : Calls Tryd.prog 20 #[.int .i64 n] w fun e w' => e = .returned (.int .i64 (wlongN n : Nat)) ∧ Below w.heap.size w w' := by
  have hm := wmay_yes n (by omega) (by omega) w
  have hL := Long_yes n h2 (by omega) w
  have hf := long_facts n (longN n) h8 hl
  unfold wlongN
  generalize longN n = L at *
  have HF := Lib.hid hf
  clear hf hl h2 h8
  go_enter Tryd.func20, Tryd.ntmps20
  go_wp2_with fail
  go_at_call 43
  refine hm.mono ?_
  rintro e w' ⟨rfl, rfl⟩
  obtain ⟨⟨a1, a2⟩, ⟨b1, b2⟩, c1, c2⟩ := HF.out
  go_wp2_with fail
  go_at_call 44
  refine hL.mono ?_
  rintro e w2 ⟨rfl, hB⟩
  go_wp2_with fail
  go_ret
  exact ⟨rfl, hB⟩
end Go.Proofs.YtnlndaknljbhcaaDoor
