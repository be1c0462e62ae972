/- TritsBack. -/
import Derived.Test.YtmppkfiocleicaaTrX
import Derived.Test.YtmppkfiocleicaaTrM
namespace Go.Proofs.Ytmppkfiocleicaa
open Go.RowKit Go.Shelf
attribute [local go_sem] Oper.semAt_some run_store_func

theorem beq_dec (a b : List UInt8) : (a == b) = decide (a = b) := by
  rw [Bool.eq_iff_iff]; simp
theorem same_any (sa sb : Value) (a b : List UInt8) (B : Nat) (w : World) (ha : Sl eB B w sa a) (hb : Sl eB B w sb b) :
    Calls Try.prog 16 #[sa, sb] w fun e w' => e = .returned (.bool (decide (a = b))) ∧ w = w' := by
  have ra := run_str (P := Try.prog) ha 24 9 5 Try.underlying24 Try.underlying5 Try.underlying9
  have rb := run_str (P := Try.prog) hb 24 9 5 Try.underlying24 Try.underlying5 Try.underlying9
  obtain ⟨Aa, ca, rfl⟩ := ha.len
  obtain ⟨Ab, cb, rfl⟩ := hb.len
  clear ha hb
  go_enter Try.func16, Try.ntmps16
  go_wp2
  go_ret
  exact ⟨by rw [← beq_dec]; rfl, rfl⟩
theorem same_eq (sa sb : Value) (a : List UInt8) (B : Nat) (w : World) (ha : Sl eB B w sa a) (hb : Sl eB B w sb a) :
    Calls Try.prog 16 #[sa, sb] w fun e w' => e = .returned (.bool true) ∧ w = w' := by
  have h := same_any sa sb a a B w ha hb
  rwa [decide_eq_true (rfl : a = a)] at h

set_option maxRecDepth 100000 in
set_option maxHeartbeats 4000000 in
theorem TritsBack_any (sv : Value) (bs : List UInt8) (w : World) (hS : Sl eB w.heap.size w sv bs) :
    Calls Try.prog 4 #[sv] w fun e w' => e = .returned (.bool true) ∧ Below w.heap.size w w' := by
  obtain ⟨A, c, hsv⟩ := hS.len
  subst hsv
  have hw := wakes_any
  by_cases h4 : 400 < bs.length
  · have d1 : decide ((400 : Int) < (bs.length : Int)) = true := decide_eq_true (by omega)
    go_enter Try.func4, Try.ntmps4
    go_wp2_with (go_at_call 7; refine (hw _).mono ?_; rintro e w' ⟨rfl, hB⟩)
    go_ret
    exact ⟨rfl, hB⟩
  · have d1 : decide ((400 : Int) < (bs.length : Int)) = false := decide_eq_false (by omega)
    by_cases h5 : bs.length % 5 = 0
    · obtain ⟨k, hk⟩ : ∃ k, bs.length = k * 5 := ⟨bs.length / 5, by omega⟩
      have d2 : (((bs.length : Int) % 5) != 0) = false := by
        have : (bs.length : Int) % 5 = 0 := by omega
        rw [this]; rfl
      have hP := Pack_yes (.slice A bs.length c) bs k hk (by omega) w hS
      have hpl := packL_length bs k
      have hpb := pack_back bs k hk
      have hple := packL_le bs k
      have hlf : longF (bs.length : Int) = ((packL bs k).length : Int) := by
        unfold longF
        rw [if_neg (by omega), hpl]
        omega
      have hL := fun w => Long_any (bs.length : Int) w
      rw [hlf] at hL
      have hU := fun v w h => Unpack_yes v (packL bs k) k hpl (by omega) w h
      rw [hpb] at hU
      have hpm : (packL bs k).length ≤ 2080 := by omega
      generalize packL bs k = ts at *
      clear hpl hpb hlf hk h5
      go_enter Try.func4, Try.ntmps4
      go_wp2_with fail
      go_at_call 10
      refine hP.mono ?_
      rintro e w1 ⟨v1, rfl, hv1, hB1⟩
      have hS1 := hS.next hB1
      have hs1 := sl_own hv1
      obtain ⟨A1, c1, hv1e⟩ := hs1.len
      subst hv1e
      clear hv1 hP
      go_wp2_with fail
      go_at_call 12
      refine (hU _ _ hs1).mono ?_
      rintro e w2 ⟨hB2, ⟨v2, r, hr, rfl, hv2⟩ | ⟨m, hm, _⟩⟩
      case inr => cases hm
      cases hr
      have hS2 := hS1.next hB2
      have hs2 := hs1.next hB2
      have hs2' := sl_own hv2
      obtain ⟨A2, c2, hv2e⟩ := hs2'.len
      subst hv2e
      have hA2 := below_trans hB1 hB2
      clear hv2 hU hs1 hS1 hB1 hB2 hS
      go_wp2_with fail
      go_loop [7] (fun i => ∃ k : Nat, k ≤ ts.length ∧ i = .int .i64 k) (fun i => ts.length - (intOf i).toNat)
      case atStart => exact ⟨0, Nat.zero_le _, rfl⟩
      case round =>
        obtain ⟨k, hk, rfl⟩ := hrel
        by_cases hlt : k < ts.length
        · obtain ⟨A', c', he, _, hcs⟩ := hs2
          injection he with he1 he2 he3
          subst he1
          obtain ⟨b, off, rfl, _, hcell⟩ := hcs (by omega)
          have hck := hcell k ts[k] (by simp [hlt])
          have h2 := hple ts[k] (List.getElem_mem _)
          have dk : decide ((2 : Int) < (ts[k].toNat : Int)) = false := decide_eq_false (by omega)
          have dl : decide ((k : Int) < (ts.length : Int)) = true := decide_eq_true (by omega)
          clear hcell hcs hple h2 hL
          generalize ts[k] = x at *
          go_wp2_with fail
          go_round
          case rel => exact ⟨k + 1, by omega, by go_num⟩
          case measure => simp [intOf]; omega
        · have dl : decide ((k : Int) < (ts.length : Int)) = false := decide_eq_false (by omega)
          have hse := same_eq _ _ bs _ w2 hs2' hS2
          clear hk hple
          go_wp2_with fail
          go_at_call 16
          refine hse.mono ?_
          rintro e w' ⟨rfl, rfl⟩
          go_wp2_with fail
          go_at_call 17
          refine (hL _).mono ?_
          rintro e w' ⟨rfl, rfl⟩
          go_wp2_with fail
          go_at_call 7
          refine (hw _).mono ?_
          rintro e w3 ⟨rfl, hB3⟩
          go_wp2_with fail
          go_ret
          exact ⟨rfl, below_trans hA2 hB3⟩
    · have d2 : (((bs.length : Int) % 5) != 0) = true := by
        have : (bs.length : Int) % 5 ≠ 0 := by omega
        simpa using this
      have hP := Pack_no A bs.length c h5 (by omega) w
      clear h5
      go_enter Try.func4, Try.ntmps4
      go_wp2_with fail
      go_at_call 10
      refine hP.mono ?_
      rintro e w1 ⟨rfl, hB1⟩
      go_wp2_with fail
      go_at_call 7
      refine (hw _).mono ?_
      rintro e w3 ⟨rfl, hB3⟩
      go_wp2_with fail
      go_ret
      exact ⟨rfl, below_trans hB1 hB3⟩
end Go.Proofs.Ytmppkfiocleicaa
