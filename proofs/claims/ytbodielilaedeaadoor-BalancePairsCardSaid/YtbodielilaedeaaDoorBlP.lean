/- The walk of BalancePairs. -/
import Derived.Test.YtbodielilaedeaaDoorBlZ
import Derived.Test.YtbodielilaedeaaDoorBlW
import Derived.StillTailTactics
namespace Go.Proofs.YtbodielilaedeaaDoor
open Go.RowKit Go.Shelf
attribute [local go_sem] Oper.semAt_some run_store_func

theorem clean_is (sv : Value) (bs : List UInt8) (r : Bool) (hr : decide ((-1 : Int) ∉ codesOf bs) = r) (hreach : bs.length ≤ 140737488351232) (B : Nat) (w : World) (hS : Sl eB B w sv bs) :
    Calls Tryd.prog 6 #[sv] w fun e w' => e = .returned (.bool r) ∧ w = w' := by subst hr; exact clean_any sv bs hreach B w hS

/-- A place is held within the row. -/
theorem flipOf_min (bs : List UInt8) (k : Int) : flipOf bs k = flipOf bs (min (max k 0) bs.length) := by
  apply List.ext_getElem
  · rw [flipOf_length, flipOf_length]
  · intro i h1 h2
    rw [flipOf_length] at h1
    rw [flipOf_at bs k i h1, flipOf_at bs _ i h1]
    unfold flipAt
    by_cases h : (i : Int) < k
    · rw [if_pos h, if_pos (by omega)]
    · rw [if_neg h, if_neg (by omega)]
theorem beq_toNat (a b : UInt8) : ((a.toNat : Int) == (b.toNat : Int)) = (a == b) := by
  rw [Bool.eq_iff_iff, beq_iff_eq, beq_iff_eq]
  exact ⟨fun h => UInt8.toNat_inj.1 (by omega), fun h => by rw [h]⟩

set_option maxRecDepth 100000 in
set_option maxHeartbeats 2000000 in
theorem BalancePairs_any (sv : Value) (bs : List UInt8) (k : Int) (w : World) (hS : Sl eB w.heap.size w sv bs) (hT : Tab w) (hO : TabO w) :
    Calls Tryd.prog 4 #[sv, .int .i64 k] w fun e w' => e = .returned (.bool true) ∧ Below w.heap.size w w' := by
  by_cases h1 : 300 < bs.length
  · obtain ⟨A, cap, rfl⟩ := hS.len
    have d1 : decide (300 < (bs.length : Int)) = true := decide_eq_true (by omega)
    go_enter Tryd.func4, Tryd.ntmps4
    go_wp2_with (go_at_call 7; refine (wakes_any _ hT hO).mono ?_; rintro e w1 ⟨rfl, hB1⟩)
    go_ret
    exact ⟨rfl, hB1⟩
  have d1 : decide (300 < (bs.length : Int)) = false := decide_eq_false (by omega)
  have hreach : bs.length ≤ 17592186044416 := by omega
  by_cases hfine : (-1 : Int) ∉ codesOf bs
  case neg =>
    have hcl := fun w hS => clean_is sv bs false (by simpa using hfine) (by omega) w.heap.size w hS
    obtain ⟨A, cap, rfl⟩ := hS.len
    clear hfine
    go_enter Tryd.func4, Tryd.ntmps4
    go_wp2_with fail
    go_at_call 6
    refine (hcl _ hS).mono ?_
    rintro e w' ⟨rfl, rfl⟩
    go_wp2_with (go_at_call 7; refine (wakes_any _ hT hO).mono ?_; rintro e w1 ⟨rfl, hB1⟩)
    go_ret
    exact ⟨rfl, hB1⟩
  have hcl := fun w hS => clean_is sv bs true (by simpa using hfine) (by omega) w.heap.size w hS
  have Hf := Lib.hid (show Fine bs from hfine)
  clear hfine
  obtain ⟨A, cap, rfl⟩ := hS.len
  go_enter Tryd.func4, Tryd.ntmps4
  go_wp2_with fail
  go_at_call 6
  refine (hcl _ hS).mono ?_
  rintro e w' ⟨rfl, rfl⟩
  go_wp2_with fail
  go_at_call 11
  refine (Flip_any _ bs k hreach w hS hT hO).mono ?_
  rintro e w1 ⟨hB1, ⟨v1, rfl, -, -, hv1⟩ | ⟨rfl, hbad⟩⟩
  case inr => exact absurd hbad Hf.out
  have hS1 := hS.next hB1
  have hT1 := hT.below hB1
  have hO1 := hO.below hB1
  go_wp2_with fail
  go_at_call 11
  refine (Flip_any _ (flipOf bs k) k (by rw [flipOf_length]; exact hreach) w1 hv1 hT1 hO1).mono ?_
  rintro e w2 ⟨hB2, ⟨v2, rfl, -, -, hv2⟩ | ⟨rfl, hbad⟩⟩
  case inr => exact absurd hbad (Hf.out.flip k)
  have hBw := below_trans hB1 hB2
  have hS2 := hS1.next hB2
  have ht2 := hv1.next hB2
  have hT2 := hT1.below hB2
  have hO2 := hO1.below hB2
  rw [flip_twice Hf.out] at hv2
  have hsame := same_any _ _ _ _ _ _ hv2 hS2
  rw [decide_eq_true rfl] at hsame
  clear hB1 hB2 hS hS1 hv1 hT hO hT1 hO1 hv2 hcl
  obtain ⟨A1, cap1, rfl⟩ := ht2.len
  rw [flipOf_length] at *
  go_wp2_with fail
  go_at_call 12
  refine hsame.mono ?_
  rintro e w' ⟨rfl, rfl⟩
  clear hsame
  go_wp2_with fail
  rw [flipOf_min] at ht2
  obtain ⟨q, hq, hqn⟩ : ∃ q : Nat, min (max k 0) (bs.length : Int) = q ∧ q ≤ bs.length := ⟨(min (max k 0) (bs.length : Int)).toNat, by omega, by omega⟩
  rw [hq] at ht2
  simp only [hq]
  have Hq := Lib.hid hq
  clear hq
  obtain ⟨At, ct, et, hct, hcst⟩ := ht2
  rw [flipOf_length] at et hct hcst
  cases et
  obtain ⟨As, cs, es, hcs, hcss⟩ := hS2
  cases es
  go_loopw [9] (fun i wr => ∃ j : Nat, j ≤ bs.length ∧ i = .int .i64 j ∧ Below w2.heap.size w2 wr) (fun i _ => bs.length - (intOf i).toNat)
  case atStart => exact ⟨0, Nat.zero_le _, rfl, Below.refl _ _⟩
  case round =>
    obtain ⟨j, hj, rfl, hBr⟩ := hrel
    by_cases hlt : j < bs.length
    · obtain ⟨bt, ot, rfl, hbt, hcellt⟩ := hcst (by omega)
      obtain ⟨bS, os, rfl, hbs, hcells⟩ := hcss (by omega)
      have c1 := (hBr.cell (p := ⟨bt, ot + j, none⟩) hbt).trans (hcellt j _ (flipOf_get bs q j hlt))
      have c2 := (hBr.cell (p := ⟨bS, os + j, none⟩) hbs).trans (hcells j bs[j] (by simp [hlt]))
      have f1 := flip_same_b Hf.out q j hlt
      rw [← beq_toNat] at f1
      by_cases h0 : j = 0
      · subst h0
        rw [Nat.add_zero] at c1 c2
        generalize hs : bs[0] = s at *
        generalize ht : flipAt q s 0 = t at *
        have Hs := Lib.hid hs
        have Ht := Lib.hid ht
        clear hs ht hcellt hcells hcst hcss
        rcases (show q = 0 ∨ 0 < q by omega) with hqj | hqj
        · subst hqj
          rw [decide_eq_true (by omega)] at f1
          go_wp2
          go_quiet (fail)
          go_wp2
          all_goals first | (exfalso; omega) | skip
          go_quiet (fail)
          go_wp2
          go_roundw
          case rel => exact ⟨1, by omega, by go_num, hBr.trans (below_drewN' _ _ _)⟩
          case measure => simp [intOf]; omega
        · rw [decide_eq_false (by omega)] at f1
          have d4 : decide ((q : Int) ≤ 0) = false := decide_eq_false (by omega)
          go_wp2
          go_quiet (fail)
          go_wp2
          go_quiet (fail)
          go_wp2
          go_roundw
          case rel => exact ⟨1, by omega, by go_num, hBr.trans (below_drewN' _ _ _)⟩
          case measure => simp [intOf]; omega
      · obtain ⟨m, hm⟩ : ∃ m, j = m + 1 := ⟨j - 1, by omega⟩
        have hml : m < bs.length := by omega
        have c3 := (hBr.cell (p := ⟨bt, ot + m, none⟩) hbt).trans (hcellt m _ (flipOf_get bs q m hml))
        have c4 := (hBr.cell (p := ⟨bS, os + m, none⟩) hbs).trans (hcells m (bs[m]'hml) (by simp [hml]))
        have f2 : (j : Int) ≠ q → (flipAt q bs[j] j == flipAt q (bs[m]'hml) m) = (bs[j] == bs[m]'hml) := by
          subst hm
          exact flip_pairs_b Hf.out q m hlt
        rw [← beq_toNat, ← beq_toNat] at f2
        generalize hs : bs[j] = s at *
        generalize ht : flipAt q s j = t at *
        generalize hs' : bs[m]'hml = s' at *
        generalize ht' : flipAt q s' m = t' at *
        have em : IntKind.i64.wrap ((j : Int) - 1) = (m : Int) := by rw [IntWalk.i64_in _ (by omega)]; omega
        have Hs := Lib.hid hs
        have Ht := Lib.hid ht
        have Hs' := Lib.hid hs'
        have Ht' := Lib.hid ht'
        have hj0 : 0 < j := by omega
        clear hs ht hs' ht' hm hcellt hcells hcst hcss
        obtain ⟨v, hv⟩ : ∃ v, ((s.toNat : Int) == (s'.toNat : Int)) = v := ⟨_, rfl⟩
        rcases (show j = q ∨ (j : Int) < q ∨ (q : Int) < j by omega) with hqj | hqj | hqj
        · subst hqj
          rw [decide_eq_true (by omega)] at f1
          have d4 : decide ((j : Int) ≤ j) = true := decide_eq_true (by omega)
          clear f2
          go_wp2
          go_quiet (fail)
          go_wp2
          go_quiet (fail)
          go_wp2
          go_roundw
          case rel => exact ⟨j + 1, by omega, by go_num, hBr.trans (below_drewN' _ _ _)⟩
          case measure => simp [intOf]; omega
        · rw [decide_eq_false (by omega)] at f1
          have d4 : decide ((q : Int) ≤ j) = false := decide_eq_false (by omega)
          have n5 : ((j : Int) == (q : Int)) = false := by rw [beq_eq_false_iff_ne]; omega
          have n6 : ((j : Int) != (q : Int)) = true := by rw [bne_iff_ne]; omega
          have n7 : ¬ (j : Int) = q := by omega
          have n8 : ¬ j = q := by omega
          have g2 := f2 (by omega)
          rw [hv] at g2
          clear f2
          cases v
          all_goals
            go_wp2
            go_quiet (fail)
            go_wp2
            go_quiet (fail)
            go_wp2
            go_roundw
            case rel => exact ⟨j + 1, by omega, by go_num, hBr.trans (below_drewN' _ _ _)⟩
            case measure => simp [intOf]; omega
        · rw [decide_eq_true (by omega)] at f1
          have d4 : decide ((q : Int) ≤ j) = true := decide_eq_true (by omega)
          have d5 : q ≤ j := by omega
          have d6 : decide (q ≤ j) = true := decide_eq_true d5
          have n5 : ((j : Int) == (q : Int)) = false := by rw [beq_eq_false_iff_ne]; omega
          have n6 : ((j : Int) != (q : Int)) = true := by rw [bne_iff_ne]; omega
          have n7 : ¬ (j : Int) = q := by omega
          have n8 : ¬ j = q := by omega
          have g2 := f2 (by omega)
          rw [hv] at g2
          clear f2
          cases v
          all_goals
            go_wp2
            go_quiet (fail)
            go_wp2
            all_goals first | (exfalso; omega) | (exfalso; simp_all; done) | skip
            go_quiet (fail)
            go_wp2
            go_roundw
            case rel => exact ⟨j + 1, by omega, by go_num, hBr.trans (below_drewN' _ _ _)⟩
            case measure => simp [intOf]; omega
    · obtain rfl : j = bs.length := by omega
      have hS3 : Sl eB w2.heap.size w2 (.slice A bs.length cap) bs := ⟨A, cap, rfl, hcs, hcss⟩
      have ht3 : Sl eB w2.heap.size w2 (.slice A1 bs.length cap1) (flipOf bs q) := ⟨A1, cap1, by rw [flipOf_length], by rw [flipOf_length]; exact hct, by rw [flipOf_length]; exact hcst⟩
      have hS4 := ((hS3.next hBr).upto hqn)
      have ht4 := ((ht3.next hBr).upto (p := q) (by rw [flipOf_length]; exact hqn))
      have hstr := flip_strong Hf.out q q hqn (Int.le_refl _)
      have hg1 := gcOf_le (bs.take q)
      have hg2 := gcOf_le ((flipOf bs q).take q)
      rw [List.length_take] at hg1 hg2
      rw [flipOf_length] at hg2
      have q1 := strongL_any _ _ (by rw [List.length_take]; omega) _ wr.drew (hS4.of_cells fun _ _ => rfl)
      have q2 := strongL_any _ _ (by rw [List.length_take]; omega) _ wr.drew (ht4.of_cells fun _ _ => rfl)
      have hT3 := hT2.below hBr
      have hO3 := hO2.below hBr
      have m1 : ¬ cap = q → True := fun _ => trivial
      generalize gcOf (bs.take q) = g1 at *
      generalize gcOf ((flipOf bs q).take q) = g2 at *
      have e1 : IntKind.i64.wrap ((q : Int) - g1) = (g2 : Int) := by rw [IntWalk.i64_in _ (by omega)]; omega
      have Hstr := Lib.hid hstr
      clear hstr hS3 ht3 hcst hcss m1
      have m1 : (q : Int) ≤ cap := by omega
      have m2 : (q : Int) ≤ cap1 := by omega
      go_wp2
      go_still_tail 12, (by kernel_rfl)
      still_call ((q2).mono fun e w' h => (⟨h.1, h.2.symm⟩ : e = .returned (.int .i64 g2) ∧ w' = wr.drew))
      repeat still_step
      still_call ((q1).mono fun e w' h => (⟨h.1, h.2.symm⟩ : e = .returned (.int .i64 g1) ∧ w' = wr.drew))
      repeat still_step
      refine wpStill_nil ?_
      change wpList _ _ _ _ _ wr.drew
      have hBx : Below wr.heap.size wr wr.drew := ⟨rfl, rfl, rfl, Nat.le_refl _, fun _ _ => rfl⟩
      have hBd := below_trans hBr hBx
      have hT4 := hT3.below hBx
      have hO4 := hO3.below hBx
      clear q1 q2 hS4 ht4 hT3 hO3 hBx e1 Hstr
      generalize wr.drew = wd at *
      go_wp2_with (go_at_call 7; refine (wakes_any _ hT4 hO4).mono ?_; rintro e w5 ⟨rfl, hB5⟩)
      go_ret
      exact ⟨rfl, below_trans hBw (below_trans hBd hB5)⟩
end Go.Proofs.YtbodielilaedeaaDoor
