/- PolyRoots. -/
import Derived.Test.YtgidhkfmelpjfaaPoQ
import Derived.Test.YtgidhkfmelpjfaaPoX0
namespace Go.Proofs.Ytgidhkfmelpjfaa
open Go.RowKit Go.Shelf
attribute [local go_sem] Oper.semAt_some

theorem beq_u8 (a b : UInt8) : ((a.toNat : Int) == (b.toNat : Int)) = decide (a = b) := by
  by_cases h : a = b
  · subst h; simp
  · have : a.toNat ≠ b.toNat := fun e => h (UInt8.toNat_inj.1 e)
    rw [decide_eq_false h, beq_eq_false_iff_ne]
    omega
set_option maxRecDepth 100000 in
set_option maxHeartbeats 4000000 in
theorem PolyRoots_any (v0 : Value) (l : List UInt8) (x : UInt8) (w : World) (hL : Sl eB w.heap.size w v0 l) :
    Calls Try.prog 6 #[v0, eB x] w fun e w' => e = .returned (.bool true) ∧ Below w.heap.size w w' := by
  by_cases hbig : 60 < l.length
  · obtain ⟨A0, c0, rfl⟩ := hL.len
    have hd : decide ((60 : Int) < (l.length : Int)) = true := decide_eq_true (by omega)
    clear hL hbig
    go_enter Try.func6, Try.ntmps6
    go_wp2_with fail
    go_at_call 9
    refine (wakes_any _).mono ?_
    rintro e w2 ⟨rfl, hB⟩
    go_wp2
    go_ret
    exact ⟨rfl, hB⟩
  · have hl : l.length ≤ 60 := by omega
    have hd : decide ((60 : Int) < (l.length : Int)) = false := decide_eq_false (by omega)
    have hRo := Roots_any v0 l (by omega) w hL
    obtain ⟨hm1, hm2⟩ := RT_monic l
    have hm3 : (RT l)[l.length]? = some 1 := by rw [List.getElem?_eq_getElem (by omega), ← hm2, C_get _ _ (by omega)]
    clear hm2
    have Hsay := Lib.hid (roots_say x l)
    have hEv := fun v w h => Eval_any v (RT l) x (by omega) w h
    have hDe := fun v w h => Deriv_any v (RT l) (by omega) w h
    rw [show tr (dv (C (RT l))) (RT l).length = dl (RT l) from rfl] at hDe
    have hdl : (dl (RT l)).length ≤ 100 := by
      rw [dl, tr_length]
      have := tl_le (dv (C (RT l))) (RT l).length
      omega
    have hEd := fun v w h => Eval_any v (dl (RT l)) x (by omega) w h
    generalize RT l = P at *
    generalize dl P = D at *
    clear hdl hbig
    obtain ⟨A, cap, rfl, hcap, hcs⟩ := id hL
    go_enter Try.func6, Try.ntmps6
    go_wp2_with fail
    go_at_call 27
    refine hRo.mono ?_
    rintro e w1 ⟨v1, rfl, hv1, hB1⟩
    clear hRo
    go_wp2_with fail
    go_loopw [6, 7] (fun n i wr => ∃ k : Nat, k ≤ l.length ∧ i = .int .i64 k ∧ n = .int .i64 (((l.take k).count x : Nat) : Int) ∧ w1 = wr) (fun _ i _ => l.length - (intOf i).toNat)
    case atStart => exact ⟨0, Nat.zero_le _, rfl, rfl, rfl⟩
    case round =>
      obtain ⟨k, hk, rfl, rfl, rfl⟩ := hrel
      have hcnt : (l.take k).count x ≤ 60 := Nat.le_trans List.count_le_length (by rw [List.length_take]; omega)
      by_cases hlt : k < l.length
      · have hdk : decide ((k : Int) < (l.length : Int)) = true := decide_eq_true (by omega)
        obtain ⟨b, off, rfl, hb, hcell⟩ := hcs (by omega)
        have hcx : w1.cell? ⟨b, off + k, none⟩ = some (eB l[k]) := (hB1.cell (p := ⟨b, off + k, none⟩) hb).trans (hcell k _ (by simp [hlt]))
        have e : l.take (k + 1) = l.take k ++ [l[k]] := List.take_succ_eq_append_getElem (by omega)
        have Hn := Lib.hid (show (l.take (k + 1)).count x = (l.take k).count x + (if l[k] = x then 1 else 0) by rw [e, List.count_append]; simp [List.count_singleton])
        have hbq := beq_u8 l[k] x
        clear e hcell
        generalize l[k] = r at *
        generalize (l.take k).count x = n at *
        by_cases hr : r = x
        · rw [decide_eq_true hr] at hbq
          go_wp2
          go_roundw
          case rel => exact ⟨k + 1, by omega, by go_num, by rw [Hn.out, if_pos hr]; go_num, trivial⟩
          case measure => simp [intOf]; omega
        · rw [decide_eq_false hr] at hbq
          go_wp2
          go_roundw
          case rel => exact ⟨k + 1, by omega, by go_num, by rw [Hn.out, if_neg hr]; go_num, trivial⟩
          case measure => simp [intOf]; omega
      · obtain rfl : k = l.length := by omega
        rw [List.take_length] at hcnt ⊢
        clear hcs hcap
        have hEp := fun w h => hEv v1 w h
        obtain ⟨A1, cap1, rfl, hcap1, hcs1⟩ := id hv1
        obtain ⟨b1, off1, rfl, hb1, hcell1⟩ := hcs1 (by omega)
        have hlast : w1.cell? ⟨b1, off1 + l.length, none⟩ = some (eB 1) := hcell1 l.length 1 hm3
        have hle : ((P.length : Int) == (l.length : Int) + 1) = true := by rw [hm1]; simp
        have hix : decide ((l.length : Int) < (P.length : Int)) = true := decide_eq_true (by omega)
        have hilt : l.length < P.length := by omega
        have hm60 : P.length ≤ 61 := by omega
        clear hm3 hcs1 hcell1 hm1
        obtain ⟨s1, s2, s3⟩ := Hsay.out
        clear Hsay
        have hE0 : ∀ z : UInt8, ((z.toNat : Int) == 0) = decide (z = 0) := fun z => beq_u8 z 0
        have hz0 := hE0 (ev P x)
        have hd0 := hE0 (ev D x)
        clear hE0
        generalize hzz : ev P x = z at *
        generalize hdd : ev D x = d at *
        clear hzz hdd
        generalize l.count x = n at *
        go_wp2_with fail
        go_at_call 25
        refine (hDe _ w1 hv1).mono ?_
        rintro e w2 ⟨v2, rfl, hv2, hB2⟩
        have hlast2 : w2.cell? ⟨b1, off1 + l.length, none⟩ = some (eB 1) := (hB2.cell (p := ⟨b1, off1 + l.length, none⟩) hb1).trans hlast
        go_wp2_with fail
        go_at_call 23
        refine (hEd v2 w2 hv2.sl).mono ?_
        rintro e w3 ⟨rfl, hB3⟩
        have hlast3 : w3.cell? ⟨b1, off1 + l.length, none⟩ = some (eB 1) := (hB3.cell (p := ⟨b1, off1 + l.length, none⟩) (Nat.lt_of_lt_of_le hb1 hB2.size)).trans hlast2
        have hB13 := below_trans hB2 hB3
        have hv13 := hv1.next hB13
        clear hlast hlast2 hv2 hB2 hB3
        go_wp2_with fail
        go_at_call 23
        refine (hEp w3 hv13).mono ?_
        rintro e w4 ⟨rfl, hB4⟩
        have hBw := below_trans hB1 (below_trans hB13 hB4)
        clear hB1 hB13 hB4 hlast3 hDe hEd hEv hEp hv13 hv1 hL
        rcases (show n = 0 ∨ n = 1 ∨ 2 ≤ n by omega) with h0 | h1 | h2
        · have hz : z ≠ 0 := fun h => by have := s1.1 h; omega
          rw [decide_eq_false hz] at hz0
          clear s1 s2 s3 hz
          subst h0
          go_wp2_with fail
          go_at_call 9
          refine (wakes_any _).mono ?_
          rintro e wz ⟨rfl, hBz⟩
          go_wp2
          go_ret
          exact ⟨rfl, below_trans hBw hBz⟩
        · have hz : z = 0 := s1.2 (by omega)
          rw [decide_eq_true hz] at hz0
          rw [decide_eq_false (s2 h1)] at hd0
          have hdn : ¬ d.toNat = 0 := fun h => s2 h1 (UInt8.toNat_inj.1 h)
          have hdx : ((d.toNat : Int) != 0) = true := by rw [bne, hd0]; rfl
          clear s1 s2 s3 hz
          subst h1
          go_wp2_with fail
          go_at_call 9
          refine (wakes_any _).mono ?_
          rintro e wz ⟨rfl, hBz⟩
          go_wp2
          go_ret
          exact ⟨rfl, below_trans hBw hBz⟩
        · have hz : z = 0 := s1.2 (by omega)
          have hd := s3 h2
          subst hz
          subst hd
          clear hz0 hd0
          have f0 : decide ((0 : Int) < (n : Int)) = true := decide_eq_true (by omega)
          have f1 : ((n : Int) == 1) = false := by rw [beq_eq_false_iff_ne]; omega
          have f2 : decide ((n : Int) < 2) = false := decide_eq_false (by omega)
          have f3 : ¬ ((n : Int) = 1) := by omega
          have f4 : ((n : Int) != 1) = true := by rw [bne, f1]; rfl
          have f5 : ¬ ((n : Int) < 2) := by omega
          clear s1 s2 s3 h2
          go_wp2_with fail
          go_at_call 9
          refine (wakes_any _).mono ?_
          rintro e wz ⟨rfl, hBz⟩
          go_wp2
          go_ret
          exact ⟨rfl, below_trans hBw hBz⟩
end Go.Proofs.Ytgidhkfmelpjfaa
