/- RsApart. -/
import Derived.Test.YtkldapdebjlfmaaRsQ
import Derived.StillTailTactics
import Derived.BigQuiet
namespace Go.Proofs.Ytkldapdebjlfmaa
open Go.RowKit Go.Shelf
attribute [local go_sem] Oper.semAt_some

set_option maxRecDepth 100000 in
set_option maxHeartbeats 4000000 in
theorem RsApart_big (A0 A1 : Option Addr) (l0 c0 l1 c1 : Nat) (p : Int) (w : World) (hbig : 200 < l0 ∨ p < 0 ∨ 32 < p) :
    Calls Try.prog 6 #[.slice A0 l0 c0, .slice A1 l1 c1, .int .i64 p] w fun e w' => e = .returned (.bool true) ∧ Below w.heap.size w w' := by
  by_cases b1 : 200 < l0
  · have d1 : decide ((200 : Int) < (l0 : Int)) = true := decide_eq_true (by omega)
    clear hbig b1
    go_enter Try.func6, Try.ntmps6
    go_wp2_with (go_at_call 8; refine (wakes_any _).mono ?_; rintro e w2 ⟨rfl, hB⟩)
    go_ret
    exact ⟨rfl, hB⟩
  have d1 : decide ((200 : Int) < (l0 : Int)) = false := decide_eq_false (by omega)
  by_cases b4 : p < 0
  · have d4 : decide (p < 0) = true := decide_eq_true b4
    clear hbig b1
    go_enter Try.func6, Try.ntmps6
    go_wp2_with (go_at_call 8; refine (wakes_any _).mono ?_; rintro e w2 ⟨rfl, hB⟩)
    go_ret
    exact ⟨rfl, hB⟩
  have d4 : decide (p < 0) = false := decide_eq_false b4
  have b5 : 32 < p := by omega
  have d5 : decide (32 < p) = true := decide_eq_true b5
  clear hbig b1
  go_enter Try.func6, Try.ntmps6
  go_wp2_with (go_at_call 8; refine (wakes_any _).mono ?_; rintro e w2 ⟨rfl, hB⟩)
  go_ret
  exact ⟨rfl, hB⟩

set_option maxRecDepth 100000 in
set_option maxHeartbeats 8000000 in
theorem RsApart_some (v0 v1 : Value) (xs ys : List UInt8) (p : Nat) (w : World) (hX : Sl eB w.heap.size w v0 xs) (hY : Sl eB w.heap.size w v1 ys) (hd : xs.length ≤ 200) (hp : p ≤ 32) :
    Calls Try.prog 6 #[v0, v1, .int .i64 p] w fun e w' => e = .returned (.bool true) ∧ Below w.heap.size w w' := by
  obtain ⟨A0, c0, rfl⟩ := hX.len
  obtain ⟨A1, c1, rfl⟩ := hY.len
  have d1 : decide ((200 : Int) < (xs.length : Int)) = false := decide_eq_false (by omega)
  have d4 : decide ((p : Int) < 0) = false := decide_eq_false (by omega)
  have d5 : decide (32 < (p : Int)) = false := decide_eq_false (by omega)
  obtain ⟨i0, hi, hz0, hz1, hz2⟩ := info_parts info_u8
  have hrow := row_made w
  have hB1 := below_alloc w (.cells #[] 5)
  go_enter Try.func6, Try.ntmps6
  go_wp2_with
    (at_builtin
     refine wpList_append_sl _ rfl (.tmp 27) (.tmp 28) _ rfl w.heap.size 5 i0 (.int .u8 0) 1 Try.underlying22 hi hz0 hz1 hz2 rfl _ 0 [] hrow rfl w.heap.size (.slice A0 xs.length c0) xs (hX.below hB1) rfl (fun _ => rfl) (by unfold maxLen; omega) (by omega) (by simp) ?_
     intro v1 w1 hown1 hg1 _
     have hB2 : Below w.heap.size w w1 := hB1.trans (below_grown hrow hg1 (by simp) (Nat.le_refl _)))
  have hy1 : Own8 w.heap.size w1 v1 xs := by simpa [Own8] using hown1
  clear hown1 hg1 hrow hB1 hi hz0 hz1 hz2
  clear i0
  obtain ⟨Ay, cy, rfl⟩ := hy1.sl.len
  have hy0 : Own8 w.heap.size w1 (.slice Ay xs.length cy) (mixL xs ys 0) := by rw [mixL_zero]; exact hy1
  clear hy1
  go_loopw [8] (fun i wr => ∃ k : Nat, k ≤ xs.length ∧ k ≤ ys.length ∧ i = .int .i64 k ∧ Own8 w.heap.size wr (.slice Ay xs.length cy) (mixL xs ys k) ∧ Below w.heap.size w wr) (fun i _ => xs.length - (intOf i).toNat)
  case atStart => exact ⟨0, Nat.zero_le _, Nat.zero_le _, rfl, hy0, hB2⟩
  case round =>
    clear hy0 hB2
    obtain ⟨k, hk, hky, rfl, hO, hBr⟩ := hrel
    by_cases hlt : k < xs.length ∧ k < ys.length
    · obtain ⟨h1, h2⟩ := hlt
      have dk1 : decide ((k : Int) < (xs.length : Int)) = true := decide_eq_true (by omega)
      have dk2 : decide ((k : Int) < (ys.length : Int)) = true := decide_eq_true (by omega)
      obtain ⟨b, off, rfl, hb, hcell⟩ := hY.cells_at (by omega)
      have hyk := (hBr.cell (p := ⟨b, off + k, none⟩) hb).trans (hcell k h2)
      obtain ⟨g, cap, e, hgw, hgl, ck, fk, hput⟩ := own_set hO k (by rw [mixL_length]; omega)
      rw [mixL_length] at e
      injection e with x1 x2 x3
      subst x1
      subst x3
      clear x2
      rw [C_mixL _ _ _ _ h1, if_neg (Nat.lt_irrefl _)] at ck
      have hx := u8x (C xs k) (C ys k)
      have hset := hput wr.drew (C xs k ^^^ C ys k) rfl
      have hms := mixL_set xs ys k
      rw [hms] at hset
      have hBs := (below_trans hBr (below_drewA wr)).setCell (p := ⟨g, k, none⟩) hgw (eB (C xs k ^^^ C ys k))
      have ckd : wr.drew.cell? ⟨g, k, none⟩ = some (eB (C xs k)) := ck
      have fkd : wr.drew.frozen? ⟨g, k, none⟩ = false := fk
      clear hput hO hcell hms hX hY
      obtain ⟨u, hu⟩ : ∃ u : UInt8, C xs k = u := ⟨_, rfl⟩
      obtain ⟨y, hyy⟩ : ∃ y : UInt8, C ys k = y := ⟨_, rfl⟩
      simp only [hu, hyy] at hx hset hBs ck ckd hyk
      obtain ⟨z, hz⟩ : ∃ z : UInt8, u ^^^ y = z := ⟨_, rfl⟩
      rw [hz] at hx hset hBs
      clear hu hyy hz
      have hki1 : (k : Int) < (xs.length : Int) := by omega
      have hki2 : (k : Int) < (ys.length : Int) := by omega
      go_wp2_with fail
      go_still_tail 12, (by kernel_rfl)
      change wpList _ _ _ _ _ wr.drew
      generalize wr.drew = wrd at *
      go_wp2_with fail
      obtain ⟨w5, hw5⟩ : ∃ w3, wrd.setCell ⟨g, k, none⟩ (Value.int .u8 (z.toNat : Int)) = w3 := ⟨_, rfl⟩
      have hO5 : Own8 w.heap.size w5 (.slice (some ⟨g, 0, none⟩) xs.length cy) (mixL xs ys (k + 1)) := by rw [← hw5]; exact hset
      have hB5 : Below w.heap.size w w5 := by rw [← hw5]; exact hBs
      rw [hw5]
      clear hw5 hset hBs ck ckd hyk hx fk fkd
      try go_wp2_with fail
      go_roundw
      case rel => exact ⟨k + 1, by omega, by omega, by go_num, hO5, hB5⟩
      case measure => simp [intOf]; omega
    · have hlY : (mixL xs ys k).length = xs.length := mixL_length _ _ _
      have hYs := hO.sl
      obtain ⟨Y, hYe⟩ : ∃ Y, mixL xs ys k = Y := ⟨_, rfl⟩
      rw [hYe] at hlY hYs
      clear hYe hO
      have hXr := hX.next hBr
      have hW1 := Word_yes (.slice A0 xs.length c0) xs p (by omega) wr hXr
      have hW2 := fun w h => Word_yes (.slice Ay xs.length cy) Y p (by omega) w h
      have hap := words_apart xs Y p hlY (by omega)
      have hsm : xs = Y → unlike (C (xs ++ restL p xs)) (C (Y ++ restL p Y)) (xs.length + p) = 0 := fun h => by rw [← h]; exact unlike_same _ _ _ fun _ _ => rfl
      have la : (xs ++ restL p xs).length = xs.length + p := by rw [List.length_append, restL_length]
      have lb : (Y ++ restL p Y).length = xs.length + p := by rw [List.length_append, restL_length, hlY]
      generalize xs ++ restL p xs = a at *
      generalize Y ++ restL p Y = b at *
      obtain ⟨N, hN⟩ : ∃ N, xs.length + p = N := ⟨_, rfl⟩
      rw [hN] at la lb hap hsm
      have hN2 : N ≤ 232 := by omega
      have Hap := Lib.hid hap
      have Hsm := Lib.hid hsm
      have hdd : (decide ((k : Int) < (xs.length : Int)) = true ∧ decide ((k : Int) < (ys.length : Int)) = false ∧ ¬ k < ys.length ∧ k < xs.length) ∨ (decide ((k : Int) < (xs.length : Int)) = false ∧ ¬ k < xs.length) := by
        by_cases h : k < xs.length
        · exact .inl ⟨decide_eq_true (by omega), decide_eq_false (by omega), by omega, h⟩
        · exact .inr ⟨decide_eq_false (by omega), h⟩
      clear hap hsm hX hY hN hlt hk hky hlY
      rcases hdd with ⟨dk1, dk2, dk3, dk4⟩ | ⟨dk1, dk2⟩
      all_goals
        go_wp2_with fail
        go_at_call 14
        refine hW1.mono ?_
        rintro e w2 ⟨va, rfl, hva, hB2⟩
        have hYs2 := hYs.next hB2
        have hX2 := hXr.next hB2
        have hBw2 := below_trans hBr hB2
        have hva2 := hva.sl
        obtain ⟨Aa, ca, e⟩ := hva2.len
        rw [la] at e
        subst e
        clear hW1 hYs hXr hB2 hBr hva
        go_wp2_with fail
        go_at_call 14
        refine (hW2 w2 hYs2).mono ?_
        rintro e w3 ⟨vb, rfl, hvb, hB3⟩
        have hY3 := hYs2.next hB3
        have hX3 := hX2.next hB3
        have hBw3 := below_trans hBw2 hB3
        have ha3 := hva2.next hB3
        have hb3 := hvb.sl
        obtain ⟨Ab, cb, e⟩ := hb3.len
        rw [lb] at e
        subst e
        clear hW2 hYs2 hX2 hB3 hBw2 hva2 hvb dk1 dk2
        go_wp2_with fail
        go_loopw [13, 14] (fun n i wq => ∃ j : Nat, j ≤ N ∧ n = .int .i64 (unlike (C a) (C b) j : Nat) ∧ i = .int .i64 j ∧ Below w3.heap.size w3 wq) (fun _ i _ => N - (intOf i).toNat)
        case atStart => exact ⟨0, Nat.zero_le _, rfl, rfl, Below.refl _ _⟩
        case round =>
          obtain ⟨j, hj, rfl, rfl, hBq⟩ := hrel
          by_cases hlt2 : j < N
          · have dj1 : decide ((j : Int) < (N : Int)) = true := decide_eq_true (by omega)
            obtain ⟨ba, oa, rfl, hba, hca⟩ := ha3.cells_at (by omega)
            obtain ⟨bb, ob, rfl, hbb, hcb⟩ := hb3.cells_at (by omega)
            have c1 := (hBq.cell (p := ⟨ba, oa + j, none⟩) hba).trans (hca j (by omega))
            have c2 := (hBq.cell (p := ⟨bb, ob + j, none⟩) hbb).trans (hcb j (by omega))
            have hn := unlike_succ (C a) (C b) j
            have hnle := unlike_le (C a) (C b) j
            clear hca hcb ha3 hb3 hX3 hY3 Hap Hsm
            generalize C a j = s at *
            generalize C b j = t at *
            generalize unlike (C a) (C b) j = m at *
            have hji : (j : Int) < (N : Int) := by omega
            by_cases hst : s = t
            · rw [if_pos hst, Nat.add_zero] at hn
              subst hst
              have Hn := Lib.hid hn
              clear hn
              go_wp2_with fail
              go_quiet (fail)
              go_wp2_with fail
              go_roundw
              case rel => exact ⟨j + 1, by omega, by rw [Hn.out]; rfl, by go_num, hBq.trans (below_drewN _ _)⟩
              case measure => simp [intOf]; omega
            · rw [if_neg hst] at hn
              have n1 : ((s.toNat : Int) == (t.toNat : Int)) = false := by rw [beq_eq_false_iff_ne]; intro h; exact hst (UInt8.toNat_inj.1 (by omega))
              have n2 : ((s.toNat : Int) != (t.toNat : Int)) = true := by rw [bne, n1]; rfl
              have n3 : ¬ s.toNat = t.toNat := fun h => hst (UInt8.toNat_inj.1 h)
              have Hn := Lib.hid hn
              clear hst hn
              go_wp2_with fail
              go_quiet (fail)
              go_wp2_with fail
              go_roundw
              case rel => exact ⟨j + 1, by omega, by rw [Hn.out]; go_num, by go_num, hBq.trans (below_drewN _ _)⟩
              case measure => simp [intOf]; omega
          · obtain rfl : j = N := by omega
            have dj : decide ((j : Int) < (j : Int)) = false := decide_eq_false (by omega)
            have hs := same_any _ _ _ _ _ _ (hX3.next hBq) (hY3.next hBq)
            have hBe := below_trans hBw3 hBq
            clear hX3 hY3 hBq hBw3 ha3 hb3 hlt2
            by_cases hxy : xs = Y
            · have hm := Hsm.out hxy
              rw [decide_eq_true hxy] at hs
              clear hxy Hap Hsm
              rw [hm]
              clear hm
              go_wp2_with fail
              go_at_call 11
              refine hs.mono ?_
              rintro e w' ⟨rfl, rfl⟩
              go_wp2_with fail
              go_at_call 8
              refine (wakes_any _).mono ?_
              rintro e wz ⟨rfl, hBz⟩
              go_wp2
              go_ret
              exact ⟨rfl, below_trans hBe hBz⟩
            · have hm := Hap.out hxy
              rw [decide_eq_false hxy] at hs
              clear hxy Hap Hsm
              generalize unlike (C a) (C b) j = m at *
              have m1 : ((m : Int) == 0) = false := by rw [beq_eq_false_iff_ne]; omega
              have m2 : ¬ m = 0 := by omega
              have m3 : decide ((p : Int) < (m : Int)) = true := decide_eq_true (by omega)
              go_wp2_with fail
              go_at_call 11
              refine hs.mono ?_
              rintro e w' ⟨rfl, rfl⟩
              go_wp2_with fail
              go_at_call 8
              refine (wakes_any _).mono ?_
              rintro e wz ⟨rfl, hBz⟩
              go_wp2
              go_ret
              exact ⟨rfl, below_trans hBe hBz⟩

theorem RsApart_any (v0 v1 : Value) (xs ys : List UInt8) (p : Int) (w : World) (hX : Sl eB w.heap.size w v0 xs) (hY : Sl eB w.heap.size w v1 ys) :
    Calls Try.prog 6 #[v0, v1, .int .i64 p] w fun e w' => e = .returned (.bool true) ∧ Below w.heap.size w w' := by
  by_cases hbig : 200 < xs.length ∨ p < 0 ∨ 32 < p
  · obtain ⟨A0, c0, rfl⟩ := hX.len
    obtain ⟨A1, c1, rfl⟩ := hY.len
    exact RsApart_big A0 A1 _ c0 _ c1 p w hbig
  · obtain ⟨m, rfl⟩ : ∃ m : Nat, p = m := ⟨p.toNat, by omega⟩
    exact RsApart_some v0 v1 xs ys m w hX hY (by omega) (by omega)
end Go.Proofs.Ytkldapdebjlfmaa
