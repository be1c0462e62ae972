/- ConsensusAlone, its main walk. (Seat s27.) -/
import Derived.Test.YtfkjheilcbppcaaCoT
namespace Go.Proofs.Ytfkjheilcbppcaa
open Go.RowKit Go.Shelf
attribute [local go_sem] Oper.semAt_some run_store_func

set_option maxRecDepth 100000 in
set_option maxHeartbeats 2000000 in
theorem Alone_main (v0 v1 : Value) (rows others : List RowC) (w : World) (h0 : RowsIn w v0 rows) (h1 : RowsIn w v1 others) (e0 : grG rows = false) (e1 : grG others = false) (h12 : ¬ 12 < rows.length) (h10 : ¬ 10 < others.length) :
    Calls Try.prog 7 #[v0, v1] w fun e w' => e = .returned (.bool true) ∧ Below w.heap.size w w' := by
  have g0 := great_any v0 rows w h0
  have g1 := great_any v1 others w h1
  rw [e0] at g0
  rw [e1] at g1
  obtain ⟨i0, hi, hz0, hz1, hz2⟩ := info_parts info_row
  obtain ⟨-, hl0⟩ := grG_no e0
  obtain ⟨-, hl1⟩ := grG_no e1
  have hw := wakes_any
  obtain ⟨A, c, rfl, -⟩ := h0.some
  obtain ⟨A1, c1, rfl, hA1⟩ := h1.some
  have hat := fun b off (e : A1 = some ⟨b, off, none⟩) k hk => (RowsIn.at (e ▸ h1) k hk).1
  have d1 := decide_eq_false (show ¬ (12 : Int) < (rows.length : Int) by omega)
  have d2 := decide_eq_false (show ¬ (10 : Int) < (others.length : Int) by omega)
  have q1 := Of_uni (.slice A rows.length c) rows (by omega) (fun p hp => by have := hl0 p hp; omega) w h0
  have q2 := fun w' h => CoLength_any (.slice A rows.length c) rows (by omega) (fun p hp => by have := hl0 p hp; omega) w' h
  have q3 := fun v w' h => Of_uni v (rows ++ rows) (by rw [List.length_append]; omega) (fun p hp => by rcases List.mem_append.1 hp with hp | hp <;> (have := hl0 p hp; omega)) w' h
  have q4 := fun v w' h => CoLength_any v (rows ++ others) (by rw [List.length_append]; omega) (fun p hp => by rcases List.mem_append.1 hp with hp | hp; (have := hl0 p hp; omega); (have := hl1 p hp; omega)) w' h
  have q5 := fun v w' h => Of_uni v (rows ++ others) (by rw [List.length_append]; omega) (fun p hp => by rcases List.mem_append.1 hp with hp | hp; (have := hl0 p hp; omega); (have := hl1 p hp; omega)) w' h
  have hZ : (∀ r ∈ bsL others, r.length ≠ (lenG (bsL rows)).1) → (lenG (bsL rows ++ bsL others)).1 = (lenG (bsL rows)).1 → ofG (bsL rows ++ bsL others) = ofG (bsL rows) := fun a b => ofG_more a b
  have hnn : decide (rows ++ rows ≠ []) = decide (rows ≠ []) := by cases rows <;> simp
  have hb0 : decide (0 < (lenG (bsL rows)).2) = decide (0 < (lenG (bsL rows)).2) := rfl
  rw [bsL_app, ofG_twice, hnn] at q3
  rw [bsL_app] at q4 q5
  have HZ := Lib.hid hZ
  have HR0 := Lib.hid h0.2
  have HR1 := Lib.hid h1.2
  have H1s := Lib.hid h1.1
  have HN := Lib.hid (And.intro h12 h10)
  generalize ofG (bsL rows) = X at *
  generalize ofG (bsL rows ++ bsL others) = Z at *
  generalize (lenG (bsL rows)).1 = n at *
  generalize (lenG (bsL rows ++ bsL others)).1 = m at *
  generalize decide (0 < (lenG (bsL rows)).2) = b1 at *
  generalize decide (0 < (lenG (bsL rows ++ bsL others)).2) = b2 at *
  generalize decide (rows ≠ []) = b at *
  generalize decide (rows ++ others ≠ []) = b3 at *
  clear hZ hnn hb0 e0 e1 hl0 hl1 h12 h10
  cases b
  all_goals
    go_enter Try.func7, Try.ntmps7
    go_wp2_with fail
    go_at_call 8
    refine g0.mono ?_
    rintro e w1 ⟨rfl, rfl⟩
    clear g0
    go_wp2_with fail
    go_at_call 8
    refine g1.mono ?_
    rintro e w1 ⟨rfl, rfl⟩
    clear g1
    go_wp2_with fail
    go_at_call 14
    refine q1.mono ?_
    rintro e w1 ⟨hB1, vx, rfl, hx⟩
    have h0 := h0.next hB1
    clear q1
    go_wp2_with fail
    go_at_call 10
    refine (q2 _ h0).mono ?_
    rintro e w2 ⟨rfl, hB2⟩
    have h0 := h0.next hB2
    have hx := hx.next hB2
    have hB := below_trans hB1 hB2
    clear q2 hB1 hB2
    have hrow := row_madeR w2
    have hA1' := below_al w2 (.cells #[] 23)
    have h0s := h0.1
    go_wp2_with (first
      | (at_builtin
         refine wpList_append_slg _ rfl (.tmp 45) (.tmp 46) _ rfl w2.heap.size 23 i0 _ 24 Try.underlying22 hi hz0 hz1 hz2 rfl _ 0 [] hrow rfl w2.heap.size _ rows (h0s.below hA1') rfl eC_one (by have := HN.out; unfold maxLen; omega) (by have := HN.out; omega) (by simp) ?_
         intro v1' w3 hown1 hg1 hat1
         have hA2 : Below w2.heap.size w2 w3 := hA1'.trans (below_grownR hrow hg1 (by simp) (Nat.le_refl _)))
      | (at_builtin
         refine wpList_append_slg _ rfl (.tmp 47) (.tmp 48) _ rfl w2.heap.size 23 i0 _ 24 Try.underlying22 hi hz0 hz1 hz2 rfl _ _ _ hown1 rfl w2.heap.size _ rows (h0s.below hA2) rfl eC_one (by have := HN.out; unfold maxLen; omega) (by have := HN.out; omega) hA2.size ?_
         intro v2' w4 hown2 hg2 hat2))
    have hA3 := hA2.trans (below_grownR hown1 hg2 hA2.size (Nat.le_refl _))
    have htw : RowsIn w4 v2' (rows ++ rows) := rows_of (B := w2.heap.size) (by simpa [List.length_append] using hown2) (fun p hp => HR0.out p (by rcases List.mem_append.1 hp with hp | hp <;> exact hp)) (below_trans hB hA3)
    have h0 := h0.next hA3
    have hx := hx.next hA3
    have hB := below_trans hB hA3
    clear hrow hA1' h0s hown1 hg1 hat1 hA2 hown2 hg2 hat2 hA3
    go_at_call 14
    refine (q3 _ _ htw).mono ?_
    rintro e w5 ⟨hB5, vy, rfl, hy⟩
    have h0 := h0.next hB5
    have hx := hx.next hB5
    have hB := below_trans hB hB5
    have hs := same_is vx vy X X true (by simp) w5.heap.size w5 hx hy
    have H0 := Lib.hid h0
    have Hx := Lib.hid hx
    have HW := Lib.hid hw
    have HAT := Lib.hid (And.intro hat hA1)
    have Q4 := Lib.hid q4
    have Q5 := Lib.hid q5
    clear q3 htw hB5 h0 hx hy hw hat hA1 q4 q5 h1
    go_wp2_with fail
    go_at_call 16
    refine hs.mono ?_
    rintro e w6 ⟨rfl, rfl⟩
    clear hs
    have hB5s := hB.size
    have hx5 := Hx.out
    have hrow := row_madeR w5
    have hA1' := below_al w5 (.cells #[] 23)
    have h0s := H0.out.1
    go_wp2_with (first
      | (at_builtin
         refine wpList_append_slg _ rfl (.tmp 64) (.tmp 65) _ rfl w5.heap.size 23 i0 _ 24 Try.underlying22 hi hz0 hz1 hz2 rfl _ 0 [] hrow rfl w5.heap.size _ rows (h0s.below hA1') rfl eC_one (by have := HN.out; unfold maxLen; omega) (by have := HN.out; omega) (by simp) ?_
         intro v3' w6 hown1 hg1 hat1))
    have hA2 : Below w5.heap.size w5 w6 := hA1'.trans (below_grownR hrow hg1 (by simp) (Nat.le_refl _))
    have Hx := Lib.hid (Hx.out.next hA2)
    have hB := below_trans hB hA2
    have HOWN := Lib.hid hown1
    have HS5 := Lib.hid hA2.size
    have HSw := Lib.hid (show w.heap.size ≤ w5.heap.size from hB5s)
    have HB5 := Lib.hid hA2
    have HX5 := Lib.hid (show ∀ W, Below w5.heap.size w5 W → Sl eB W.heap.size W vx X from fun W hb => hx5.next hb)
    clear hrow hA1' h0s hg1 hat1 hA2 H0 hown1 hx5 hB5s
    go_loopw [13] (fun t wr => ∃ k : Nat, k ≤ others.length ∧ t = .int .i64 k ∧ wr = w6 ∧ ∀ j (hj : j < others.length), j < k → others[j].bs.length ≠ n) (fun t _ => others.length - (RowKit.intOf t).toNat)
    case atStart => exact ⟨0, Nat.zero_le _, rfl, rfl, fun j _ h => absurd h (by omega)⟩
    case round =>
      obtain ⟨k, hk, rfl, rfl, hL⟩ := hrel
      by_cases hlt : k < others.length
      · obtain ⟨b0, off, rfl, hb⟩ := HAT.out.2 (by omega)
        have hcx := (hB.cell (p := ⟨b0, off + k, none⟩) hb).trans (HAT.out.1 b0 off rfl k hlt)
        have hkl : (k : Int) < others.length := by omega
        have Hk := Lib.hid hlt
        have HLk := Lib.hid (show others[k].bs.length ≠ n → ∀ j (hj : j < others.length), j < k + 1 → others[j].bs.length ≠ n from fun h j hj hjk => by
          by_cases he : j = k
          · subst he; exact h
          · exact hL j hj (by omega))
        have hk10 : k ≤ 10 := by have := HN.out; omega
        generalize others[k] = R at *
        clear HAT hL
        by_cases hq : R.bs.length = n
        · have hq' : (((R.bs.length : Nat) : Int) == (n : Int)) = true := by rw [hq]; simp
          have hwk := HW.out wr
          clear HW hq
          go_wp2_with fail
          go_at_call 9
          refine hwk.mono ?_
          rintro e w7 ⟨rfl, hB7⟩
          clear hwk
          go_wp2_with fail
          go_ret
          exact ⟨rfl, below_trans hB hB7⟩
        · have hq' : (((R.bs.length : Nat) : Int) == (n : Int)) = false := by rw [beq_eq_false_iff_ne]; omega
          have HM := Lib.hid (HLk.out hq)
          clear HLk hq HW
          go_wp2_with fail
          go_roundw
          case rel => exact ⟨k + 1, Hk.out, by go_num, trivial, HM.out⟩
          case measure => have := Hk.out; simp [RowKit.intOf]; omega
      · obtain rfl : k = others.length := by omega
        have HO := Lib.hid (show ∀ r ∈ bsL others, r.length ≠ n from fun r hr => by
          obtain ⟨p, hp, rfl⟩ := List.mem_map.1 hr
          obtain ⟨j, hj, rfl⟩ := List.getElem_of_mem hp
          exact hL j hj hj)
        clear hL HAT hlt hk
        have hown1 := HOWN.out
        have h1s := H1s.out.below hB
        have hsz := hB.size
        go_wp2_with (first
          | (at_builtin
             refine wpList_append_slg _ rfl (.tmp 81) (.tmp 82) _ rfl w5.heap.size 23 i0 _ 24 Try.underlying22 hi hz0 hz1 hz2 rfl _ _ _ hown1 rfl w.heap.size _ others h1s rfl eC_one (by have := HN.out; unfold maxLen; omega) (by have := HN.out; omega) HS5.out ?_
             intro v4' w7 hown2 hg2 hat2))
        have hB7 : Below w5.heap.size wr w7 := below_grownR hown1 hg2 HS5.out (Nat.le_refl _)
        have hBw : Below w.heap.size w w7 := hB.trans (hB7.mono HSw.out)
        have hmo : RowsIn w7 v4' (rows ++ others) := rows_of (B := w5.heap.size) (by simpa [List.length_append] using hown2) (fun p hp => by rcases List.mem_append.1 hp with hp | hp; exact HR0.out p hp; exact HR1.out p hp) hBw
        have Hx := Lib.hid (HX5.out w7 (HB5.out.trans hB7))
        have hB := hBw
        clear hown1 h1s hown2 hg2 hat2 hB7 hBw hsz HOWN
        go_at_call 10
        refine (Q4.out _ _ hmo).mono ?_
        rintro e w8 ⟨rfl, hB8⟩
        have Hmo := Lib.hid (hmo.next hB8)
        have Hx := Lib.hid (Hx.out.next hB8)
        have hB := below_trans hB hB8
        clear hmo hB8
        go_wp2_with fail
        go_at_call 14
        refine (Q5.out _ _ Hmo.out).mono ?_
        rintro e w9 ⟨hB9, vz, rfl, hz⟩
        have hx := Hx.out.next hB9
        have hB := below_trans hB hB9
        have hwk := HW.out w9
        clear Hmo hB9 HW Q4 Q5
        by_cases hmn : m = n
        · have hs := same_is vz vx Z X true (decide_eq_true (HZ.out HO.out hmn)) w9.heap.size w9 hz hx
          subst hmn
          clear hz hx HZ HO
          go_wp2_with fail
          go_at_call 16
          refine hs.mono ?_
          rintro e w10 ⟨rfl, rfl⟩
          clear hs
          go_wp2_with fail
          go_at_call 9
          refine hwk.mono ?_
          rintro e w10 ⟨rfl, hB10⟩
          clear hwk
          go_wp2_with fail
          go_ret
          exact ⟨rfl, below_trans hB hB10⟩
        · have e1 : ((m : Int) == (n : Int)) = false := by rw [beq_eq_false_iff_ne]; omega
          clear hz hx HZ HO
          go_wp2_with fail
          go_at_call 9
          refine hwk.mono ?_
          rintro e w10 ⟨rfl, hB10⟩
          clear hwk
          go_wp2_with fail
          go_ret
          exact ⟨rfl, below_trans hB hB10⟩
theorem ConsensusAlone_any (v0 v1 : Value) (rows others : List RowC) (w : World) (h0 : RowsIn w v0 rows) (h1 : RowsIn w v1 others) :
    Calls Try.prog 7 #[v0, v1] w fun e w' => e = .returned (.bool true) ∧ Below w.heap.size w w' := by
  by_cases hg : grG rows = true ∨ grG others = true ∨ 12 < rows.length ∨ 10 < others.length
  · exact Alone_great v0 v1 rows others w h0 h1 hg
  · refine Alone_main v0 v1 rows others w h0 h1 ?_ ?_ ?_ ?_
    · cases e : grG rows <;> simp_all
    · cases e : grG others <;> simp_all
    · exact fun h => hg (.inr (.inr (.inl h)))
    · exact fun h => hg (.inr (.inr (.inr h)))
end Go.Proofs.Ytfkjheilcbppcaa
