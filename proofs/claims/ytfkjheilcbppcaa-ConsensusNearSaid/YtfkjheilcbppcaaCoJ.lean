/- Contracts of consensus.Length, Column. (Seat s27.) -/
import Derived.Test.YtfkjheilcbppcaaCoI
namespace Go.Proofs.Ytfkjheilcbppcaa
open Go.RowKit Go.Maps
attribute [local go_sem] Oper.semAt_some run_store_func

theorem bsL_le {rows : List RowC} {m : Nat} (h : ∀ p ∈ rows, p.bs.length ≤ m) : ∀ r ∈ bsL rows, r.length ≤ m := by
  intro r hr
  obtain ⟨p, hp, rfl⟩ := List.mem_map.1 hr
  exact h p hp
theorem CoLength_any (v0 : Value) (rows : List RowC) (hr : rows.length ≤ 1000) (hl8 : ∀ p ∈ rows, p.bs.length ≤ 5000) (w : World) (h0 : RowsIn w v0 rows) :
    Calls Try.prog 10 #[v0] w fun e w' => e = .returned (.tuple #[.int .i64 (lenG (bsL rows)).1, .bool (decide (0 < (lenG (bsL rows)).2))]) ∧ Below w.heap.size w w' := by
  have hL := CoLengths_any v0 rows hr hl8 w h0
  have hB8 := bsL_le hl8
  go_enter Try.func10, Try.ntmps10
  go_wp2_with fail
  go_at_call 20
  refine hL.mono ?_
  rintro e w1 ⟨rfl, hbox, ⟨D, hown, hM⟩, hB⟩
  have hlt := hown.lt
  have hlx := hbox.lt
  have hm := MostI_any 26 #[.pointer (some ⟨w.heap.size + 1, 0, none⟩)] (lenL (bsL rows)) w1 (enters_of Try.func26 (by kernel_rfl) rfl) (fun W hW hs => by
    refine lengths_seq w1.heap.size w.heap.size (w.heap.size + 1) rows.length (bsL rows) D hr hB8 W (by omega) hlt hlx ((hW.block _ hlx).trans hbox) ?_ hM
    obtain ⟨es, clock, hb0, Ft, hs0, hD⟩ := hown
    exact ⟨es, clock, (hW.block _ hlt).trans hb0, Ft, hs0, hD⟩)
  rw [show mostF (lenL (bsL rows)) (0, 0) = lenG (bsL rows) from keysL_most _] at hm
  clear hL h0
  go_wp2_with fail
  go_at_call 19
  refine hm.mono ?_
  rintro e w2 ⟨rfl, hB2⟩
  go_wp2_with fail
  go_ret2
  exact ⟨rfl, below_trans hB hB2⟩
theorem bsL_of (rows : List RowC) (n : Nat) : bsL (ofL rows n) = (bsL rows).filter fun r => r.length == n := by
  unfold bsL ofL
  rw [List.filter_map]
  rfl
theorem cntA_of (rows : List RowC) (n i c : Nat) : cntA (bsL (ofL rows n)) i c = cntC (bsL rows) n i c := by
  rw [bsL_of]
  unfold cntA cntC
  rw [List.countP_filter]
  refine List.countP_congr fun r _ => ?_
  rw [Bool.and_comm]
theorem letL_col (rows : List RowC) (i : Nat) : mostF (letL (bsL (ofL rows (lenG (bsL rows)).1)) i) (0, 0) = colG (bsL rows) i := by
  unfold letL colG
  simp only [cntA_of]
theorem ofL_le (rows : List RowC) (n : Nat) : (ofL rows n).length ≤ rows.length := List.length_filter_le ..
theorem ofL_len {rows : List RowC} {n : Nat} {p : RowC} (h : p ∈ ofL rows n) : p.bs.length = n := by
  have := (List.mem_filter.1 h).2
  simpa using this
/-- The most of the letters at a place of rows of a length. -/
theorem most_letters (rows : List RowC) (i : Nat) (hi : i < (lenG (bsL rows)).1) (h8 : i ≤ 5000) (hr : rows.length ≤ 1000) (v : Value) (w : World) (h0 : RowsIn w v (ofL rows (lenG (bsL rows)).1)) :
    Calls Try.prog 22 #[v, .int .i64 i] w fun e w' => e = .returned (.func (.func 29) #[] #[.pointer (some ⟨w.heap.size, 0, none⟩)]) ∧ Below w.heap.size w w' ∧
      Calls Try.prog 21 #[.func (.func 29) #[] #[.pointer (some ⟨w.heap.size, 0, none⟩)]] w' fun e w2 => e = .returned (.tuple #[.int .u8 (colG (bsL rows) i).1, .int .i64 (colG (bsL rows) i).2, .bool (decide (0 < (colG (bsL rows) i).2))]) ∧ Below w'.heap.size w' w2 := by
  refine (CoLetters_any v (ofL rows (lenG (bsL rows)).1) i (Nat.le_trans (ofL_le _ _) hr) h8 (fun p hp => by rw [ofL_len hp]; exact hi) w h0).mono ?_
  rintro e w1 ⟨rfl, hrow, hB⟩
  have hlt := hrow.lt
  have hm := MostB_any 29 #[.pointer (some ⟨w.heap.size, 0, none⟩)] (letL (bsL (ofL rows (lenG (bsL rows)).1)) i) w1 (enters_of Try.func29 (by kernel_rfl) rfl) (fun W hW hs => letters_seq w.heap.size _ i W (by omega) (hrow.below hW hlt) _)
  rw [letL_col] at hm
  exact ⟨rfl, hB, hm⟩
set_option maxHeartbeats 1000000 in
theorem CoColumn_any (v0 : Value) (rows : List RowC) (i : Int) (hr : rows.length ≤ 1000) (hl8 : ∀ p ∈ rows, p.bs.length ≤ 5000) (w : World) (h0 : RowsIn w v0 rows) :
    Calls Try.prog 12 #[v0, .int .i64 i] w fun e w' => e = .returned (if 0 < (lenG (bsL rows)).2 ∧ 0 ≤ i ∧ i < (lenG (bsL rows)).1 then .tuple #[.int .u8 (colG (bsL rows) i.toNat).1, .int .i64 (colG (bsL rows) i.toNat).2, .bool true] else .tuple #[.int .u8 0, .int .i64 0, .bool false]) ∧ Below w.heap.size w w' := by
  have hL := CoLength_any v0 rows hr hl8 w h0
  by_cases hok : 0 < (lenG (bsL rows)).2
  · rw [decide_eq_true hok] at hL
    by_cases hi0 : i < 0
    · rw [if_neg (by omega)]
      go_enter Try.func12, Try.ntmps12
      go_wp2_with fail
      go_at_call 10
      refine hL.mono ?_
      rintro e w1 ⟨rfl, hB⟩
      have d1 := decide_eq_true hi0
      clear hL
      go_wp2_with fail
      go_ret3
      exact ⟨rfl, hB⟩
    · by_cases hi1 : i < (lenG (bsL rows)).1
      · rw [if_pos (by omega)]
        obtain ⟨k, rfl⟩ : ∃ k : Nat, i = k := ⟨i.toNat, by omega⟩
        have hne : bsL rows ≠ [] := by intro h; rw [h] at hok; exact absurd hok (by decide)
        have hlen8 : (lenG (bsL rows)).1 ≤ 5000 := by
          obtain ⟨p1, p2⟩ := lenG_is (bsL rows) hne
          obtain ⟨r, hr, hl⟩ := cntL_pos.1 (show 0 < cntL (bsL rows) (lenG (bsL rows)).1 by omega)
          have := bsL_le hl8 r hr
          omega
        have hO := fun w' h' => CoOf_any v0 rows (lenG (bsL rows)).1 hr w' h'
        have hM := fun v w' h' => most_letters rows k (by omega) (by omega) hr v w' h'
        have hp := (colG_is (bsL rows) hne k).2.1
        rw [decide_eq_true hp] at hM
        have hkn : (k : Int).toNat = k := by omega
        rw [hkn]
        generalize (lenG (bsL rows)).1 = n at *
        generalize colG (bsL rows) k = C at *
        go_enter Try.func12, Try.ntmps12
        go_wp2_with fail
        go_at_call 10
        refine hL.mono ?_
        rintro e w1 ⟨rfl, hB⟩
        have h1 := h0.next hB
        have d1 := decide_eq_false (show ¬ (k : Int) < 0 by omega)
        have d2 : decide ((n : Int) ≤ (k : Int)) = false := decide_eq_false (by omega)
        clear hL hkn
        go_wp2_with fail
        go_at_call 23
        refine (hO _ h1).mono ?_
        rintro e w2 ⟨v, rfl, h2, hB2⟩
        go_wp2_with fail
        go_at_call 22
        refine (hM v _ h2).mono ?_
        rintro e w3 ⟨rfl, hB3, hM3⟩
        go_wp2_with fail
        go_at_call 21
        refine hM3.mono ?_
        rintro e w4 ⟨rfl, hB4⟩
        go_wp2_with fail
        go_ret3
        exact ⟨rfl, below_trans hB (below_trans hB2 (below_trans hB3 hB4))⟩
      · rw [if_neg (by omega)]
        generalize (lenG (bsL rows)).1 = n at *
        go_enter Try.func12, Try.ntmps12
        go_wp2_with fail
        go_at_call 10
        refine hL.mono ?_
        rintro e w1 ⟨rfl, hB⟩
        have d1 := decide_eq_false (show ¬ i < 0 by omega)
        have d2 : decide ((n : Int) ≤ i) = true := decide_eq_true (by omega)
        clear hL
        go_wp2_with fail
        go_ret3
        exact ⟨rfl, hB⟩
  · rw [decide_eq_false hok] at hL
    rw [if_neg (by omega)]
    go_enter Try.func12, Try.ntmps12
    go_wp2_with fail
    go_at_call 10
    refine hL.mono ?_
    rintro e w1 ⟨rfl, hB⟩
    clear hL
    go_wp2_with fail
    go_ret3
    exact ⟨rfl, hB⟩
end Go.Proofs.Ytfkjheilcbppcaa
