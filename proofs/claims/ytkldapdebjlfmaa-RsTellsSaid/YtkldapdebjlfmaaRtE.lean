/- Contracts of helixref05.Word and Syndromes. -/
import Derived.Test.YtkldapdebjlfmaaRtD
import Derived.Test.YtkldapdebjlfmaaRsJ
namespace Go.Proofs.Ytkldapdebjlfmaa
open Go.RowKit Go.Shelf
attribute [local go_sem] Oper.semAt_some

set_option maxRecDepth 100000 in
set_option maxHeartbeats 2000000 in
theorem RWord_no (A : Option Addr) (n c : Nat) (p : Int) (h : p < 0 ∨ 255 - (n : Int) < p) (w : World) :
    Calls Try.prog 15 #[.slice A n c, .int .i64 p] w fun e w' => e = .returned (.tuple #[.slice none 0 0, .int .i64 2]) ∧ Below w.heap.size w w' := by
  have hE := REnc_no A n c p h w
  clear h
  go_enter Try.func15, Try.ntmps15
  go_wp2_with fail
  go_at_call 13
  refine hE.mono ?_
  rintro e w1 ⟨rfl, hB1⟩
  go_wp2
  go_ret2
  exact ⟨rfl, hB1⟩

set_option maxRecDepth 100000 in
set_option maxHeartbeats 4000000 in
theorem RWord_yes (dv : Value) (data : List UInt8) (p : Nat) (hp : p + data.length ≤ 255) (w : World) (hS : Sl eB w.heap.size w dv data) :
    Calls Try.prog 15 #[dv, .int .i64 p] w fun e w' => ∃ v, e = .returned (.tuple #[v, .int .i64 0]) ∧ Sl eB w'.heap.size w' v (data ++ restL p data) ∧ Below w.heap.size w w' := by
  have hE := REnc_yes dv data p hp w hS
  obtain ⟨A, c, rfl⟩ := hS.len
  obtain ⟨i0, hi, hz0, hz1, hz2⟩ := info_parts info_u8
  have hlr := restL_length p data
  generalize restL p data = R at *
  go_enter Try.func15, Try.ntmps15
  go_wp2_with fail
  go_at_call 13
  refine hE.mono ?_
  rintro e w1 ⟨v1, rfl, hv1, hB1⟩
  have hS1 := hS.next hB1
  have hR1 := hv1.sl
  obtain ⟨Ar, cr, e1⟩ := hR1.len
  rw [hlr] at e1
  subst e1
  have hrow := row_made w1
  have hBa := below_alloc w1 (.cells #[] 5)
  have hS2 := hS1.below hBa
  have Hlr := Lib.hid hlr
  clear hE hS hv1 hS1 hlr
  go_wp2_with
    (at_builtin
     first
     | (refine wpList_append_sl _ rfl (.tmp 17) (.tmp 18) _ rfl w1.heap.size 5 i0 (.int .u8 0) 1 Try.underlying22 hi hz0 hz1 hz2 rfl _ 0 [] hrow rfl _ (.slice A data.length c) data hS2 rfl (fun _ => rfl) (by unfold maxLen; omega) (by omega) (by simp) ?_
        intro v2 w2 hown2 hg2 _
        have hB2 : Below w1.heap.size w1 w2 := hBa.trans (below_grown hrow hg2 (by simp) (Nat.le_refl _)))
     | (refine wpList_append_sl _ rfl (.tmp 19) (.tmp 20) _ rfl w1.heap.size 5 i0 (.int .u8 0) 1 Try.underlying22 hi hz0 hz1 hz2 rfl _ _ _ hown2 rfl _ (.slice Ar p cr) R (hR1.below hB2) rfl (fun _ => rfl) (by rw [Hlr.out]; unfold maxLen; omega) (by rw [Hlr.out]; omega) hB2.size ?_
        intro v3 w3 hown3 hg3 _
        have hB3 : Below w1.heap.size w1 w3 := hB2.trans (below_grown hown2 hg3 hB2.size (Nat.le_refl _))))
  have hO : Own8 w1.heap.size w3 v3 (data ++ R) := by
    unfold Own8
    rw [List.map_append, List.length_append]
    simpa using hown3
  clear hown2 hg2 hown3 hg3
  try go_wp2_with fail
  go_ret2
  exact ⟨v3, rfl, hO.sl, below_trans hB1 hB3⟩

set_option maxRecDepth 100000 in
set_option maxHeartbeats 2000000 in
theorem RSyn_no (A : Option Addr) (n c : Nat) (p : Int) (h : p < 0 ∨ 255 < p ∨ 255 < n ∨ (n : Int) < p) (w : World) :
    Calls Try.prog 17 #[.slice A n c, .int .i64 p] w fun e w' => e = .returned (.tuple #[.slice none 0 0, .int .i64 2]) ∧ Below w.heap.size w w' := by
  by_cases h0 : p < 0
  · have d0 : decide (p < 0) = true := decide_eq_true h0
    clear h
    go_enter Try.func17, Try.ntmps17
    go_wp2
    go_ret2
    exact ⟨rfl, Below.refl _ _⟩
  have d0 : decide (p < 0) = false := decide_eq_false h0
  by_cases h1 : 255 < p
  · have d1 : decide (255 < p) = true := decide_eq_true h1
    clear h
    go_enter Try.func17, Try.ntmps17
    go_wp2
    go_ret2
    exact ⟨rfl, Below.refl _ _⟩
  have d1 : decide (255 < p) = false := decide_eq_false h1
  by_cases h2 : 255 < n
  · have d2 : decide (255 < (n : Int)) = true := decide_eq_true (by omega)
    clear h
    go_enter Try.func17, Try.ntmps17
    go_wp2
    go_ret2
    exact ⟨rfl, Below.refl _ _⟩
  have d2 : decide (255 < (n : Int)) = false := decide_eq_false (by omega)
  have h3 : (n : Int) < p := by omega
  have d3 : decide ((n : Int) < p) = true := decide_eq_true h3
  clear h
  go_enter Try.func17, Try.ntmps17
  go_wp2
  go_ret2
  exact ⟨rfl, Below.refl _ _⟩

theorem synL_succ (R : List UInt8) (k : Nat) : synL R (k + 1) = synL R k ++ [ev R (g2 k)] := by simp [synL, pows2_succ]
set_option maxRecDepth 100000 in
set_option maxHeartbeats 4000000 in
theorem RSyn_yes (wv : Value) (word : List UInt8) (p : Nat) (hp : p ≤ word.length) (hl : word.length ≤ 255) (w : World) (hS : Sl eB w.heap.size w wv word) :
    Calls Try.prog 17 #[wv, .int .i64 p] w fun e w' => ∃ v, e = .returned (.tuple #[v, .int .i64 0]) ∧ Sl eB w'.heap.size w' v (synL word.reverse p) ∧ Below w.heap.size w w' := by
  obtain ⟨A, c, rfl⟩ := hS.len
  obtain ⟨i0, hi, hz0, hz1, hz2⟩ := info_parts info_u8
  have d0 : decide ((p : Int) < 0) = false := decide_eq_false (by omega)
  have d1 : decide (255 < (p : Int)) = false := decide_eq_false (by omega)
  have d1' : decide (255 < p) = false := decide_eq_false (by omega)
  have d2 : decide (255 < (word.length : Int)) = false := decide_eq_false (by omega)
  have d2' : decide (255 < word.length) = false := decide_eq_false (by omega)
  have d3 : decide ((word.length : Int) < (p : Int)) = false := decide_eq_false (by omega)
  have d3' : decide (word.length < p) = false := decide_eq_false (by omega)
  have hnil : Own8 w.heap.size w (.slice none 0 0) (synL word.reverse 0) := ⟨rfl, .inl ⟨rfl, rfl⟩⟩
  have hbk := fun w h => Back_any (.slice A word.length c) word (by omega) w h
  have hev := fun v x w h => REval_any v word.reverse x (by simp; omega) w h
  go_enter Try.func17, Try.ntmps17
  go_wp2_with fail
  clear d0 d1 d1' d2 d2' d3 d3'
  go_loopw [6, 7] (fun v i wr => ∃ k : Nat, k ≤ p ∧ i = .int .i64 k ∧ Own8 w.heap.size wr v (synL word.reverse k) ∧ Below w.heap.size w wr) (fun _ i _ => p - (intOf i).toNat)
  case atStart => exact ⟨0, Nat.zero_le _, rfl, hnil, Below.refl _ _⟩
  case round =>
    clear hnil
    obtain ⟨k, hk, rfl, hO, hB⟩ := hrel
    by_cases hlt : k < p
    · have dk : decide ((k : Int) < (p : Int)) = true := decide_eq_true (by omega)
      have hs := synL_succ word.reverse k
      have hll : (synL word.reverse k).length ≤ 255 := by rw [synL_length]; omega
      have hE := fun w => RExp k (by omega) w
      have hev' := fun v w h => hev v (g2 k) w h
      have hS1 := hS.next hB
      generalize ev word.reverse (g2 k) = x at *
      generalize g2 k = r at *
      have Hs := Lib.hid hs
      generalize synL word.reverse k = L at *
      clear hs hS hev
      go_wp2_with fail
      go_at_call 32
      refine (hbk wr hS1).mono ?_
      rintro e w2 ⟨v2, rfl, hv2, hB2⟩
      have hO2 := ownGrow hO hB2
      have hBw2 := below_trans hB hB2
      clear hbk hS1 hO hB
      go_wp2_with fail
      go_at_call 27
      refine (hE w2).mono ?_
      rintro e w' ⟨rfl, rfl⟩
      go_wp2_with fail
      go_at_call 36
      refine (hev' v2 w2 hv2.sl).mono ?_
      rintro e w3 ⟨rfl, hB3⟩
      have hO3 := ownGrow hO2 hB3
      have hBw3 := below_trans hBw2 hB3
      clear hE hev' hO2 hBw2 hv2 hB2 hB3
      have hBa := below_alloc w3 (.cells #[eB x] 5)
      have hq := Sl.new eB w3 [x] #[eB x] 5 (0, 0) 1 1 rfl (Nat.le_refl _) rfl
      have hO4 := ownGrow hO3 hBa
      have hB4 := below_trans hBw3 hBa
      have hsz := hB4.size
      go_wp2_with
        (at_builtin
         refine wpList_append_sl _ rfl (.tmp 30) (.tmp 36) _ rfl w.heap.size 5 i0 (.int .u8 0) 1 Try.underlying22 hi hz0 hz1 hz2 rfl _ _ _ hO4 rfl _ _ [x] hq rfl (fun _ => rfl) (by simp; unfold maxLen; omega) (by simp; omega) hsz ?_
         intro v5 w5 hown5 hg5 _
         have hB5 : Below w.heap.size w w5 := hB4.trans (below_grown hO4 hg5 hsz (Nat.le_refl _)))
      have hO5 : Own8 w.heap.size w5 v5 (L ++ [x]) := by unfold Own8; rw [List.map_append, List.length_append]; exact hown5
      clear hown5 hg5 hO4 hB4 hsz hO3 hBw3 hBa hq
      try go_wp2_with fail
      go_roundw
      case rel => exact ⟨k + 1, by omega, by go_num, by rw [Hs.out]; exact hO5, hB5⟩
      case measure => simp [intOf]; omega
    · obtain rfl : k = p := by omega
      have dk : decide ((k : Int) < (k : Int)) = false := decide_eq_false (by omega)
      go_wp2
      go_ret2
      exact ⟨_, rfl, hO.sl, hB⟩
end Go.Proofs.Ytkldapdebjlfmaa
