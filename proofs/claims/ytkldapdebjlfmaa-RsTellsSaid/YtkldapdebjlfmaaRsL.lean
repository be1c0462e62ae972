/- Contracts of slices.IndexFunc and ContainsFunc at rs's test, and of rs.Right. -/
import Derived.Test.YtkldapdebjlfmaaRsK
namespace Go.Proofs.Ytkldapdebjlfmaa
open Go.RowKit Go.Shelf
attribute [local go_sem] Oper.semAt_some

theorem some_any (x : UInt8) (w : World) : Calls Try.prog 38 #[eB x] w fun e w' => e = .returned (.bool (decide (x ≠ 0))) ∧ w = w' := by
  by_cases h : x = 0
  · have hz := beq_zero x h
    have hz' : ((x.toNat : Int) != 0) = false := by rw [bne, hz]; rfl
    rw [decide_eq_false (by simpa using h)]
    clear h
    go_enter Try.func38, Try.ntmps38
    go_wp2
    go_ret
    exact ⟨by simp, rfl⟩
  · have hz := beq_some x h
    have hz' : ((x.toNat : Int) != 0) = true := by rw [bne, hz]; rfl
    rw [decide_eq_true h]
    clear h
    go_enter Try.func38, Try.ntmps38
    go_wp2
    go_ret
    exact ⟨by simp, rfl⟩
set_option maxRecDepth 100000 in
set_option maxHeartbeats 2000000 in
theorem IndexFunc_any (sv : Value) (xs : List UInt8) (hx : xs.length ≤ 100000) (w : World) (hS : Sl eB w.heap.size w sv xs) :
    Calls Try.prog 57 #[sv, .func (.func 38) #[] #[]] w fun e w' => (∃ i : Int, e = .returned (.int .i64 i) ∧ ((xs.all (· = 0) = true ∧ i = -1) ∨ (xs.all (· = 0) = false ∧ 0 ≤ i))) ∧ w = w' := by
  obtain ⟨A, cap, rfl, hcap, hcs⟩ := hS
  go_enter Try.func57, Try.ntmps57
  go_wp2_with fail
  go_loopw [8] (fun i wr => ∃ k : Nat, k ≤ xs.length ∧ i = .int .i64 (k : Nat) ∧ (xs.take k).all (· = 0) = true ∧ w = wr) (fun i _ => xs.length - (intOf i).toNat)
  case atStart => exact ⟨0, Nat.zero_le _, rfl, by simp, rfl⟩
  case round =>
    obtain ⟨k, hk, rfl, hall, rfl⟩ := hrel
    by_cases hlt : k < xs.length
    · have hl : decide ((k : Int) < (xs.length : Int)) = true := decide_eq_true (by omega)
      have hkl : (k : Int) < (xs.length : Int) := by omega
      obtain ⟨b, off, rfl, hb, hcell⟩ := hcs (by omega)
      have hcx : w.cell? ⟨b, off + k, none⟩ = some (eB xs[k]) := hcell k _ (by simp [hlt])
      have e : xs.take (k + 1) = xs.take k ++ [xs[k]] := List.take_succ_eq_append_getElem (by omega)
      by_cases h0 : xs[k] = 0
      · have hall2 : (xs.take (k + 1)).all (· = 0) = true := by rw [e, List.all_append, hall]; simp [h0]
        have hr := some_any xs[k] w
        rw [decide_eq_false (by simpa using h0)] at hr
        clear e hall hcell hcs h0
        generalize xs[k] = x at *
        have Ha := Lib.hid hall2
        clear hall2
        go_wp2_with fail
        go_at_call 38
        refine hr.mono ?_
        rintro e w' ⟨rfl, rfl⟩
        go_wp2
        go_roundw
        case rel => exact ⟨k + 1, by omega, by go_num, Ha.out, trivial⟩
        case measure => simp [intOf]; omega
      · have hno : xs.all (· = 0) = false := by
          rw [List.all_eq_false]
          exact ⟨xs[k], List.getElem_mem _, by simpa using h0⟩
        have hr := some_any xs[k] w
        rw [decide_eq_true h0] at hr
        have Ha := Lib.hid hno
        clear e hall hcell hcs h0 hno
        generalize xs[k] = x at *
        go_wp2_with fail
        go_at_call 38
        refine hr.mono ?_
        rintro e w' ⟨rfl, rfl⟩
        go_wp2
        go_ret
        exact ⟨⟨_, rfl, .inr ⟨Ha.out, by omega⟩⟩, rfl⟩
    · obtain rfl : k = xs.length := by omega
      have hl : decide ((xs.length : Int) < (xs.length : Int)) = false := decide_eq_false (by omega)
      rw [List.take_length] at hall
      have Ha := Lib.hid hall
      clear hall hcs
      go_wp2
      go_ret
      exact ⟨⟨_, rfl, .inl ⟨Ha.out, rfl⟩⟩, rfl⟩
set_option maxRecDepth 100000 in
set_option maxHeartbeats 1000000 in
theorem ContainsFunc_any (sv : Value) (xs : List UInt8) (hx : xs.length ≤ 100000) (w : World) (hS : Sl eB w.heap.size w sv xs) :
    Calls Try.prog 37 #[sv, .func (.func 38) #[] #[]] w fun e w' => e = .returned (.bool (!xs.all (· = 0))) ∧ w = w' := by
  have hi := IndexFunc_any sv xs hx w hS
  obtain ⟨b, hb⟩ : ∃ b, xs.all (· = 0) = b := ⟨_, rfl⟩
  rw [hb] at hi
  rw [hb]
  obtain ⟨A, c, rfl⟩ := hS.len
  clear hS hb
  go_enter Try.func37, Try.ntmps37
  go_wp2_with fail
  go_at_call 57
  refine hi.mono ?_
  rintro e w' ⟨⟨i, rfl, h⟩, rfl⟩
  rcases h with ⟨rfl, rfl⟩ | ⟨rfl, h0⟩
  · go_wp2
    go_ret
    exact ⟨rfl, rfl⟩
  · have hd : decide ((0 : Int) ≤ i) = true := decide_eq_true h0
    go_wp2
    go_ret
    exact ⟨rfl, rfl⟩
set_option maxRecDepth 100000 in
set_option maxHeartbeats 1000000 in
theorem Right_yes (wv : Value) (word : List UInt8) (p : Nat) (hp : p ≤ word.length) (hl : word.length ≤ 255) (w : World) (hS : Sl eB w.heap.size w wv word) :
    Calls Try.prog 18 #[wv, .int .i64 p] w fun e w' => e = .returned (.bool ((synL word.reverse p).all (· = 0))) ∧ Below w.heap.size w w' := by
  have hs := Syndromes_yes wv word p hp hl w hS
  have hc := fun v w h => ContainsFunc_any v (synL word.reverse p) (by rw [synL_length]; omega) w h
  obtain ⟨b, hb⟩ : ∃ b, (synL word.reverse p).all (· = 0) = b := ⟨_, rfl⟩
  rw [hb] at hc
  rw [hb]
  clear hb
  obtain ⟨A, c, rfl⟩ := hS.len
  generalize synL word.reverse p = L at *
  go_enter Try.func18, Try.ntmps18
  go_wp2_with fail
  go_at_call 16
  refine hs.mono ?_
  rintro e w1 ⟨v1, rfl, hv1, hB1⟩
  obtain ⟨A1, c1, rfl⟩ := hv1.len
  go_wp2_with fail
  go_at_call 37
  refine (hc _ w1 hv1).mono ?_
  rintro e w' ⟨rfl, rfl⟩
  clear hs hc
  cases b
  · go_wp2
    go_ret
    exact ⟨rfl, hB1⟩
  · go_wp2
    go_ret
    exact ⟨rfl, hB1⟩
set_option maxRecDepth 100000 in
set_option maxHeartbeats 1000000 in
theorem Right_no (A : Option Addr) (n c : Nat) (p : Int) (hp : p < 0 ∨ 255 < p ∨ 255 < n ∨ (n : Int) < p) (w : World) :
    Calls Try.prog 18 #[.slice A n c, .int .i64 p] w fun e w' => e = .returned (.bool false) ∧ Below w.heap.size w w' := by
  have hs := Syndromes_no A n c p hp w
  clear hp
  go_enter Try.func18, Try.ntmps18
  go_wp2_with fail
  go_at_call 16
  refine hs.mono ?_
  rintro e w1 ⟨rfl, hB1⟩
  go_wp2
  go_ret
  exact ⟨rfl, hB1⟩
end Go.Proofs.Ytkldapdebjlfmaa
