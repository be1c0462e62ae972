/- Contracts of helixref05.Encode and Word. -/
import Derived.Test.YtkldapdebjlfmaaRtC
namespace Go.Proofs.Ytkldapdebjlfmaa
open Go.RowKit Go.Shelf
attribute [local go_sem] Oper.semAt_some

set_option maxRecDepth 100000 in
set_option maxHeartbeats 2000000 in
theorem REnc_no (A : Option Addr) (n c : Nat) (p : Int) (h : p < 0 ∨ 255 - (n : Int) < p) (w : World) :
    Calls Try.prog 13 #[.slice A n c, .int .i64 p] w fun e w' => e = .returned (.tuple #[.slice none 0 0, .int .i64 2]) ∧ Below w.heap.size w w' := by
  by_cases h0 : p < 0
  · have d0 : decide (p < 0) = true := decide_eq_true h0
    clear h
    go_enter Try.func13, Try.ntmps13
    go_wp2
    go_ret2
    exact ⟨rfl, Below.refl _ _⟩
  have d0 : decide (p < 0) = false := decide_eq_false h0
  by_cases h1 : 255 < p
  · have d1 : decide (255 < p) = true := decide_eq_true h1
    clear h
    go_enter Try.func13, Try.ntmps13
    go_wp2
    go_ret2
    exact ⟨rfl, Below.refl _ _⟩
  have d1 : decide (255 < p) = false := decide_eq_false h1
  have e0 : IntKind.i64.wrap (255 - p) = 255 - p := IntWalk.i64_in _ (by omega)
  have h2 : 255 - p < (n : Int) := by omega
  have d2 : decide (255 - p < (n : Int)) = true := decide_eq_true h2
  clear h
  go_enter Try.func13, Try.ntmps13
  go_wp2
  go_ret2
  exact ⟨rfl, Below.refl _ _⟩

set_option maxRecDepth 100000 in
set_option maxHeartbeats 4000000 in
theorem REnc_yes (dv : Value) (data : List UInt8) (p : Nat) (hp : p + data.length ≤ 255) (w : World) (hS : Sl eB w.heap.size w dv data) :
    Calls Try.prog 13 #[dv, .int .i64 p] w fun e w' => ∃ v, e = .returned (.tuple #[v, .int .i64 0]) ∧ Own8 w.heap.size w' v (restL p data) ∧ Below w.heap.size w w' := by
  obtain ⟨A, c, rfl⟩ := hS.len
  obtain ⟨i0, hi, hz0, hz1, hz2⟩ := info_parts info_u8
  have d0 : decide ((p : Int) < 0) = false := decide_eq_false (by omega)
  have d1 : decide (255 < (p : Int)) = false := decide_eq_false (by omega)
  have d1' : decide (255 < p) = false := decide_eq_false (by omega)
  have e0 : IntKind.i64.wrap (255 - (p : Int)) = ((255 - p : Nat) : Int) := by rw [IntWalk.i64_in _ (by omega)]; omega
  have d2 : decide (((255 - p : Nat) : Int) < (data.length : Int)) = false := decide_eq_false (by omega)
  have d2' : decide (255 - (p : Int) < (data.length : Int)) = false := decide_eq_false (by omega)
  have d2'' : ¬ 255 - (p : Int) < (data.length : Int) := by omega
  have hG := RGen_yes p (by omega) w
  have hbk := fun w h => Back_any (.slice A data.length c) data (by omega) w h
  have hcl : clampN ((p : Nat) : Int) = p := by unfold clampN; omega
  have hsh := fun v w h => RShift_any v data.reverse (p : Int) (by simp; omega) w h
  rw [hcl] at hsh
  have lsh : (shN p data.reverse).length ≤ 255 := by rw [shN_len]; simp; omega
  have hDl : (tr (C (shN p data.reverse)) (shN p data.reverse).length).length ≤ 255 := by rw [tr_length]; exact Nat.le_trans (tl_le _ _) lsh
  have hDC : C (tr (C (shN p data.reverse)) (shN p data.reverse).length) = C (shN p data.reverse) := C_tr _ _ (fun k hk => C_big _ k hk)
  obtain ⟨hGl, hGt⟩ := RT_monic (pows2 p)
  rw [pows2_length] at hGl hGt
  have hrest := fun Q R h => rest_is data p (by omega) _ Q R hDC h
  generalize tr (C (shN p data.reverse)) (shN p data.reverse).length = D at *
  have hdv := fun v vg w h1 h2 => RDivide_own v vg D (RT (pows2 p)) (by omega) (by omega) (Nat.lt_of_le_of_lt (Nat.zero_le _) (tl_pos (C (RT (pows2 p))) (RT (pows2 p)).length p (by omega) (by rw [hGt]; decide))) w h1 h2
  have Hrest := Lib.hid hrest
  clear hcl lsh hDl hDC hGl hGt hrest
  go_enter Try.func13, Try.ntmps13
  go_wp2_with fail
  go_at_call 10
  refine hG.mono ?_
  rintro e w1 ⟨vg, rfl, hvg, hB1⟩
  have hS1 := hS.next hB1
  clear hG hS d0 d1 d1' e0 d2 d2' d2''
  go_wp2_with fail
  go_at_call 32
  refine (hbk w1 hS1).mono ?_
  rintro e w2 ⟨vb, rfl, hvb, hB2⟩
  have hvg2 := hvg.next hB2
  have hBw2 := below_trans hB1 hB2
  clear hbk hS1 hvg hB2 hB1
  go_wp2_with fail
  go_at_call 31
  refine (hsh vb w2 hvb.sl).mono ?_
  rintro e w3 ⟨vs, rfl, hvs, hB3⟩
  have hvg3 := hvg2.next hB3
  have hBw3 := below_trans hBw2 hB3
  clear hsh hvg2 hBw2 hB3 hvb
  go_wp2_with fail
  go_at_call 30
  refine (hdv vs vg w3 hvs.sl hvg3).mono ?_
  rintro e w4 ⟨vq, vr, Q, R, hok, rfl, hvq, hvr, hB4⟩
  obtain ⟨hRp, hRe⟩ := Hrest.out Q R hok
  have hvr0 : Own8 w.heap.size w4 vr (R ++ List.replicate 0 0) := by rw [List.replicate_zero, List.append_nil]; exact hvr.mono hBw3.size
  have hBw4 := below_trans hBw3 hB4
  have He := Lib.hid hRe
  clear hdv hvs hvg3 hB4 hvq hvr Hrest hok hBw3 hRe
  go_wp2_with fail
  go_loopw [9] (fun v wr => ∃ j : Nat, R.length + j ≤ p ∧ Own8 w.heap.size wr v (R ++ List.replicate j 0) ∧ Below w.heap.size w wr) (fun v _ => p - lenOf0 v)
  case atStart => exact ⟨0, by omega, hvr0, hBw4⟩
  case round =>
    clear hvr0 hBw4
    obtain ⟨j, hj, hO, hB⟩ := hrel
    obtain ⟨Ar, cr, e⟩ := hO.sl.len
    have hl : (R ++ List.replicate j (0 : UInt8)).length = R.length + j := by simp
    rw [hl] at e
    subst e
    by_cases hlt : R.length + j < p
    · have hrs : R ++ List.replicate (j + 1) (0 : UInt8) = (R ++ List.replicate j 0) ++ [0] := by rw [List.replicate_succ', List.append_assoc]
      have Hrs := Lib.hid hrs
      generalize R ++ List.replicate j (0 : UInt8) = L at *
      obtain ⟨n, hn⟩ : ∃ n, R.length + j = n := ⟨_, rfl⟩
      rw [hn] at hl hO hlt
      rw [hn]
      have dk : decide ((n : Int) < (p : Int)) = true := decide_eq_true (by omega)
      have Hn := Lib.hid hn
      clear hrs hn hj
      have hBa := below_alloc wr (.cells #[.int .u8 0] 5)
      have hq : Sl eB (wr.alloc (.cells #[.int .u8 0] 5)).heap.size (wr.alloc (.cells #[.int .u8 0] 5)) (.slice (some ⟨wr.heap.size, 0, none⟩) 1 1) [0] := Sl.new eB wr [0] #[eB 0] 5 (0, 0) 1 1 rfl (Nat.le_refl _) rfl
      have hO2 := ownGrow hO hBa
      have hB2 := below_trans hB hBa
      have hsz := hB2.size
      go_wp2_with
        (at_builtin
         refine wpList_append_sl _ rfl (.tmp 43) (.tmp 44) _ rfl w.heap.size 5 i0 (.int .u8 0) 1 Try.underlying22 hi hz0 hz1 hz2 rfl _ _ _ hO2 rfl _ _ [0] hq rfl (fun _ => rfl) (by simp; unfold maxLen; omega) (by simp; omega) hsz ?_
         intro v1 w1 hown1 hg1 _
         have hB3 : Below w.heap.size w w1 := hB2.trans (below_grown hO2 hg1 hsz (Nat.le_refl _)))
      have hO3 : Own8 w.heap.size w1 v1 (L ++ [0]) := by unfold Own8; rw [List.map_append, List.length_append]; exact hown1
      obtain ⟨A3, c3, e3⟩ := hO3.sl.len
      have hmeas : lenOf0 v1 = n + 1 := by rw [e3]; simp [lenOf0, hl]
      clear hown1 hg1 hO2 hB2 hsz hO hB hBa hq e3
      try go_wp2_with fail
      go_roundw
      case rel => exact ⟨j + 1, by have := Hn.out; omega, by rw [Hrs.out]; exact hO3, hB3⟩
      case measure => simp [lenOf0] at hmeas ⊢; omega
    · have hjp : R.length + j = p := by omega
      have hL : (R ++ List.replicate j (0 : UInt8)).reverse = restL p data := by rw [← He.out, padR, show p - R.length = j by omega]
      have hbk := Back_any (.slice Ar (R.length + j) cr) (R ++ List.replicate j 0) (by rw [hl]; omega) wr hO.sl
      rw [hL] at hbk
      rw [hjp] at hbk ⊢
      have dk : decide ((p : Int) < (p : Int)) = false := decide_eq_false (by omega)
      clear hL hO hl He hlt hj hjp
      go_wp2_with fail
      go_at_call 32
      refine hbk.mono ?_
      rintro e w5 ⟨v5, rfl, hv5, hB5⟩
      go_wp2
      go_ret2
      exact ⟨_, rfl, hv5.mono hB.size, below_trans hB hB5⟩
end Go.Proofs.Ytkldapdebjlfmaa
