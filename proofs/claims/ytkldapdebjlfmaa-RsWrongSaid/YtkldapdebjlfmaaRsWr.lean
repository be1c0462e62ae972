/- RsWrong. -/
import Derived.Test.YtkldapdebjlfmaaRsPr
import Derived.StillTailTactics
import Derived.BigQuiet
import Derived.RegionTactic
import Derived.Deep.DeepCutAuto
import Derived.Deep.Cut
import Derived.Deep.CutRange
import Derived.BigRegion
namespace Go.Proofs.Ytkldapdebjlfmaa
open Go.RowKit Go.Shelf
attribute [local go_sem] Oper.semAt_some

set_option maxRecDepth 100000 in
set_option maxHeartbeats 4000000 in
theorem RsWrong_big (A0 A2 : Option Addr) (l0 c0 n2 c2 : Nat) (p : Int) (w : World) (hbig : 200 < l0 ∨ p < 1 ∨ 32 < p ∨ p < n2) :
    Calls Try.prog 7 #[.slice A0 l0 c0, .int .i64 p, .slice A2 n2 c2] w fun e w' => e = .returned (.bool true) ∧ Below w.heap.size w w' := by
  by_cases b1 : 200 < l0
  · have d1 : decide ((200 : Int) < (l0 : Int)) = true := decide_eq_true (by omega)
    clear hbig b1
    go_enter Try.func7, Try.ntmps7
    go_wp2_with (go_at_call 8; refine (wakes_any _).mono ?_; rintro e w2 ⟨rfl, hB⟩)
    go_ret
    exact ⟨rfl, hB⟩
  have d1 : decide ((200 : Int) < (l0 : Int)) = false := decide_eq_false (by omega)
  by_cases b4 : p < 1
  · have d4 : decide (p < 1) = true := decide_eq_true b4
    clear hbig b1
    go_enter Try.func7, Try.ntmps7
    go_wp2_with (go_at_call 8; refine (wakes_any _).mono ?_; rintro e w2 ⟨rfl, hB⟩)
    go_ret
    exact ⟨rfl, hB⟩
  have d4 : decide (p < 1) = false := decide_eq_false b4
  by_cases b5 : 32 < p
  · have d5 : decide (32 < p) = true := decide_eq_true b5
    clear hbig b1
    go_enter Try.func7, Try.ntmps7
    go_wp2_with (go_at_call 8; refine (wakes_any _).mono ?_; rintro e w2 ⟨rfl, hB⟩)
    go_ret
    exact ⟨rfl, hB⟩
  have d5 : decide (32 < p) = false := decide_eq_false b5
  have b6 : p < n2 := by omega
  have d6 : decide (p < (n2 : Int)) = true := decide_eq_true b6
  clear hbig b1
  go_enter Try.func7, Try.ntmps7
  go_wp2_with (go_at_call 8; refine (wakes_any _).mono ?_; rintro e w2 ⟨rfl, hB⟩)
  go_ret
  exact ⟨rfl, hB⟩

set_option maxRecDepth 100000 in
set_option maxHeartbeats 8000000 in
theorem RsWrong_some (v0 v2 : Value) (xs : List UInt8) (p n2 : Nat) (F G : Nat → Int) (w : World) (hX : Sl eB w.heap.size w v0 xs) (hY : Prs w.heap.size w v2 n2 F G) (hd : xs.length ≤ 200) (hp1 : 1 ≤ p) (hp : p ≤ 32) (hnp : n2 ≤ p) :
    Calls Try.prog 7 #[v0, .int .i64 p, v2] w fun e w' => e = .returned (.bool true) ∧ Below w.heap.size w w' := by
  obtain ⟨A0, c0, rfl⟩ := hX.len
  obtain ⟨A2, c2, rfl, hcs⟩ := hY
  have d1 : decide ((200 : Int) < (xs.length : Int)) = false := decide_eq_false (by omega)
  have d4 : decide ((p : Int) < 1) = false := decide_eq_false (by omega)
  have d5 : decide (32 < (p : Int)) = false := decide_eq_false (by omega)
  have d6 : decide ((p : Int) < (n2 : Int)) = false := decide_eq_false (by omega)
  have d7 : decide (p < n2) = false := decide_eq_false (by omega)
  have hW1 := Word_yes (.slice A0 xs.length c0) xs p (by omega) w hX
  have ra := rig_word xs p
  have la : (xs ++ restL p xs).length = xs.length + p := by rw [List.length_append, restL_length]
  generalize xs ++ restL p xs = a at *
  generalize xs.length = n at *
  have e2 : IntKind.i64.wrap ((n : Int) + (p : Int)) = ((n + p : Nat) : Int) := by rw [IntWalk.i64_in _ (by omega)]; omega
  obtain ⟨N, hN⟩ : ∃ N, n + p = N := ⟨_, rfl⟩
  rw [hN] at la ra e2
  have hN2 : N ≤ 232 := by omega
  have hN1 : 0 < N := by omega
  have hpN : p ≤ N := by omega
  have hR : ∀ L v W, L.length = N → unlike (C a) (C L) N ≤ p → Sl eB W.heap.size W v L → Calls Try.prog 18 #[v, .int .i64 p] W fun e w' => e = .returned (.bool (decide (L = a))) ∧ Below W.heap.size W w' := by
    intro L v W lL hu h
    have h1 := Right_yes v L p (by omega) (by omega) W h
    rwa [right_unlike a L N p la lL (by omega) ra hu] at h1
  have hu0 : unlike (C a) (C a) N = 0 := unlike_same _ _ _ fun _ _ => rfl
  have HR := Lib.hid hR
  have Hcs := Lib.hid hcs
  clear hX hN hR ra hcs
  go_enter Try.func7, Try.ntmps7
  go_wp2_with fail
  go_at_call 14
  refine hW1.mono ?_
  rintro e w1 ⟨va, rfl, hva, hB1⟩
  obtain ⟨Aa, ca, e⟩ := hva.sl.len
  rw [la] at e
  subst e
  have rs0 := run_str (P := Try.prog) hva.sl 22 9 5 Try.underlying22 Try.underlying5 Try.underlying9
  clear hW1
  go_wp2_with fail
  clear rs0 e2 d1 d4 d5 d6 d7
  go_loopw [10] (fun i wr => ∃ (k : Nat) (L : List UInt8), k ≤ n2 ∧ i = .int .i64 k ∧ L.length = N ∧ unlike (C a) (C L) N ≤ k ∧ Own8 w.heap.size wr (.slice Aa N ca) L ∧ Below w.heap.size w wr) (fun i _ => n2 - (intOf i).toNat)
  case atStart => exact ⟨0, a, Nat.zero_le _, rfl, la, by omega, hva, hB1⟩
  case round =>
    clear hva hB1 hu0
    obtain ⟨k, L, hk, rfl, lL, hu, hO, hBr⟩ := hrel
    by_cases hlt : k < n2
    · have dk : decide ((k : Int) < (n2 : Int)) = true := decide_eq_true (by omega)
      obtain ⟨b, off, rfl, hb, hcell⟩ := Hcs.out (by omega)
      obtain ⟨cF, cG⟩ := hcell k hlt
      replace cF := (hBr.cell (p := ⟨b, off + k * 2, none⟩) hb).trans cF
      replace cG := (hBr.cell (p := ⟨b, off + k * 2 + 1, none⟩) hb).trans cG
      generalize F k = f at *
      generalize G k = g at *
      obtain ⟨u, hcv⟩ := byte_ex g
      rw [IntKind.wrap_u8] at hcv
      obtain ⟨m, hmN, hme⟩ := place_in f N hN1 (by omega)
      have Hme := Lib.hid hme
      obtain ⟨gb, cap, e, hgw, hgl, ck, fk, hput⟩ := own_set hO m (by omega)
      rw [lL] at e
      injection e with x1 x2 x3
      subst x1
      subst x3
      clear x2
      have hx := u8x (C L m) u
      have hset := hput wr.drew (C L m ^^^ u) rfl
      have lL2 : (L.set m (C L m ^^^ u)).length = N := by rw [List.length_set]; exact lL
      have hu2 := unlike_put (C a) L m (C L m ^^^ u) N k hu
      have hBs := (below_trans hBr (below_drewA wr)).setCell (p := ⟨gb, m, none⟩) hgw (eB (C L m ^^^ u))
      have ckd : wr.drew.cell? ⟨gb, m, none⟩ = some (eB (C L m)) := ck
      have fkd : wr.drew.frozen? ⟨gb, m, none⟩ = false := fk
      clear hput hO hcell hme HR Hcs
      obtain ⟨y, hyy⟩ : ∃ y : UInt8, C L m = y := ⟨_, rfl⟩
      simp only [hyy] at hx hset hBs ck ckd lL2 hu2
      obtain ⟨z, hz⟩ : ∃ z : UInt8, y ^^^ u = z := ⟨_, rfl⟩
      rw [hz] at hx hset hBs lL2 hu2
      clear hyy hz
      generalize L.set m z = L2 at *
      have hki1 : (k : Int) < (n2 : Int) := by omega
      have hki2 : (m : Int) < (N : Int) := by omega
      have hNz : ¬ (N : Int) = 0 := by omega
      have hNz2 : ¬ N = 0 := by omega
      go_upto_region 11 with fail
      rw [Hme.out]
      go_still_tail 14, (by kernel_rfl)
      change wpList _ _ _ _ _ wr.drew
      generalize wr.drew = wrd at *
      go_wp2_with fail
      obtain ⟨w5, hw5⟩ : ∃ w3, wrd.setCell ⟨gb, m, none⟩ (Value.int .u8 (z.toNat : Int)) = w3 := ⟨_, rfl⟩
      have hO5 : Own8 w.heap.size w5 (.slice (some ⟨gb, 0, none⟩) N ca) L2 := by rw [← hw5]; exact hset
      have hB5 : Below w.heap.size w w5 := by rw [← hw5]; exact hBs
      rw [hw5]
      clear hw5 hset hBs ck ckd hx fk fkd
      try go_wp2_with fail
      go_roundw
      case rel => exact ⟨k + 1, L2, by omega, by go_num, lL2, by omega, hO5, hB5⟩
      case measure => simp [intOf]; omega
    · have dk : decide ((k : Int) < (n2 : Int)) = false := decide_eq_false (by omega)
      have hs := hO.sl
      have hRw := fun W h => HR.out L (.slice Aa N ca) W lL (by omega) h
      have rw1 := run_str (P := Try.prog) hs 22 9 5 Try.underlying22 Try.underlying5 Try.underlying9
      have rw2 := fun W h => run_str (P := Try.prog) (w := W) (B := W.heap.size) (sv := .slice Aa N ca) (bs := L) h 22 9 5 Try.underlying22 Try.underlying5 Try.underlying9
      have hba := beq_dec L a
      generalize decide (L = a) = o at *
      have dk2 : decide (k < n2) = false := decide_eq_false (by omega)
      have dk3 : ¬ k < n2 := hlt
      clear HR Hcs hlt hO hk lL hu
      go_upto_region 12 with fail
      clear dk dk2 dk3
      have hs' : Sl eB wr.drew.heap.size wr.drew (.slice Aa N ca) L := hs
      have hRd := hRw wr.drew hs'
      have rw1d := rw2 wr.drew hs'
      have hBd : Below w.heap.size w wr.drew := below_trans hBr (below_drewA wr)
      have hB0 : Below w.heap.size w wr := hBr
      clear hRw
      cases o
      all_goals
        go_region_with (first
          | (go_at_call 18
             refine hRd.mono ?_
             rintro e w4 ⟨rfl, hB4⟩
             have rw4 := rw2 w4 (hs'.next hB4))
          | (go_at_call 8
             refine (wakes_any _).mono ?_
             rintro e wz ⟨rfl, hBz⟩))
      all_goals
        have hBe := below_trans (below_trans hBd hB4) hBz
        clear hB4 hBz hBd hB0 hBr hs hs' hRd rw1 rw2 rw4 rw1d
        go_wp2
        go_ret
        exact ⟨rfl, hBe⟩

theorem RsWrong_any (v0 v2 : Value) (xs : List UInt8) (n2 : Nat) (F G : Nat → Int) (p : Int) (w : World) (hX : Sl eB w.heap.size w v0 xs) (hY : Prs w.heap.size w v2 n2 F G) :
    Calls Try.prog 7 #[v0, .int .i64 p, v2] w fun e w' => e = .returned (.bool true) ∧ Below w.heap.size w w' := by
  by_cases hbig : 200 < xs.length ∨ p < 1 ∨ 32 < p ∨ p < n2
  · obtain ⟨A0, c0, rfl⟩ := hX.len
    obtain ⟨A2, c2, rfl, _⟩ := hY
    exact RsWrong_big A0 A2 _ c0 _ c2 p w hbig
  · obtain ⟨m, rfl⟩ : ∃ m : Nat, p = m := ⟨p.toNat, by omega⟩
    exact RsWrong_some v0 v2 xs m n2 F G w hX hY (by omega) (by omega) (by omega) (by omega)
end Go.Proofs.Ytkldapdebjlfmaa
