/- GapErrors. -/
import Derived.Test.YtmdpodgodhkjdaaDoorGpX
import Derived.Test.YtmdpodgodhkjdaaDoorCF
import Derived.Test.YtmdpodgodhkjdaaDoorSA
import Derived.Deep.CutRange
namespace Go.Proofs.YtmdpodgodhkjdaaDoor
open Go.RowKit Go.Shelf
attribute [local go_sem] Oper.semAt_some run_store_func

theorem beq_lett {c k : UInt8} (h : c ≠ k) : ((c.toNat : Int) == (k.toNat : Int)) = false := by
  rw [beq_eq_false_iff_ne]
  intro e
  exact h (UInt8.toNat_inj.1 (by omega))
theorem bad_fits (x : List UInt8) (p : Nat) (c : UInt8) (hp : p ≤ x.length) (hx : x.length ≤ 200) (hc : codeOf c.toNat = -1) : fitsG (insW x p c) = some 10 := by
  have hl := insW_length x p c hp
  unfold fitsG
  rw [if_neg (by omega), if_pos]
  have h : atB (insW x p c) p = c := ins_eq x c p hp
  refine List.mem_map.2 ⟨c, ?_, hc⟩
  rw [insW]
  simp
theorem long_fits (f : Nat → UInt8) : fitsG ((List.range 1000).map f) = some 2 := by
  unfold fitsG
  rw [if_pos (by simp)]
theorem nil_fits : fitsG [] = some 2 := by kernel_rfl
theorem risesG_err (y : List UInt8) (c : UInt8) (m : Int) (h : fitsG y = some m) : risesG y c = .error m := by rw [risesG, h]
theorem gapG_err (y : List UInt8) (t s m : Int) (h : fitsG y = some m) : gapG y t s = .error m := by rw [gapG, h]
theorem one_sl (w : World) (g : Nat) (c : UInt8) (h : w.cell? ⟨g, 0, none⟩ = some (eB c)) : Sl eB w.heap.size w (.slice (some ⟨g, 0, none⟩) 1 1) [c] :=
  ⟨_, 1, rfl, Nat.le_refl _, fun _ => ⟨g, 0, rfl, World.block_lt_of_cell? w _ h, fun j x hx => by
    rcases j with _ | j
    · simp at hx; subst hx; exact h
    · simp at hx⟩⟩
theorem at_isE (z : Int) (L : Nat) (hL : L ≤ 200) : ∃ k : Nat, k ≤ L ∧ (wrap64 (wrap64 (z.tmod ((L : Int) + 1) + (L : Int)) + 1)).tmod ((L : Int) + 1) = (k : Int) := by
  have h1 : z.tmod ((L : Int) + 1) < (L : Int) + 1 := Int.tmod_lt_of_pos z (by omega)
  have h2 : -((L : Int) + 1) < z.tmod ((L : Int) + 1) := by
    have := Int.lt_tmod_of_pos z (show (0 : Int) < (L : Int) + 1 by omega)
    omega
  generalize z.tmod ((L : Int) + 1) = r at *
  have e1 : wrap64 (r + (L : Int)) = r + L := wrap64_small _ (by omega) (by omega)
  rw [e1]
  have e2 : wrap64 (r + (L : Int) + 1) = r + L + 1 := wrap64_small _ (by omega) (by omega)
  rw [e2]
  have h3 : (r + L + 1).tmod ((L : Int) + 1) < (L : Int) + 1 := Int.tmod_lt_of_pos _ (by omega)
  have h4 : 0 ≤ (r + L + 1).tmod ((L : Int) + 1) := Int.tmod_nonneg _ (by omega)
  exact ⟨((r + L + 1).tmod ((L : Int) + 1)).toNat, by omega, by omega⟩
set_option maxRecDepth 100000 in
set_option maxHeartbeats 4000000 in
theorem GapErrors_main (v0 : Value) (l : List Int) (c : UInt8) (za : Int) (w : World) (hS : Sl eI w.heap.size w v0 l) (hT : Tab w) (h2 : l.length ≤ 200) (hc : codeOf c.toNat = -1) :
    Calls Tryd.prog 7 #[v0, eB c, .int .i64 za] w fun e w' => e = .returned (.bool true) ∧ Below w.heap.size w w' := by
  obtain ⟨i0, hi, hz0, hz1, hz2⟩ := info_parts info_u8
  have hw := gwakes_any
  have hrw := row_any v0 l (by omega) w hS
  have hr1 := fun v w => row_any v [1] (by simp) w
  obtain ⟨A0, c0, rfl⟩ := hS.len
  have hxl := textL_length l
  obtain ⟨p, hp, hat⟩ := at_isE za l.length h2
  have d2 : decide ((200 : Int) < (l.length : Int)) = false := decide_eq_false (by omega)
  obtain ⟨n65, n67, n71, n84⟩ := code_none hc
  have b65 : ((c.toNat : Int) == 65) = false := beq_lett n65
  have b67 : ((c.toNat : Int) == 67) = false := beq_lett n67
  have b71 : ((c.toNat : Int) == 71) = false := beq_lett n71
  have b84 : ((c.toNat : Int) == 84) = false := beq_lett n84
  clear n65 n67 n71 n84
  have n0 : ¬ (l.length : Int) + 1 = 0 := by omega
  generalize textL l = x at *
  rw [← hxl] at hat n0
  have hp : p ≤ x.length := by omega
  have hf0 := bad_fits x p c hp (by omega) hc
  have Hc := Lib.hid hc
  have Hp := Lib.hid hp
  have Hl := Lib.hid (show x.length ≤ 200 by omega)
  have Hxl := Lib.hid hxl
  have Hf0 := Lib.hid hf0
  have hwx := wrap64_succ x.length (by omega)
  clear hS hxl hf0 hc
  go_enter Tryd.func7, Tryd.ntmps7
  go_wp2_with fail
  go_at_call 21
  refine hrw.mono ?_
  rintro e w1 ⟨vx, rfl, hx, hB⟩
  have hT := hT.below hB
  have hlen : ∃ A cx, vx = .slice A x.length cx := by obtain ⟨A, cx, e⟩ := hx.sl.len; exact ⟨A, cx, e⟩
  obtain ⟨A, cx, rfl⟩ := hlen
  clear hrw d2
  go_wp2_with fail
  go_cut [8] from 57 to 68 (fun z wx => Sl eB wx.heap.size wx z (insW x p c) ∧ Below w1.heap.size w1 wx)
  case first =>
    clear hw hr1 hat n0 b65 b67 b71 b84 Hf0 Hc hwx
    have q1 : 0 + (x.take p).length ≤ maxLen := by have := Hl.out; unfold maxLen; simp; omega
    have q2 : (0 + (x.take p).length) * 1 ≤ 140737488355328 := by have := Hl.out; simp; omega
    have q3 : 0 + (x.take p).length + [c].length ≤ maxLen := by have := Hl.out; unfold maxLen; simp; omega
    have q4 : (0 + (x.take p).length + [c].length) * 1 ≤ 140737488355328 := by have := Hl.out; simp; omega
    have q5 : 0 + (x.take p).length + [c].length + (x.drop p).length ≤ maxLen := by have := Hl.out; unfold maxLen; simp; omega
    have q6 : (0 + (x.take p).length + [c].length + (x.drop p).length) * 1 ≤ 140737488355328 := by have := Hl.out; simp; omega
    have w1_ : Below w1.heap.size w1 (w1.alloc (.cells #[] 5)).drew := ((Below.refl _ _).alloc (Nat.le_refl _) _).drew
    have w2_ : Below w1.heap.size w1 ((w1.alloc (.cells #[] 5)).alloc (.cells #[eB c] 5)).drew := (((Below.refl _ _).alloc (Nat.le_refl _) _).alloc (by simp) _).drew
    have w3_ : Below w1.heap.size w1 ((w1.alloc (.cells #[eB c] 5)).alloc (.cells #[] 5)).drew := (((Below.refl _ _).alloc (Nat.le_refl _) _).alloc (by simp) _).drew
    have r1 : (w1.alloc (.cells #[] 5)).drew.ownsRow w1.heap.size 5 1 (.slice (some ⟨w1.heap.size, 0, none⟩) 0 0) 0 [] := row_made w1
    have r2 : ((w1.alloc (.cells #[] 5)).alloc (.cells #[eB c] 5)).drew.ownsRow w1.heap.size 5 1 (.slice (some ⟨w1.heap.size, 0, none⟩) 0 0) 0 [] := (row_made w1).alloc _
    have r3 : ((w1.alloc (.cells #[eB c] 5)).alloc (.cells #[] 5)).drew.ownsRow w1.heap.size 5 1 (.slice (some ⟨w1.heap.size + 1, 0, none⟩) 0 0) 0 [] := by
      have := World.ownsRow_made (base := w1.heap.size) (e := 5) (size := 1) (w1.alloc (.cells #[eB c] 5)) #[] 0 (by simp) (by unfold maxLen; omega) rfl
      rw [World.size_alloc] at this
      exact this
    have k2 : ((w1.alloc (.cells #[] 5)).alloc (.cells #[eB c] 5)).drew.cell? ⟨w1.heap.size + 1, 0, none⟩ = some (eB c) := by
      have := cell_one_new (w1.alloc (.cells #[] 5)) 5 (eB c) 0 (eB c) rfl
      rw [World.size_alloc] at this
      exact this
    have k3 : ((w1.alloc (.cells #[eB c] 5)).alloc (.cells #[] 5)).drew.cell? ⟨w1.heap.size, 0, none⟩ = some (eB c) := by
      have h0 := cell_one_new w1 5 (eB c) 0 (eB c) rfl
      have h1 : Below (w1.heap.size + 1) (w1.alloc (.cells #[eB c] 5)) ((w1.alloc (.cells #[eB c] 5)).alloc (.cells #[] 5)) := (Below.refl _ _).alloc (by simp) _
      exact (h1.cell (p := ⟨w1.heap.size, 0, none⟩) (by simp)).trans h0
    have n2 : some (w1.heap.size + 1) ≠ (Value.slice (some ⟨w1.heap.size, 0, none⟩) 0 0).ownBlock := by simp [Value.ownBlock]
    have n3 : some w1.heap.size ≠ (Value.slice (some ⟨w1.heap.size + 1, 0, none⟩) 0 0).ownBlock := by simp [Value.ownBlock]
    rcases hx.2 with ⟨e, h0⟩ | ⟨g, cap, cur, e, hbg, hg, hle, hcm, hcs, htk⟩
    · injection e with e1 e2 e3
      subst e1 e3
      have hx0 : x = [] := List.eq_nil_of_length_eq_zero h0
      obtain rfl : p = 0 := by have := Hp.out; omega
      have s1 : Sl eB w1.heap.size w1 (.slice none 0 0) (x.take 0) := sl_nil _ _
      have s2 : Sl eB w1.heap.size w1 (.slice none x.length 0) (x.drop 0) := by rw [hx0]; exact sl_nil _ _
      clear hx h0 hx0 e2
      go_region_law (first
        | (refine step_append_sl _ rfl (.tmp 57) (.tmp 60) _ rfl w1.heap.size 5 i0 (.int .u8 0) 1 Tryd.underlying22 hi hz0 hz1 hz2 rfl _ 0 [] r1 rfl w1.heap.size _ (x.take 0) (s1.below w1_) rfl (fun _ => rfl) q1 q2 w1_.size ?_
           intro v1 w3 hown1 hg1 hat1
           have hB2 : Below w1.heap.size w1 w3 := w1_.trans (below_grown r1 hg1 w1_.size (Nat.le_refl _))
           have hown2 := hown1.alloc (.cells #[eB c] 5)
           have hB3 : Below w1.heap.size w1 (w3.alloc (.cells #[eB c] 5)) := hB2.alloc hB2.size _
           have hc1 := Sl.new eB w3 [c] #[eB c] 5 (0, 0) 1 1 rfl (Nat.le_refl _) (by simp))
        | (refine step_append_sl _ rfl (.tmp 57) (.tmp 60) _ rfl w1.heap.size 5 i0 (.int .u8 0) 1 Tryd.underlying22 hi hz0 hz1 hz2 rfl _ 0 [] r3 rfl w1.heap.size _ (x.take 0) (s1.below w3_) rfl (fun _ => rfl) q1 q2 w3_.size ?_
           intro v1 w3 hown2 hg1 hat1
           have hB3 : Below w1.heap.size w1 w3 := w3_.trans (below_grown r3 hg1 w3_.size (Nat.le_refl _))
           have hc1 := one_sl w3 w1.heap.size c ((World.cell?_of_block (a := ⟨w1.heap.size, 0, none⟩) (hg1.block w1.heap.size (World.block_lt_of_cell? _ _ k3) n3)).trans k3))
        | (refine step_append_sl _ rfl (.tmp 61) (.tmp 63) _ rfl w1.heap.size 5 i0 (.int .u8 0) 1 Tryd.underlying22 hi hz0 hz1 hz2 rfl _ _ _ hown2 rfl _ _ [c] hc1 rfl (fun _ => rfl) q3 q4 hB3.size ?_
           intro v2 w4 hown4 hg4 hat4
           have hB4 : Below w1.heap.size w1 w4 := hB3.trans (below_grown hown2 hg4 hB3.size (Nat.le_refl _)))
        | (refine step_append_sl _ rfl (.tmp 64) (.tmp 67) _ rfl w1.heap.size 5 i0 (.int .u8 0) 1 Tryd.underlying22 hi hz0 hz1 hz2 rfl _ _ _ hown4 rfl w1.heap.size _ (x.drop 0) (s2.below hB4) rfl (fun _ => rfl) q5 q6 hB4.size ?_
           intro v5 w5 hown5 hg5 hat5
           have hB5 : Below w1.heap.size w1 w5 := hB4.trans (below_grown hown4 hg5 hB4.size (Nat.le_refl _)))
        | (refine step_append_sl _ rfl (.tmp 57) (.tmp 60) _ rfl w1.heap.size 5 i0 (.int .u8 0) 1 Tryd.underlying22 hi hz0 hz1 hz2 rfl _ 0 [] r2 rfl w1.heap.size _ (x.take 0) (s1.below w2_) rfl (fun _ => rfl) q1 q2 w2_.size ?_
           intro v1 w3 hown2 hg1 hat1
           have hB3 : Below w1.heap.size w1 w3 := w2_.trans (below_grown r2 hg1 w2_.size (Nat.le_refl _))
           have hc1 := one_sl w3 (w1.heap.size + 1) c ((World.cell?_of_block (a := ⟨w1.heap.size + 1, 0, none⟩) (hg1.block (w1.heap.size + 1) (World.block_lt_of_cell? _ _ k2) n2)).trans k2)))
      all_goals
        go_wp2_with fail
        go_meet
        exact ⟨Sl.of_own (n := 0 + (x.take 0).length + [c].length + (x.drop 0).length) (by simpa [insW] using hown5), hB5⟩
    · have hsl := hx.sl
      injection e with e1 e2 e3
      subst e1 e3
      have s1 := hsl.upto (p := p) Hp.out
      have s2 := from_ex (p := p) hsl Hp.out
      have l1 : (p : Int) ≤ cx := by have := Hp.out; omega
      have l2 : (p : Int) ≤ x.length := by have := Hp.out; omega
      clear hx hsl hg hcs htk hbg hcm
      by_cases hcp : cx = p
      · subst hcp
        have s2 := s2.1 rfl
        rw [show x.length - cx = 0 by omega] at s2
        go_region_law (first
          | (refine step_append_sl _ rfl (.tmp 57) (.tmp 60) _ rfl w1.heap.size 5 i0 (.int .u8 0) 1 Tryd.underlying22 hi hz0 hz1 hz2 rfl _ 0 [] r1 rfl w1.heap.size _ (x.take cx) (s1.below w1_) rfl (fun _ => rfl) q1 q2 w1_.size ?_
             intro v1 w3 hown1 hg1 hat1
             have hB2 : Below w1.heap.size w1 w3 := w1_.trans (below_grown r1 hg1 w1_.size (Nat.le_refl _))
             have hown2 := hown1.alloc (.cells #[eB c] 5)
             have hB3 : Below w1.heap.size w1 (w3.alloc (.cells #[eB c] 5)) := hB2.alloc hB2.size _
             have hc1 := Sl.new eB w3 [c] #[eB c] 5 (0, 0) 1 1 rfl (Nat.le_refl _) (by simp))
          | (refine step_append_sl _ rfl (.tmp 57) (.tmp 60) _ rfl w1.heap.size 5 i0 (.int .u8 0) 1 Tryd.underlying22 hi hz0 hz1 hz2 rfl _ 0 [] r3 rfl w1.heap.size _ (x.take cx) (s1.below w3_) rfl (fun _ => rfl) q1 q2 w3_.size ?_
             intro v1 w3 hown2 hg1 hat1
             have hB3 : Below w1.heap.size w1 w3 := w3_.trans (below_grown r3 hg1 w3_.size (Nat.le_refl _))
             have hc1 := one_sl w3 w1.heap.size c ((World.cell?_of_block (a := ⟨w1.heap.size, 0, none⟩) (hg1.block w1.heap.size (World.block_lt_of_cell? _ _ k3) n3)).trans k3))
          | (refine step_append_sl _ rfl (.tmp 61) (.tmp 63) _ rfl w1.heap.size 5 i0 (.int .u8 0) 1 Tryd.underlying22 hi hz0 hz1 hz2 rfl _ _ _ hown2 rfl _ _ [c] hc1 rfl (fun _ => rfl) q3 q4 hB3.size ?_
             intro v2 w4 hown4 hg4 hat4
             have hB4 : Below w1.heap.size w1 w4 := hB3.trans (below_grown hown2 hg4 hB3.size (Nat.le_refl _)))
          | (refine step_append_sl _ rfl (.tmp 64) (.tmp 67) _ rfl w1.heap.size 5 i0 (.int .u8 0) 1 Tryd.underlying22 hi hz0 hz1 hz2 rfl _ _ _ hown4 rfl w1.heap.size _ (x.drop cx) (s2.below hB4) rfl (fun _ => rfl) q5 q6 hB4.size ?_
             intro v5 w5 hown5 hg5 hat5
             have hB5 : Below w1.heap.size w1 w5 := hB4.trans (below_grown hown4 hg5 hB4.size (Nat.le_refl _)))
          | (refine step_append_sl _ rfl (.tmp 57) (.tmp 60) _ rfl w1.heap.size 5 i0 (.int .u8 0) 1 Tryd.underlying22 hi hz0 hz1 hz2 rfl _ 0 [] r2 rfl w1.heap.size _ (x.take cx) (s1.below w2_) rfl (fun _ => rfl) q1 q2 w2_.size ?_
             intro v1 w3 hown2 hg1 hat1
             have hB3 : Below w1.heap.size w1 w3 := w2_.trans (below_grown r2 hg1 w2_.size (Nat.le_refl _))
             have hc1 := one_sl w3 (w1.heap.size + 1) c ((World.cell?_of_block (a := ⟨w1.heap.size + 1, 0, none⟩) (hg1.block (w1.heap.size + 1) (World.block_lt_of_cell? _ _ k2) n2)).trans k2)))
        all_goals
          go_wp2_with fail
          go_meet
          exact ⟨Sl.of_own (n := 0 + (x.take cx).length + [c].length + (x.drop cx).length) (by simpa [insW] using hown5), hB5⟩
      · have s2 := s2.2 hcp
        rw [Nat.zero_add] at s2
        go_region_law (first
          | (refine step_append_sl _ rfl (.tmp 57) (.tmp 60) _ rfl w1.heap.size 5 i0 (.int .u8 0) 1 Tryd.underlying22 hi hz0 hz1 hz2 rfl _ 0 [] r1 rfl w1.heap.size _ (x.take p) (s1.below w1_) rfl (fun _ => rfl) q1 q2 w1_.size ?_
             intro v1 w3 hown1 hg1 hat1
             have hB2 : Below w1.heap.size w1 w3 := w1_.trans (below_grown r1 hg1 w1_.size (Nat.le_refl _))
             have hown2 := hown1.alloc (.cells #[eB c] 5)
             have hB3 : Below w1.heap.size w1 (w3.alloc (.cells #[eB c] 5)) := hB2.alloc hB2.size _
             have hc1 := Sl.new eB w3 [c] #[eB c] 5 (0, 0) 1 1 rfl (Nat.le_refl _) (by simp))
          | (refine step_append_sl _ rfl (.tmp 57) (.tmp 60) _ rfl w1.heap.size 5 i0 (.int .u8 0) 1 Tryd.underlying22 hi hz0 hz1 hz2 rfl _ 0 [] r3 rfl w1.heap.size _ (x.take p) (s1.below w3_) rfl (fun _ => rfl) q1 q2 w3_.size ?_
             intro v1 w3 hown2 hg1 hat1
             have hB3 : Below w1.heap.size w1 w3 := w3_.trans (below_grown r3 hg1 w3_.size (Nat.le_refl _))
             have hc1 := one_sl w3 w1.heap.size c ((World.cell?_of_block (a := ⟨w1.heap.size, 0, none⟩) (hg1.block w1.heap.size (World.block_lt_of_cell? _ _ k3) n3)).trans k3))
          | (refine step_append_sl _ rfl (.tmp 61) (.tmp 63) _ rfl w1.heap.size 5 i0 (.int .u8 0) 1 Tryd.underlying22 hi hz0 hz1 hz2 rfl _ _ _ hown2 rfl _ _ [c] hc1 rfl (fun _ => rfl) q3 q4 hB3.size ?_
             intro v2 w4 hown4 hg4 hat4
             have hB4 : Below w1.heap.size w1 w4 := hB3.trans (below_grown hown2 hg4 hB3.size (Nat.le_refl _)))
          | (refine step_append_sl _ rfl (.tmp 64) (.tmp 67) _ rfl w1.heap.size 5 i0 (.int .u8 0) 1 Tryd.underlying22 hi hz0 hz1 hz2 rfl _ _ _ hown4 rfl w1.heap.size _ (x.drop p) (s2.below hB4) rfl (fun _ => rfl) q5 q6 hB4.size ?_
             intro v5 w5 hown5 hg5 hat5
             have hB5 : Below w1.heap.size w1 w5 := hB4.trans (below_grown hown4 hg5 hB4.size (Nat.le_refl _)))
          | (refine step_append_sl _ rfl (.tmp 57) (.tmp 60) _ rfl w1.heap.size 5 i0 (.int .u8 0) 1 Tryd.underlying22 hi hz0 hz1 hz2 rfl _ 0 [] r2 rfl w1.heap.size _ (x.take p) (s1.below w2_) rfl (fun _ => rfl) q1 q2 w2_.size ?_
             intro v1 w3 hown2 hg1 hat1
             have hB3 : Below w1.heap.size w1 w3 := w2_.trans (below_grown r2 hg1 w2_.size (Nat.le_refl _))
             have hc1 := one_sl w3 (w1.heap.size + 1) c ((World.cell?_of_block (a := ⟨w1.heap.size + 1, 0, none⟩) (hg1.block (w1.heap.size + 1) (World.block_lt_of_cell? _ _ k2) n2)).trans k2)))
        all_goals
          go_wp2_with fail
          go_meet
          exact ⟨Sl.of_own (n := 0 + (x.take p).length + [c].length + (x.drop p).length) (by simpa [insW] using hown5), hB5⟩
  case rest =>
    obtain ⟨hz, hC⟩ := hcut
    obtain ⟨Az, cz, rfl⟩ := hz.len
    have hT := hT.below hC
    have hB := below_trans hB hC
    have hzl := insW_length x p c Hp.out
    have m0 := fun v w => Missing_not (insW x p c) 1 10 Hf0.out (by have := Hl.out; omega) v w
    have r0 := fun v w => GRises_no (insW x p c) 65 10 (risesG_err _ _ _ Hf0.out) (by have := Hl.out; omega) v w
    have g0 := fun v w => Gap_no (insW x p c) 1 1 10 (gapG_err _ _ _ _ Hf0.out) (insOk_all _ _ _) (by have := Hl.out; omega) v w
    have m1 := fun v w => Missing_not ((List.range 1000).map fun _ => (65 : UInt8)) 1 2 (long_fits _) (by simp) v w
    have r1 := fun v w => GRises_no ((List.range 1000).map fun _ => (65 : UInt8)) 65 2 (risesG_err _ _ _ (long_fits _)) (by simp) v w
    have g1 := fun v w => Gap_no ((List.range 1000).map fun _ => (65 : UInt8)) 1 1 2 (gapG_err _ _ _ _ (long_fits _)) (insOk_all _ _ _) (by simp) v w
    have m2 := fun v w => Missing_not [] 1 2 nil_fits (by simp) v w
    have r2 := fun v w => GRises_no [] 65 2 (risesG_err _ _ _ nil_fits) (by simp) v w
    have g2 := fun v w => Gap_no [] 1 1 2 (gapG_err _ _ _ _ nil_fits) (insOk_all _ _ _) (by simp) v w
    have hrl := fun v w => GRises_no (textL [1]) c 10 (by rw [risesG, fits_four _ (by simp [textL]) (by simp [textL]) (textL_four _)]; simp only [if_pos Hc.out]) (by simp [textL]) v w
    have hmk := make_run 1000 (by omega) 1000 rfl
    clear hC hx hp hat n0 hwx hzl
    generalize insW x p c = z at *
    go_wp2_with fail
    generalize hL : ((List.range 1000).map fun _ => (65 : UInt8)) = LL at *
    have HL := Lib.hid hL
    clear hL
    go_loopw [10] (fun i wr => ∃ k : Nat, k ≤ 1000 ∧ i = .int .i64 k ∧ Rowed wr wc.heap.size 5 (cellsF (fun j => if j < k then 65 else 0) 1000) ∧ Below wc.heap.size wc wr) (fun i _ => 1000 - (intOf i).toNat)
    case atStart => exact ⟨0, Nat.zero_le _, rfl, by simpa using Rowed.new wc 5 (cellsF (fun _ => 0) 1000), below_alloc wc _⟩
    case round =>
      obtain ⟨k, hk, rfl, hr, hBr⟩ := hrel
      by_cases hlt : k < 1000
      · have hkc : wr.cell? ⟨wc.heap.size, k, none⟩ = some (eB (if k < k then 65 else 0)) := (hr.cell k).trans (cellsF_get _ 1000 k hlt)
        have hkf := hr.frozen k
        have hr2 := hr.set k (eB 65)
        rw [cellsF_set] at hr2
        have ef : (fun j => if j = k then (65 : UInt8) else if j < k then 65 else 0) = fun j => if j < k + 1 then 65 else 0 := by
          funext j
          by_cases h1 : j = k
          · rw [if_pos h1, if_pos (by omega)]
          · rw [if_neg h1]
            by_cases h2 : j < k
            · rw [if_pos h2, if_pos (by omega)]
            · rw [if_neg h2, if_neg (by omega)]
        rw [ef] at hr2
        have hB2 : Below wc.heap.size wc (wr.setCell ⟨wc.heap.size, k, none⟩ (eB 65)) := hBr.setCell (p := ⟨wc.heap.size, k, none⟩) (Nat.le_refl _) _
        have hki : (k : Int) < 1000 := by omega
        have Hr := Lib.hid hr2
        clear hr2 ef hr
        go_wp2_with fail
        go_roundw
        case rel => exact ⟨k + 1, by omega, by go_num, Hr.out, hB2⟩
        case measure => simp [intOf]; omega
      · have hk1 : k = 1000 := by omega
        rw [hk1] at hr
        have hkd : decide ((k : Int) < 1000) = false := decide_eq_false (by omega)
        clear hk hlt hk1
        generalize (k : Int) = q at hkd ⊢
        have hlong := sl_cellsF hr wr.heap.size hr.lt
        have el : (List.range 1000).map (fun j => if j < 1000 then (65 : UInt8) else 0) = LL := by
          rw [← HL.out]
          exact List.map_congr_left fun j hj => by rw [if_pos (by simpa using hj)]
        rw [el] at hlong
        have hz := hz.next hBr
        have hT := hT.below hBr
        have hB := below_trans hB hBr
        have hnil := sl_nil wr.heap.size wr
        clear el hr hBr
        generalize wr = wc2 at *
        have hr3 := Rowed.new wc2 22 #[.slice Az z.length cz, .slice (some ⟨wc.heap.size, 0, none⟩) 1000 1000, .slice none 0 0]
        have hAl := below_alloc wc2 (.cells #[.slice Az z.length cz, .slice (some ⟨wc.heap.size, 0, none⟩) 1000 1000, .slice none 0 0] 22)
        have hz := hz.next hAl
        have hlong := hlong.next hAl
        have hnil := hnil.next hAl
        have hTw := hT.below hAl
        have hB := below_trans hB hAl
        clear hAl hT
        go_wp2_with fail
        have hg3 : wc2.heap.size < (wc2.alloc (.cells #[.slice Az z.length cz, .slice (some ⟨wc.heap.size, 0, none⟩) 1000 1000, .slice none 0 0] 22)).heap.size := hr3.lt
        generalize hwd : wc2.alloc (.cells #[.slice Az z.length cz, .slice (some ⟨wc.heap.size, 0, none⟩) 1000 1000, .slice none 0 0] 22) = wd at *
        clear hwd
        go_loopw [83] (fun i wr => ∃ k : Nat, k ≤ 3 ∧ i = .int .i64 k ∧ Below wd.heap.size wd wr) (fun i _ => 3 - (intOf i).toNat)
        case atStart => exact ⟨0, Nat.zero_le _, rfl, Below.refl _ _⟩
        case round =>
          obtain ⟨k, hk, rfl, hBr⟩ := hrel
          obtain rfl | rfl | rfl | rfl : k = 0 ∨ k = 1 ∨ k = 2 ∨ k = 3 := by omega
          · have hkc := (hBr.cell (p := ⟨wc2.heap.size, 0, none⟩) hg3).trans (hr3.cell 0)
            have hS0 := hz.next hBr
            have hT0 := hTw.below hBr
            clear hr3 hg3
            go_wp2_with fail
            go_at_call 14
            refine (m0 _ _ hT0 hS0).mono ?_
            rintro e w5 ⟨rfl, hC⟩
            have hS0 := hS0.next hC
            have hT0 := hT0.below hC
            have hBr := below_trans hBr hC
            clear hC
            go_wp2_with fail
            go_at_call 16
            refine (r0 _ _ hT0 hS0).mono ?_
            rintro e w6 ⟨rfl, hC⟩
            have hS0 := hS0.next hC
            have hT0 := hT0.below hC
            have hBr := below_trans hBr hC
            clear hC
            go_wp2_with fail
            go_at_call 18
            refine (g0 _ _ hT0 hS0).mono ?_
            rintro e w7 ⟨rfl, hC⟩
            have hBr := below_trans hBr hC
            clear hC hS0 hT0
            go_wp2_with fail
            go_roundw
            case rel => exact ⟨1, by omega, by go_num, hBr⟩
            case measure => simp [intOf]
          · have hkc := (hBr.cell (p := ⟨wc2.heap.size, 1, none⟩) hg3).trans (hr3.cell 1)
            have hS0 := hlong.next hBr
            have hT0 := hTw.below hBr
            clear hr3 hg3
            go_wp2_with fail
            go_at_call 14
            refine (m1 _ _ hT0 hS0).mono ?_
            rintro e w5 ⟨rfl, hC⟩
            have hS0 := hS0.next hC
            have hT0 := hT0.below hC
            have hBr := below_trans hBr hC
            clear hC
            go_wp2_with fail
            go_at_call 16
            refine (r1 _ _ hT0 hS0).mono ?_
            rintro e w6 ⟨rfl, hC⟩
            have hS0 := hS0.next hC
            have hT0 := hT0.below hC
            have hBr := below_trans hBr hC
            clear hC
            go_wp2_with fail
            go_at_call 18
            refine (g1 _ _ hT0 hS0).mono ?_
            rintro e w7 ⟨rfl, hC⟩
            have hBr := below_trans hBr hC
            clear hC hS0 hT0
            go_wp2_with fail
            go_roundw
            case rel => exact ⟨2, by omega, by go_num, hBr⟩
            case measure => simp [intOf]
          · have hkc := (hBr.cell (p := ⟨wc2.heap.size, 2, none⟩) hg3).trans (hr3.cell 2)
            have hS0 := hnil.next hBr
            have hT0 := hTw.below hBr
            clear hr3 hg3
            go_wp2_with fail
            go_at_call 14
            refine (m2 _ _ hT0 hS0).mono ?_
            rintro e w5 ⟨rfl, hC⟩
            have hS0 := hS0.next hC
            have hT0 := hT0.below hC
            have hBr := below_trans hBr hC
            clear hC
            go_wp2_with fail
            go_at_call 16
            refine (r2 _ _ hT0 hS0).mono ?_
            rintro e w6 ⟨rfl, hC⟩
            have hS0 := hS0.next hC
            have hT0 := hT0.below hC
            have hBr := below_trans hBr hC
            clear hC
            go_wp2_with fail
            go_at_call 18
            refine (g2 _ _ hT0 hS0).mono ?_
            rintro e w7 ⟨rfl, hC⟩
            have hBr := below_trans hBr hC
            clear hC hS0 hT0
            go_wp2_with fail
            go_roundw
            case rel => exact ⟨3, by omega, by go_num, hBr⟩
            case measure => simp [intOf]
          · have hB := below_trans hB hBr
            have hT := hTw.below hBr
            have hA9 := below_alloc wr (.cells #[.int .i64 1] 3)
            have hs9 : Sl eI (wr.alloc (.cells #[.int .i64 1] 3)).heap.size (wr.alloc (.cells #[.int .i64 1] 3)) (.slice (some ⟨wr.heap.size, 0, none⟩) 1 1) [1] := Sl.new eI wr [1] #[eI 1] 3 (0, 0) 1 1 rfl (Nat.le_refl _) rfl
            clear hBr hr3 hg3 m0 m1 m2 r0 r1 r2 g0 g1 g2 hz hlong hnil hTw
            go_wp2_with fail
            go_at_call 21
            refine (hr1 _ _ hs9).mono ?_
            rintro e w8 ⟨v8, rfl, hv8, hC⟩
            have hv8 := hv8.sl
            have hC := below_trans hA9 hC
            have hT := hT.below hC
            have hB := below_trans hB hC
            obtain ⟨A8, k8, rfl⟩ := hv8.len
            clear hC hA9 hs9 hr1
            go_wp2_with fail
            go_at_call 16
            refine (hrl _ _ hT hv8).mono ?_
            rintro e w9 ⟨rfl, hC⟩
            have hT := hT.below hC
            have hB := below_trans hB hC
            clear hC hrl hv8
            go_wp2_with fail
            go_at_call 13
            refine (hw _ hT).mono ?_
            rintro e w10 ⟨rfl, hC⟩
            go_wp2_with fail
            go_ret
            exact ⟨rfl, below_trans hB hC⟩
set_option maxRecDepth 100000 in
set_option maxHeartbeats 1000000 in
theorem GapErrors_any (v0 : Value) (l : List Int) (c : UInt8) (za : Int) (w : World) (hS : Sl eI w.heap.size w v0 l) (hT : Tab w) :
    Calls Tryd.prog 7 #[v0, eB c, .int .i64 za] w fun e w' => e = .returned (.bool true) ∧ Below w.heap.size w w' := by
  have hw := gwakes_any
  by_cases h2 : 200 < l.length
  · have d2 : decide ((200 : Int) < (l.length : Int)) = true := decide_eq_true (by omega)
    obtain ⟨A0, c0, rfl⟩ := hS.len
    clear h2 hS
    go_enter Tryd.func7, Tryd.ntmps7
    go_wp2_with fail
    go_at_call 13
    refine (hw _ hT).mono ?_
    rintro e w' ⟨rfl, hB⟩
    go_wp2_with fail
    go_ret
    exact ⟨rfl, hB⟩
  · by_cases hc : codeOf c.toNat = -1
    · exact GapErrors_main v0 l c za w hS hT (by omega) hc
    · have d2 : decide ((200 : Int) < (l.length : Int)) = false := decide_eq_false (by omega)
      obtain ⟨A0, c0, rfl⟩ := hS.len
      clear h2 hS
      rcases code_four hc with rfl | rfl | rfl | rfl
      all_goals
        clear hc
        go_enter Tryd.func7, Tryd.ntmps7
        go_wp2_with fail
        go_at_call 13
        refine (hw _ hT).mono ?_
        rintro e w' ⟨rfl, hB⟩
        go_wp2_with fail
        go_ret
        exact ⟨rfl, hB⟩
end Go.Proofs.YtmdpodgodhkjdaaDoor
