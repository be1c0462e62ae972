import Derived.Deep.RegionLaw
import Derived.BigQuiet
import Derived.Test.YtkibigbcdlilkaaGreatDoorExMY
import Derived.Test.YtkibigbcdlilkaaGreatDoorSxEY
namespace Go.Proofs.YtkibigbcdlilkaaGreatDoor
open Go.RowKit Go.Shelf
attribute [local go_sem] Oper.semAt_some run_store_func
theorem one_sl (w : World) (g : Nat) (c : UInt8) (h : w.cell? ⟨g, 0, none⟩ = some (eB c)) : Sl eB w.heap.size w (.slice (some ⟨g, 0, none⟩) 1 1) [c] :=
 ⟨_, 1, rfl, Nat.le_refl _, fun _ => ⟨g, 0, rfl, World.block_lt_of_cell? w _ h, fun j x hx => by
  rcases j with _ | j
  · simp at hx; subst hx; exact h
  · simp at hx⟩⟩
theorem from_ex {B : Nat} {W : World} {bk off c p : Nat} {s : List UInt8} (h : Sl eB B W (.slice (some ⟨bk, off, none⟩) s.length c) s) (hp : p ≤ s.length) :
    (c = p → Sl eB B W (.slice (some ⟨bk, off, none⟩) (s.length - p) 0) (s.drop p)) ∧ (¬ c = p → Sl eB B W (.slice (some ⟨bk, off + p, none⟩) (s.length - p) (c - p)) (s.drop p)) := by
  refine ⟨fun e => ?_, fun e => h.from_ hp _ (fun _ => by simp [Addr.add])⟩
  have := h.from_ hp (some ⟨bk, off, none⟩) (fun hne => absurd e hne)
  rwa [e, Nat.sub_self] at this
set_option maxRecDepth 100000 in
set_option maxHeartbeats 4000000 in
theorem Apply_gap (sv : Value) (s : List UInt8) (z : Int) (b : UInt8) (p : Nat) (h0 : 0 < s.length) (hl : s.length ≤ 1000) (hp : p < s.length) (hat : (wrap64 (z.tmod (s.length : Int) + (s.length : Int))).tmod (s.length : Int) = (p : Int)) (w : World) (hS : Sl eB w.heap.size w sv s) :
    Calls Tryz.prog 18 #[sv, eD 1 z b] w fun e w' => ∃ v, e = .returned v ∧ Sl eB w'.heap.size w' v (delW s p) ∧ Below w.heap.size w w' := by
  obtain ⟨i0, hi, hz0, hz1, hz2⟩ := info_parts info_u8
  have hpl := fun (w : World) => place_any z s.length p h0 hat w
  obtain ⟨A, c, rfl⟩ := hS.len
  have hcl : (eD 1 z b).cells = cD 1 z b := rfl
  have hr := Rowed.new w 28 (cD 1 z b)
  have hA := below_alloc w (.cells (cD 1 z b) 28)
  have hS0 := hS.below hA
  have hlt := hr.lt
  have hne0 : ((s.length : Int) == 0) = false := by rw [beq_eq_false_iff_ne]; omega
  have Hp := Lib.hid hp
  have Hl := Lib.hid hl
  have H0 := Lib.hid h0
  obtain ⟨bk, off, rfl, hcap⟩ : ∃ bk off, A = some ⟨bk, off, none⟩ ∧ s.length ≤ c := by
   obtain ⟨A', c', e, hc, hcs⟩ := hS
   injection e with e1 e2 e3
   subst e1 e3
   obtain ⟨bk, off, e4, _⟩ := hcs h0
   exact ⟨bk, off, e4, hc⟩
  clear hat hp hl h0
  go_enter Tryz.func18, Tryz.ntmps18
  go_upto_region 1 with fail
  generalize w.alloc (.cells (cD 1 z b) 28) = w0 at *
  have hrow := row_made w0
  have hA1 := hA.alloc hA.size (.cells #[] 5)
  have hS1 : Sl eB w.heap.size (w0.alloc (.cells #[] 5)) (.slice (some ⟨bk, off, none⟩) s.length c) s := hS0.below ((Below.refl _ w0).alloc hA.size _)
  have hr1 := hr.alloc (.cells #[] 5)
  have hlt1 := hr1.lt
  go_wp2_with (first
   | (at_builtin
      refine wpList_append_sl _ rfl (.tmp 8) (.tmp 9) _ rfl w0.heap.size 5 i0 (.int .u8 0) 1 Tryz.underlying22 hi hz0 hz1 hz2 rfl _ 0 [] hrow rfl w.heap.size _ s hS1 rfl (fun _ => rfl) (by have := Hl.out; unfold maxLen; omega) (by have := Hl.out; omega) (by simp) ?_
      intro v1 w1 hown1 hg1 hat1
      have hr2 : Rowed w1 w.heap.size 28 (cD 1 z b) := (hg1.block _ hlt1 (by simp [Value.ownBlock]; omega)).trans hr1
      have k0 := hr2.cell 0
      have k1 := hr2.cell 1)
   | (go_at_call 34; refine (hpl _).mono ?_; rintro e w' ⟨rfl, rfl⟩))
  have hB1 := hA1.trans (below_grown hrow hg1 hA1.size (by have := hA.size; omega))
  have hSw := hS.below hB1
  have hsz1 := hB1.size
  clear hown1 hg1 hat1 hrow hS1 hr1 hlt1 hS0 k0 k1 hr2 hA1 hpl hne0
  have hrow := row_made w1
  have hBr : Below w1.heap.size w1 (w1.alloc (.cells #[] 5)) := below_alloc w1 _
  have hrow' : (w1.alloc (.cells #[] 5)).drew.ownsRow w1.heap.size 5 1 (.slice (some ⟨w1.heap.size, 0, none⟩) 0 0) 0 [] := hrow
  have hBr' : Below w1.heap.size w1 (w1.alloc (.cells #[] 5)).drew := hBr.drew
  have q1 : 0 + (s.take p).length ≤ maxLen := by have := Hl.out; unfold maxLen; simp; omega
  have q2 : (0 + (s.take p).length) * 1 ≤ 140737488355328 := by have := Hl.out; simp; omega
  have q3 : 0 + (s.take p).length + (s.drop (p + 1)).length ≤ maxLen := by have := Hl.out; unfold maxLen; simp; omega
  have q4 : (0 + (s.take p).length + (s.drop (p + 1)).length) * 1 ≤ 140737488355328 := by have := Hl.out; simp; omega
  have q5 : w1.heap.size ≤ (w1.alloc (.cells #[] 5)).drew.heap.size := hBr'.size
  have s1 := (hSw.more hsz1).upto (p := p) (by have := Hp.out; omega)
  have s2 := from_ex (p := p + 1) (hSw.more hsz1) (by have := Hp.out; omega)
  have e1 : IntKind.i64.wrap ((p : Int) + 1) = ((p + 1 : Nat) : Int) := by have := Hp.out; have := Hl.out; rw [IntWalk.i64_in _ (by omega)]; omega
  have l0 : (0 : Int) ≤ (p : Int) + 1 := by omega
  have l1 : (p : Int) ≤ s.length := by have := Hp.out; omega
  have l2 : (p : Int) + 1 ≤ s.length := by have := Hp.out; omega
  have l3 : ((p + 1 : Nat) : Int) ≤ s.length := by have := Hp.out; omega
  have l4 : (p : Int) ≤ c := by have := Hp.out; omega
  have l5 : (p : Int) ≤ (p : Int) + 1 := by omega
  clear hSw hS
  by_cases hcp : c = p + 1
  · subst hcp
    have s2 := s2.1 rfl
    rw [show s.length - (p + 1) = 0 by omega] at s2
    go_region_law (first
     | (refine step_append_sl _ rfl (.tmp 47) (.tmp 50) _ rfl w1.heap.size 5 i0 (.int .u8 0) 1 Tryz.underlying22 hi hz0 hz1 hz2 rfl _ 0 [] hrow' rfl w1.heap.size _ (s.take p) (s1.below hBr') rfl (fun _ => rfl) q1 q2 q5 ?_
        intro v1 w3 hown1 hg1 hat1
        have hB2 : Below w1.heap.size w1 w3 := hBr'.trans (below_grown hrow' hg1 q5 (Nat.le_refl _)))
     | (refine step_append_sl _ rfl (.tmp 51) (.tmp 55) _ rfl w1.heap.size 5 i0 (.int .u8 0) 1 Tryz.underlying22 hi hz0 hz1 hz2 rfl _ _ _ hown1 rfl w1.heap.size _ (s.drop (p + 1)) (s2.below hB2) rfl (fun _ => rfl) q3 q4 hB2.size ?_
        intro v2 w4 hown2 hg2 hat2))
    all_goals
     go_wp2_with fail
     go_ret
     exact ⟨v2, rfl, Sl.of_own (n := 0 + (s.take p).length + (s.drop (p + 1)).length) (by simpa [delW] using hown2), hB1.trans ((hB2.trans (below_grown hown1 hg2 hB2.size (Nat.le_refl _))).mono hsz1)⟩
  · have s2 := s2.2 hcp
    go_region_law (first
     | (refine step_append_sl _ rfl (.tmp 47) (.tmp 50) _ rfl w1.heap.size 5 i0 (.int .u8 0) 1 Tryz.underlying22 hi hz0 hz1 hz2 rfl _ 0 [] hrow' rfl w1.heap.size _ (s.take p) (s1.below hBr') rfl (fun _ => rfl) q1 q2 q5 ?_
        intro v1 w3 hown1 hg1 hat1
        have hB2 : Below w1.heap.size w1 w3 := hBr'.trans (below_grown hrow' hg1 q5 (Nat.le_refl _)))
     | (refine step_append_sl _ rfl (.tmp 51) (.tmp 55) _ rfl w1.heap.size 5 i0 (.int .u8 0) 1 Tryz.underlying22 hi hz0 hz1 hz2 rfl _ _ _ hown1 rfl w1.heap.size _ (s.drop (p + 1)) (s2.below hB2) rfl (fun _ => rfl) q3 q4 hB2.size ?_
        intro v2 w4 hown2 hg2 hat2))
    all_goals
     go_wp2_with fail
     go_ret
     exact ⟨v2, rfl, Sl.of_own (n := 0 + (s.take p).length + (s.drop (p + 1)).length) (by simpa [delW] using hown2), hB1.trans ((hB2.trans (below_grown hown1 hg2 hB2.size (Nat.le_refl _))).mono hsz1)⟩
set_option maxRecDepth 100000 in
set_option maxHeartbeats 4000000 in
theorem Apply_more (sv : Value) (s : List UInt8) (z : Int) (b : UInt8) (p : Nat) (h0 : 0 < s.length) (hl : s.length ≤ 1000) (hp : p ≤ s.length) (hat : (wrap64 (z.tmod ((s.length + 1 : Nat) : Int) + ((s.length + 1 : Nat) : Int))).tmod ((s.length + 1 : Nat) : Int) = (p : Int)) (w : World) (hS : Sl eB w.heap.size w sv s) :
    Calls Tryz.prog 18 #[sv, eD 2 z b] w fun e w' => ∃ v, e = .returned v ∧ Sl eB w'.heap.size w' v (insW s p b) ∧ Below w.heap.size w w' := by
  obtain ⟨i0, hi, hz0, hz1, hz2⟩ := info_parts info_u8
  have hpl : ∀ w, Calls Tryz.prog 34 #[.int .i64 z, .int .i64 ((s.length : Int) + 1)] w fun e w' => e = .returned (.int .i64 p) ∧ w = w' := fun w => place_any z (s.length + 1) p (by omega) hat w
  obtain ⟨A, c, rfl⟩ := hS.len
  have hcl : (eD 2 z b).cells = cD 2 z b := rfl
  have hr := Rowed.new w 28 (cD 2 z b)
  have hA := below_alloc w (.cells (cD 2 z b) 28)
  have hS0 := hS.below hA
  have hlt := hr.lt
  have hL1 : IntKind.i64.wrap ((s.length : Int) + 1) = (s.length : Int) + 1 := IntWalk.i64_in _ (by omega)
  have Hp := Lib.hid hp
  have Hl := Lib.hid hl
  have H0 := Lib.hid h0
  obtain ⟨bk, off, rfl, hcap⟩ : ∃ bk off, A = some ⟨bk, off, none⟩ ∧ s.length ≤ c := by
   obtain ⟨A', c', e, hc, hcs⟩ := hS
   injection e with e1 e2 e3
   subst e1 e3
   obtain ⟨bk, off, e4, _⟩ := hcs h0
   exact ⟨bk, off, e4, hc⟩
  clear hat hp hl h0
  go_enter Tryz.func18, Tryz.ntmps18
  go_upto_region 1 with fail
  generalize w.alloc (.cells (cD 2 z b) 28) = w0 at *
  have hrow := row_made w0
  have hA1 := hA.alloc hA.size (.cells #[] 5)
  have hS1 : Sl eB w.heap.size (w0.alloc (.cells #[] 5)) (.slice (some ⟨bk, off, none⟩) s.length c) s := hS0.below ((Below.refl _ w0).alloc hA.size _)
  have hr1 := hr.alloc (.cells #[] 5)
  have hlt1 := hr1.lt
  go_wp2_with (first
   | (at_builtin
      refine wpList_append_sl _ rfl (.tmp 8) (.tmp 9) _ rfl w0.heap.size 5 i0 (.int .u8 0) 1 Tryz.underlying22 hi hz0 hz1 hz2 rfl _ 0 [] hrow rfl w.heap.size _ s hS1 rfl (fun _ => rfl) (by have := Hl.out; unfold maxLen; omega) (by have := Hl.out; omega) (by simp) ?_
      intro v1 w1 hown1 hg1 hat1
      have hr2 : Rowed w1 w.heap.size 28 (cD 2 z b) := (hg1.block _ hlt1 (by simp [Value.ownBlock]; omega)).trans hr1
      have k0 := hr2.cell 0
      have k1 := hr2.cell 1
      have k2 := hr2.cell 2)
   | (go_at_call 34; refine (hpl _).mono ?_; rintro e w' ⟨rfl, rfl⟩))
  have hB1 := hA1.trans (below_grown hrow hg1 hA1.size (by have := hA.size; omega))
  have hSw := hS.below hB1
  have hsz1 := hB1.size
  clear hown1 hg1 hat1 hrow hS1 hr1 hlt1 hS0 k0 k1 hr2 hA1 hpl
  have hrow := row_made w1
  have hBr : Below w1.heap.size w1 (w1.alloc (.cells #[] 5)) := below_alloc w1 _
  have hrow' : (w1.alloc (.cells #[] 5)).drew.ownsRow w1.heap.size 5 1 (.slice (some ⟨w1.heap.size, 0, none⟩) 0 0) 0 [] := hrow
  have hBr' : Below w1.heap.size w1 (w1.alloc (.cells #[] 5)).drew := hBr.drew
  have q1 : 0 + (s.take p).length ≤ maxLen := by have := Hl.out; unfold maxLen; simp; omega
  have q2 : (0 + (s.take p).length) * 1 ≤ 140737488355328 := by have := Hl.out; simp; omega
  have q3 : 0 + (s.take p).length + [b].length ≤ maxLen := by have := Hl.out; unfold maxLen; simp; omega
  have q4 : (0 + (s.take p).length + [b].length) * 1 ≤ 140737488355328 := by have := Hl.out; simp; omega
  have q6 : 0 + (s.take p).length + [b].length + (s.drop p).length ≤ maxLen := by have := Hl.out; unfold maxLen; simp; omega
  have q7 : (0 + (s.take p).length + [b].length + (s.drop p).length) * 1 ≤ 140737488355328 := by have := Hl.out; simp; omega
  have q5 : w1.heap.size ≤ (w1.alloc (.cells #[] 5)).drew.heap.size := hBr'.size
  have s1 := (hSw.more hsz1).upto (p := p) (by have := Hp.out; omega)
  have s2 := from_ex (p := p) (hSw.more hsz1) (by have := Hp.out; omega)
  have l1 : (p : Int) ≤ s.length := by have := Hp.out; omega
  have l4 : (p : Int) ≤ c := by have := Hp.out; omega
  clear hSw hS
  simp at k2
  have hlw : w.heap.size < w1.heap.size := World.block_lt_of_cell? _ _ k2
  have hk : ∀ W, Below w1.heap.size w1 W → W.cell? ⟨w.heap.size, 2, none⟩ = some (eB b) := fun W hW => (hW.cell (p := ⟨w.heap.size, 2, none⟩) hlw).trans k2
  have x1 : Below w1.heap.size w1 (w1.alloc (.cells #[] 5)).drew := ((Below.refl _ _).alloc (Nat.le_refl _) _).drew
  have x2 : Below w1.heap.size w1 ((w1.alloc (.cells #[] 5)).alloc (.cells #[eB b] 5)).drew := (((Below.refl _ _).alloc (Nat.le_refl _) _).alloc (by simp) _).drew
  have x3 : Below w1.heap.size w1 ((w1.alloc (.cells #[eB b] 5)).alloc (.cells #[] 5)).drew := (((Below.refl _ _).alloc (Nat.le_refl _) _).alloc (by simp) _).drew
  have kk0 : w1.drew.cell? ⟨w.heap.size, 2, none⟩ = some (eB b) := k2
  have kk1 := hk _ x1
  have r1 : (w1.alloc (.cells #[] 5)).drew.ownsRow w1.heap.size 5 1 (.slice (some ⟨w1.heap.size, 0, none⟩) 0 0) 0 [] := row_made w1
  have r2 : ((w1.alloc (.cells #[] 5)).alloc (.cells #[eB b] 5)).drew.ownsRow w1.heap.size 5 1 (.slice (some ⟨w1.heap.size, 0, none⟩) 0 0) 0 [] := (row_made w1).alloc _
  have r3 : ((w1.alloc (.cells #[eB b] 5)).alloc (.cells #[] 5)).drew.ownsRow w1.heap.size 5 1 (.slice (some ⟨w1.heap.size + 1, 0, none⟩) 0 0) 0 [] := by
   have := World.ownsRow_made (base := w1.heap.size) (e := 5) (size := 1) (w1.alloc (.cells #[eB b] 5)) #[] 0 (by simp) (by unfold maxLen; omega) rfl
   rw [World.size_alloc] at this
   exact this
  have k2b : ((w1.alloc (.cells #[] 5)).alloc (.cells #[eB b] 5)).drew.cell? ⟨w1.heap.size + 1, 0, none⟩ = some (eB b) := by
   have := (Rowed.new (w1.alloc (.cells #[] 5)) 5 #[eB b]).cell 0
   rw [World.size_alloc] at this
   exact this
  have k3 : ((w1.alloc (.cells #[eB b] 5)).alloc (.cells #[] 5)).drew.cell? ⟨w1.heap.size, 0, none⟩ = some (eB b) := ((Rowed.new w1 5 #[eB b]).alloc (.cells #[] 5)).cell 0
  have n2 : some (w1.heap.size + 1) ≠ (Value.slice (some ⟨w1.heap.size, 0, none⟩) 0 0).ownBlock := by simp [Value.ownBlock]
  have n3 : some w1.heap.size ≠ (Value.slice (some ⟨w1.heap.size + 1, 0, none⟩) 0 0).ownBlock := by simp [Value.ownBlock]
  clear k2 hlw hrow hBr hrow' hBr' q5 hr hA hlt
  by_cases hcp : c = p
  · have hcp' := hcp.symm
    subst hcp'
    have s2 := s2.1 rfl
    rw [show s.length - p = 0 by omega] at s2
    go_region_law (first
     | (refine step_append_sl _ rfl (.tmp 21) (.tmp 24) _ rfl w1.heap.size 5 i0 (.int .u8 0) 1 Tryz.underlying22 hi hz0 hz1 hz2 rfl _ 0 [] r1 rfl w1.heap.size _ (s.take p) (s1.below x1) rfl (fun _ => rfl) q1 q2 x1.size ?_
        intro v1 w3 hown1 hg1 hat1
        have hB2 : Below w1.heap.size w1 w3 := x1.trans (below_grown r1 hg1 x1.size (Nat.le_refl _))
        have kk3 := hk w3 hB2
        have hown2 := hown1.alloc (.cells #[eB b] 5)
        have hB3 : Below w1.heap.size w1 (w3.alloc (.cells #[eB b] 5)) := hB2.alloc hB2.size _
        have hc1 := Sl.new eB w3 [b] #[eB b] 5 (0, 0) 1 1 rfl (Nat.le_refl _) (by simp))
     | (refine step_append_sl _ rfl (.tmp 21) (.tmp 24) _ rfl w1.heap.size 5 i0 (.int .u8 0) 1 Tryz.underlying22 hi hz0 hz1 hz2 rfl _ 0 [] r3 rfl w1.heap.size _ (s.take p) (s1.below x3) rfl (fun _ => rfl) q1 q2 x3.size ?_
        intro v1 w3 hown2 hg1 hat1
        have hB3 : Below w1.heap.size w1 w3 := x3.trans (below_grown r3 hg1 x3.size (Nat.le_refl _))
        have kk3 := hk w3 hB3
        have hc1 := one_sl w3 w1.heap.size b ((World.cell?_of_block (a := ⟨w1.heap.size, 0, none⟩) (hg1.block w1.heap.size (World.block_lt_of_cell? _ _ k3) n3)).trans k3))
     | (refine step_append_sl _ rfl (.tmp 25) (.tmp 28) _ rfl w1.heap.size 5 i0 (.int .u8 0) 1 Tryz.underlying22 hi hz0 hz1 hz2 rfl _ _ _ hown2 rfl _ _ [b] hc1 rfl (fun _ => rfl) q3 q4 hB3.size ?_
        intro v2 w4 hown4 hg4 hat4
        have hB4 : Below w1.heap.size w1 w4 := hB3.trans (below_grown hown2 hg4 hB3.size (Nat.le_refl _)))
     | (refine step_append_sl _ rfl (.tmp 29) (.tmp 32) _ rfl w1.heap.size 5 i0 (.int .u8 0) 1 Tryz.underlying22 hi hz0 hz1 hz2 rfl _ _ _ hown4 rfl w1.heap.size _ (s.drop p) (s2.below hB4) rfl (fun _ => rfl) q6 q7 hB4.size ?_
        intro v5 w5 hown5 hg5 hat5
        have hB5 : Below w1.heap.size w1 w5 := hB4.trans (below_grown hown4 hg5 hB4.size (Nat.le_refl _)))
     | (refine step_append_sl _ rfl (.tmp 21) (.tmp 24) _ rfl w1.heap.size 5 i0 (.int .u8 0) 1 Tryz.underlying22 hi hz0 hz1 hz2 rfl _ 0 [] r2 rfl w1.heap.size _ (s.take p) (s1.below x2) rfl (fun _ => rfl) q1 q2 x2.size ?_
        intro v1 w3 hown2 hg1 hat1
        have hB3 : Below w1.heap.size w1 w3 := x2.trans (below_grown r2 hg1 x2.size (Nat.le_refl _))
        have kk3 := hk w3 hB3
        have hc1 := one_sl w3 (w1.heap.size + 1) b ((World.cell?_of_block (a := ⟨w1.heap.size + 1, 0, none⟩) (hg1.block (w1.heap.size + 1) (World.block_lt_of_cell? _ _ k2b) n2)).trans k2b)))
    all_goals
     go_wp2_with fail
     go_ret
     exact ⟨v5, rfl, Sl.of_own (n := 0 + (s.take p).length + [b].length + (s.drop p).length) (by simpa [insW] using hown5), hB1.trans (hB5.mono hsz1)⟩
  · have s2 := s2.2 hcp
    go_region_law (first
     | (refine step_append_sl _ rfl (.tmp 21) (.tmp 24) _ rfl w1.heap.size 5 i0 (.int .u8 0) 1 Tryz.underlying22 hi hz0 hz1 hz2 rfl _ 0 [] r1 rfl w1.heap.size _ (s.take p) (s1.below x1) rfl (fun _ => rfl) q1 q2 x1.size ?_
        intro v1 w3 hown1 hg1 hat1
        have hB2 : Below w1.heap.size w1 w3 := x1.trans (below_grown r1 hg1 x1.size (Nat.le_refl _))
        have kk3 := hk w3 hB2
        have hown2 := hown1.alloc (.cells #[eB b] 5)
        have hB3 : Below w1.heap.size w1 (w3.alloc (.cells #[eB b] 5)) := hB2.alloc hB2.size _
        have hc1 := Sl.new eB w3 [b] #[eB b] 5 (0, 0) 1 1 rfl (Nat.le_refl _) (by simp))
     | (refine step_append_sl _ rfl (.tmp 21) (.tmp 24) _ rfl w1.heap.size 5 i0 (.int .u8 0) 1 Tryz.underlying22 hi hz0 hz1 hz2 rfl _ 0 [] r3 rfl w1.heap.size _ (s.take p) (s1.below x3) rfl (fun _ => rfl) q1 q2 x3.size ?_
        intro v1 w3 hown2 hg1 hat1
        have hB3 : Below w1.heap.size w1 w3 := x3.trans (below_grown r3 hg1 x3.size (Nat.le_refl _))
        have kk3 := hk w3 hB3
        have hc1 := one_sl w3 w1.heap.size b ((World.cell?_of_block (a := ⟨w1.heap.size, 0, none⟩) (hg1.block w1.heap.size (World.block_lt_of_cell? _ _ k3) n3)).trans k3))
     | (refine step_append_sl _ rfl (.tmp 25) (.tmp 28) _ rfl w1.heap.size 5 i0 (.int .u8 0) 1 Tryz.underlying22 hi hz0 hz1 hz2 rfl _ _ _ hown2 rfl _ _ [b] hc1 rfl (fun _ => rfl) q3 q4 hB3.size ?_
        intro v2 w4 hown4 hg4 hat4
        have hB4 : Below w1.heap.size w1 w4 := hB3.trans (below_grown hown2 hg4 hB3.size (Nat.le_refl _)))
     | (refine step_append_sl _ rfl (.tmp 29) (.tmp 32) _ rfl w1.heap.size 5 i0 (.int .u8 0) 1 Tryz.underlying22 hi hz0 hz1 hz2 rfl _ _ _ hown4 rfl w1.heap.size _ (s.drop p) (s2.below hB4) rfl (fun _ => rfl) q6 q7 hB4.size ?_
        intro v5 w5 hown5 hg5 hat5
        have hB5 : Below w1.heap.size w1 w5 := hB4.trans (below_grown hown4 hg5 hB4.size (Nat.le_refl _)))
     | (refine step_append_sl _ rfl (.tmp 21) (.tmp 24) _ rfl w1.heap.size 5 i0 (.int .u8 0) 1 Tryz.underlying22 hi hz0 hz1 hz2 rfl _ 0 [] r2 rfl w1.heap.size _ (s.take p) (s1.below x2) rfl (fun _ => rfl) q1 q2 x2.size ?_
        intro v1 w3 hown2 hg1 hat1
        have hB3 : Below w1.heap.size w1 w3 := x2.trans (below_grown r2 hg1 x2.size (Nat.le_refl _))
        have kk3 := hk w3 hB3
        have hc1 := one_sl w3 (w1.heap.size + 1) b ((World.cell?_of_block (a := ⟨w1.heap.size + 1, 0, none⟩) (hg1.block (w1.heap.size + 1) (World.block_lt_of_cell? _ _ k2b) n2)).trans k2b)))
    all_goals
     go_wp2_with fail
     go_ret
     exact ⟨v5, rfl, Sl.of_own (n := 0 + (s.take p).length + [b].length + (s.drop p).length) (by simpa [insW] using hown5), hB1.trans (hB5.mono hsz1)⟩
end Go.Proofs.YtkibigbcdlilkaaGreatDoor
namespace Go.Proofs.YtkibigbcdlilkaaGreatDoor
open Go.RowKit Go.Shelf
attribute [local go_sem] Oper.semAt_some run_store_func
structure Ed where
  k : Int
  z : Int
  b : UInt8
def Ed.Ok (d : Ed) : Prop := (d.k = 0 ∨ d.k = 1 ∨ d.k = 2 ∨ d.k = 3) ∧ (d.k = 0 ∨ d.k = 1 ∨ codeOf d.b.toNat ≠ -1)
def flatE (l : List Ed) : List Value := l.flatMap fun d => [.int .u8 d.k, .int .i64 d.z, eB d.b]
theorem flatE_snoc (l : List Ed) (d : Ed) : flatE (l ++ [d]) = flatE l ++ [.int .u8 d.k, .int .i64 d.z, eB d.b] := by simp [flatE]
def RowE (B : Nat) (W : World) (v : Value) (m : Nat) : Prop := ∃ l : List Ed, l.length ≤ m ∧ ((∀ d ∈ l, d.Ok) ∧ 1 ≤ l.length) ∧ W.ownsRow B 28 3 v l.length (flatE l)
theorem below_grownE {B : Nat} {W W1 : World} {v : Value} {base : Nat} {n : Nat} {xs : List Value} (hown : W.ownsRow base 28 3 v n xs) (hg : W.grownBy W1 v.ownBlock) (hB : B ≤ W.heap.size) (hb : B ≤ base) : Below B W W1 :=
 (Below.refl B W).grown hg hB fun k hk => Nat.le_trans hb (hown.lt k hk).1
theorem info_ed : (Tryz.prog.info? 28).map (fun i => (i.zero, i.size, i.bytes)) = some (some (.agg #[.int .u8 0, .int .i64 0, .int .u8 0]), 3, 24) := by kernel_rfl
theorem cells_three (w : World) (a b c : Value) : ∀ j u, ([a, b, c] : List Value)[j]? = some u → (w.alloc (.cells #[a, b, c] 28)).cell? ((⟨w.heap.size, 0, none⟩ : Addr).add j) = some u := by
 intro j u h
 have := (Rowed.new w 28 #[a, b, c]).cell j
 have e : ((⟨w.heap.size, 0, none⟩ : Addr).add j) = ⟨w.heap.size, j, none⟩ := by rcases j with _ | j <;> simp [Addr.add]
 rw [e, this]
 simpa using h
theorem codes_letters (k : Nat) (hk : k < 4) : codeOf (lett k).toNat ≠ -1 := by
 rcases (show k = 0 ∨ k = 1 ∨ k = 2 ∨ k = 3 by omega) with rfl | rfl | rfl | rfl <;> decide
theorem run_acgt (k : Nat) (hk : k < 4) (w : World) : (Instr.index 9 (.string ⟨#[65, 67, 71, 84]⟩) (.int .i64 k)).run Tryz.prog w = .ok (eB (lett k)) w := by
 rcases (show k = 0 ∨ k = 1 ∨ k = 2 ∨ k = 3 by omega) with rfl | rfl | rfl | rfl
 · have h : (Instr.index 9 (.string ⟨#[65, 67, 71, 84]⟩) (.int .i64 0)).run Tryz.prog w = .ok (.int .u8 65) w := by kernel_rfl
   exact h
 · have h : (Instr.index 9 (.string ⟨#[65, 67, 71, 84]⟩) (.int .i64 1)).run Tryz.prog w = .ok (.int .u8 67) w := by kernel_rfl
   exact h
 · have h : (Instr.index 9 (.string ⟨#[65, 67, 71, 84]⟩) (.int .i64 2)).run Tryz.prog w = .ok (.int .u8 71) w := by kernel_rfl
   exact h
 · have h : (Instr.index 9 (.string ⟨#[65, 67, 71, 84]⟩) (.int .i64 3)).run Tryz.prog w = .ok (.int .u8 84) w := by kernel_rfl
   exact h
theorem row_first (w : World) : (w.alloc (.cells #[.int .u8 0, .int .i64 0, .int .u8 0] 28)).ownsRow w.heap.size 28 3 (.slice (some ⟨w.heap.size, 0, none⟩) 1 1) 1 [.int .u8 0, .int .i64 0, .int .u8 0] :=
 ⟨rfl, .inr ⟨w.heap.size, 1, #[.int .u8 0, .int .i64 0, .int .u8 0], rfl, Nat.le_refl _, Rowed.new w 28 _, Nat.le_refl _, by unfold maxLen; omega, rfl, rfl⟩⟩
theorem RowE.alloc {B : Nat} {W : World} {v : Value} {m : Nat} (h : RowE B W v m) (o : Obj) : RowE B (W.alloc o) v m := by
 obtain ⟨l, h1, h2, h3⟩ := h
 exact ⟨l, h1, h2, h3.alloc o⟩
theorem RowE.mono {B : Nat} {W : World} {v : Value} {m n : Nat} (h : RowE B W v m) (hn : m ≤ n) : RowE B W v n := by
 obtain ⟨l, h1, h2, h3⟩ := h
 exact ⟨l, by omega, h2, h3⟩
theorem wpList_push {ops : Array Oper} {rest : List Oper} {o : Oper} {a : Act} {w : World} {Q : Exit → Act → World → Prop} (hgd : o.guard = none) (s x : Operand)
    (ho : o.op = .call { callee := .builtin .append, args := #[s, x], argTypes := #[40, 40] }) (v : Value) (B m g : Nat) (d : Ed) (hrow : RowE B w v m) (hm : m ≤ 300) (hd : d.Ok)
    (hs : a.eval s = v) (hx : a.eval x = .slice (some ⟨g, 0, none⟩) 1 1) (hnews : ∀ j u, ([.int .u8 d.k, .int .i64 d.z, eB d.b] : List Value)[j]? = some u → w.cell? ((⟨g, 0, none⟩ : Addr).add j) = some u) (hB : B ≤ w.heap.size)
    (h : ∀ v' w', RowE B w' v' (m + 1) → Below B w w' → wpList Tryz.prog ops Q rest (a.put o.dst v') w') : wpList Tryz.prog ops Q (o :: rest) a w := by
 obtain ⟨i0, hi, hz0, hz1, hz2⟩ := info_parts info_ed
 obtain ⟨l, h1, h2, h3⟩ := hrow
 refine wpList_append_own w hgd s x 40 ho B 28 i0 _ 3 24 Tryz.underlying40 hi hz0 hz1 hz2 (by decide) (by decide) v l.length (flatE l) hs h3 ⟨g, 0, none⟩ 1 1 _ hx rfl hnews (by simp [Value.oneCell']) (by unfold maxLen; omega) (by omega) hB ?_
 intro v' w' hown hg _
 refine h v' w' ⟨l ++ [d], by simp; omega, ⟨?_, by simp⟩, ?_⟩ (below_grownE h3 hg hB (Nat.le_refl _))
 · intro e he
   rcases List.mem_append.1 he with he | he
   · exact h2.1 e he
   · rw [List.mem_singleton.1 he]; exact hd
 · rw [flatE_snoc, List.length_append]
   exact hown
set_option maxRecDepth 100000 in
set_option maxHeartbeats 4000000 in
theorem Edits_any (sv : Value) (s : List UInt8) (hl : s.length ≤ 20) (w : World) (hS : Sl eB w.heap.size w sv s) :
    Calls Tryz.prog 19 #[sv] w fun e w' => ∃ v, e = .returned v ∧ RowE w.heap.size w' v 200 ∧ Below w.heap.size w w' := by
  obtain ⟨i0, hi, hz0, hz1, hz2⟩ := info_parts info_ed
  obtain ⟨A, cap, rfl⟩ := hS.len
  have hidx := fun (k : Nat) (hk : k < 4) w => run_acgt k hk w
  have hbd0 : ∀ w, (Instr.build 28 #[]).run Tryz.prog w = .ok (.agg #[.int .u8 0, .int .i64 0, .int .u8 0]) w := fun _ => by kernel_rfl
  have hbd1 : ∀ (z : Int) w, (Instr.build 28 #[(0, .int .u8 1), (1, .int .i64 z)]).run Tryz.prog w = .ok (eD 1 z 0) w := fun _ _ => by kernel_rfl
  have hbd2 : ∀ (z : Int) (b : UInt8) w, (Instr.build 28 #[(0, .int .u8 2), (1, .int .i64 z), (2, eB b)]).run Tryz.prog w = .ok (eD 2 z b) w := fun _ _ _ => by kernel_rfl
  have hbd3 : ∀ (z : Int) (b : UInt8) w, (Instr.build 28 #[(0, .int .u8 3), (1, .int .i64 z), (2, eB b)]).run Tryz.prog w = .ok (eD 3 z b) w := fun _ _ _ => by kernel_rfl
  have Hl := Lib.hid hl
  clear hl
  go_enter Tryz.func19, Tryz.ntmps19
  go_wp2_with fail
  go_loopw [4, 5] (fun v i wr => ∃ k : Nat, k ≤ s.length ∧ i = .int .i64 k ∧ RowE w.heap.size wr v (1 + 5 * k) ∧ Below w.heap.size w wr) (fun _ i _ => s.length - (intOf i).toNat)
  case atStart =>
   refine ⟨0, Nat.zero_le _, rfl, ⟨[⟨0, 0, 0⟩], by simp, by simp [Ed.Ok], ?_⟩, below_alloc w _⟩
   exact row_first w
  case round =>
   obtain ⟨k, hk, rfl, hrow, hB⟩ := hrel
   by_cases hlt : k < s.length
   · have hcx : ∀ W, Below w.heap.size w W → ∃ bk off, A = some ⟨bk, off, none⟩ ∧ W.cell? ⟨bk, off + k, none⟩ = some (eB (atB s k)) := by
       intro W hW
       obtain ⟨A', c', e, hc, hcs⟩ := hS
       injection e with e1 e2 e3
       subst e1 e3
       obtain ⟨bk, off, e4, hb, hcell⟩ := hcs (by omega)
       exact ⟨bk, off, e4, (hW.cell (p := ⟨bk, off + k, none⟩) hb).trans (hcell k _ (atB_lt hlt))⟩
     have Hlt := Lib.hid hlt
     have hk20 : k ≤ 20 := by have := Hl.out; omega
     go_wp2_with (at_builtin; refine wpList_push rfl _ _ rfl _ w.heap.size _ wr.heap.size ⟨1, k, 0⟩ (hrow.alloc _) (by have := Hl.out; omega) (by simp [Ed.Ok]) rfl rfl (cells_three _ _ _ _) (by have := hB.size; simp; omega) ?_; intro v1 w1 hr1 hB1)
     have hB2 := (hB.alloc hB.size _).trans hB1
     clear hrow hB1
     go_loopw [4, 6] (fun v i wr => ∃ j : Nat, j ≤ 4 ∧ i = .int .i64 j ∧ RowE w.heap.size wr v (1 + 5 * k + 1 + j) ∧ Below w.heap.size w wr) (fun _ i _ => 4 - (intOf i).toNat)
     case atStart => exact ⟨0, by omega, rfl, hr1, hB2⟩
     case round =>
      obtain ⟨j, hj, rfl, hrow, hB⟩ := hrel
      by_cases hj4 : j < 4
      · have hix := fun W => hidx j hj4 W
        clear hidx
        have Hc := Lib.hid (codes_letters j hj4)
        obtain ⟨bk, off, rfl, hcell⟩ := hcx _ hB
        clear hcx hS
        have hkl : (k : Int) < s.length := by omega
        by_cases hne : atB s k = lett j
        · have hq : (((atB s k).toNat : Int) != ((lett j).toNat : Int)) = false := by rw [hne]; simp
          clear hne
          generalize atB s k = c at *
          generalize lett j = d at *
          go_wp2_with fail
          go_quiet (fail)
          have hrd : RowE w.heap.size (wr.drewN nq) u4 (1 + 5 * k + 1 + j) := hrow
          have hBd : Below w.heap.size w (wr.drewN nq) := hB.trans ⟨rfl, rfl, rfl, Nat.le_refl _, fun _ _ => rfl⟩
          clear hrow hB
          generalize wr.drewN nq = wd at *
          go_wp2_with fail
          go_roundw
          case rel => exact ⟨j + 1, by omega, by go_num, hrd.mono (by omega), hBd⟩
          case measure => simp [intOf]; omega
        · have hq : (((atB s k).toNat : Int) != ((lett j).toNat : Int)) = true := byte_neq hne
          clear hne
          generalize atB s k = c at *
          generalize lett j = d at *
          go_wp2_with fail
          go_quiet (fail)
          have hrd : RowE w.heap.size (wr.drewN nq) u4 (1 + 5 * k + 1 + j) := hrow
          have hBd : Below w.heap.size w (wr.drewN nq) := hB.trans ⟨rfl, rfl, rfl, Nat.le_refl _, fun _ _ => rfl⟩
          clear hrow hB
          generalize wr.drewN nq = wd at *
          go_wp2_with (at_builtin; refine wpList_push rfl _ _ rfl _ w.heap.size _ wd.heap.size ⟨3, k, d⟩ (hrd.alloc _) (by have := Hl.out; omega) ⟨.inr (.inr (.inr rfl)), .inr (.inr Hc.out)⟩ rfl rfl (cells_three _ _ _ _) (by have := hBd.size; simp; omega) ?_; intro v1 w1 hr1 hB1)
          have hB2 := (hBd.alloc hBd.size _).trans hB1
          go_roundw
          case rel => exact ⟨j + 1, by omega, by go_num, hr1, hB2⟩
          case measure => simp [intOf]; omega
      · obtain rfl : j = 4 := by omega
        go_wp2_with fail
        go_roundw
        case rel => exact ⟨k + 1, by omega, by go_num, hrow.mono (by omega), hB⟩
        case measure => simp [intOf]; omega
   · obtain rfl : k = s.length := by omega
     go_wp2_with fail
     go_loopw [4, 7] (fun v i wr => ∃ k : Nat, k ≤ s.length + 1 ∧ i = .int .i64 k ∧ RowE w.heap.size wr v (101 + 4 * k) ∧ Below w.heap.size w wr) (fun _ i _ => s.length + 1 - (intOf i).toNat)
     case atStart => exact ⟨0, Nat.zero_le _, rfl, hrow.mono (by have := Hl.out; omega), hB⟩
     case round =>
      obtain ⟨k, hk, rfl, hrow, hB⟩ := hrel
      by_cases hlt : k ≤ s.length
      · have hkl : (k : Int) ≤ s.length := by omega
        have Hlt := Lib.hid hlt
        have hk20 : k ≤ 20 := by have := Hl.out; omega
        go_wp2_with fail
        go_loopw [4, 8] (fun v i wr => ∃ j : Nat, j ≤ 4 ∧ i = .int .i64 j ∧ RowE w.heap.size wr v (101 + 4 * k + j) ∧ Below w.heap.size w wr) (fun _ i _ => 4 - (intOf i).toNat)
        case atStart => exact ⟨0, by omega, rfl, hrow, hB⟩
        case round =>
         obtain ⟨j, hj, rfl, hrow, hB⟩ := hrel
         by_cases hj4 : j < 4
         · have hix := fun W => hidx j hj4 W
           clear hidx
           have Hc := Lib.hid (codes_letters j hj4)
           generalize lett j = d at *
           go_wp2_with (at_builtin; refine wpList_push rfl _ _ rfl _ w.heap.size _ wr.heap.size ⟨2, k, d⟩ (hrow.alloc _) (by have := Hl.out; omega) ⟨.inr (.inr (.inl rfl)), .inr (.inr Hc.out)⟩ rfl rfl (cells_three _ _ _ _) (by have := hB.size; simp; omega) ?_; intro v1 w1 hr1 hB1)
           have hB2 := (hB.alloc hB.size _).trans hB1
           go_roundw
           case rel => exact ⟨j + 1, by omega, by go_num, hr1, hB2⟩
           case measure => simp [intOf]; omega
         · obtain rfl : j = 4 := by omega
           go_wp2_with fail
           go_roundw
           case rel => exact ⟨k + 1, by omega, by go_num, hrow.mono (by omega), hB⟩
           case measure => simp [intOf]; omega
      · obtain rfl : k = s.length + 1 := by omega
        go_wp2_with fail
        go_ret
        exact ⟨_, rfl, hrow.mono (by have := Hl.out; omega), hB⟩
end Go.Proofs.YtkibigbcdlilkaaGreatDoor
namespace Go.Proofs.YtkibigbcdlilkaaGreatDoor
open Go.RowKit Go.Shelf
attribute [local go_sem] Oper.semAt_some run_store_func
def OneE (s y : List UInt8) : Prop :=
 y = s ∨ (∃ p b, p < s.length ∧ codeOf b.toNat ≠ -1 ∧ y = s.set p b) ∨ (∃ p, p < s.length ∧ y = delW s p) ∨ ∃ p b, p ≤ s.length ∧ codeOf b.toNat ≠ -1 ∧ y = insW s p b
end Go.Proofs.YtkibigbcdlilkaaGreatDoor
namespace Go.Proofs.YtkibigbcdlilkaaGreatDoor
open Go.RowKit Go.Shelf
def Four (s : List UInt8) : Prop := ∀ k, k < s.length → codeOf (atB s k).toNat ≠ -1
theorem Four.one {s y : List UInt8} (h : Four s) (ho : OneE s y) : Four y := by
 rcases ho with rfl | ⟨p, b, hp, hb, rfl⟩ | ⟨p, hp, rfl⟩ | ⟨p, b, hp, hb, rfl⟩
 · exact h
 · intro k hk
   rw [List.length_set] at hk
   by_cases e : p = k
   · subst e
     rw [atB_set _ _ _ hp]
     exact hb
   · rw [atB_set_other _ _ e]
     exact h k hk
 · intro k hk
   have := delW_length s p hp
   rw [atB_del _ _ _ hp]
   split
   · exact h k (by omega)
   · exact h (k + 1) (by omega)
 · intro k hk
   have := insW_length s p b hp
   rw [atB_ins _ _ _ _ hp]
   split
   · exact h k (by omega)
   · split
     · exact hb
     · exact h (k - 1) (by omega)
theorem OneE.length {s y : List UInt8} (ho : OneE s y) : y.length ≤ s.length + 1 ∧ s.length ≤ y.length + 1 := by
 rcases ho with rfl | ⟨p, b, hp, hb, rfl⟩ | ⟨p, hp, rfl⟩ | ⟨p, b, hp, hb, rfl⟩
 · omega
 · rw [List.length_set]; omega
 · have := delW_length s p hp
   omega
 · rw [insW_length _ _ _ hp]; omega
theorem two_edits {x y z : List UInt8} (hn : 2 ≤ x.length) (hx : Four x) (h1 : OneE x y) (h2 : OneE y z) (hl : z.length = x.length)
    (eT : sT z x.length % x.length = sT x x.length % x.length) (eS : sS z x.length % 4 = sS x x.length % 4) (eW : sW z x.length % (6 * x.length + 1) = sW x x.length % (6 * x.length + 1)) : z = x := by
 have hz : ∀ k, k < x.length → codeOf (atB z k).toNat ≠ -1 := fun k hk => (hx.one h1).one h2 k (by omega)
 rcases h1 with rfl | ⟨p, b, hp, hb, rfl⟩ | ⟨p, hp, rfl⟩ | ⟨p, b, hp, hb, rfl⟩
 · rcases h2 with rfl | ⟨q, c, hq, hc, rfl⟩ | ⟨q, hq, rfl⟩ | ⟨q, c, hq, hc, rfl⟩
   · rfl
   · have e : (y.set q c).set q c = y.set q c := by rw [List.set_set]
     rw [← e] at eS eW hz ⊢
     exact swap_same y q q c c hn hq hq hx hz eS eW
   · have := delW_length y q hq
     omega
   · have := insW_length y q c hq
     omega
 · rcases h2 with rfl | ⟨q, c, hq, hc, rfl⟩ | ⟨q, hq, rfl⟩ | ⟨q, c, hq, hc, rfl⟩
   · have e : (x.set p b).set p b = x.set p b := by rw [List.set_set]
     rw [← e] at eS eW hz ⊢
     exact swap_same x p p b b hn hp hp hx hz eS eW
   · rw [List.length_set] at hq
     exact swap_same x p q b c hn hp hq hx hz eS eW
   · have := delW_length (x.set p b) q hq
     rw [List.length_set] at this
     omega
   · have := insW_length (x.set p b) q c hq
     rw [List.length_set] at this
     omega
 · have hd := delW_length x p hp
   rcases h2 with rfl | ⟨q, c, hq, hc, rfl⟩ | ⟨q, hq, rfl⟩ | ⟨q, c, hq, hc, rfl⟩
   · omega
   · rw [List.length_set] at hl
     omega
   · have := delW_length _ q hq
     omega
   · exact gap_same x p q c hp (by omega) hx hz eT eS
 · have hd := insW_length x p b hp
   rcases h2 with rfl | ⟨q, c, hq, hc, rfl⟩ | ⟨q, hq, rfl⟩ | ⟨q, c, hq, hc, rfl⟩
   · omega
   · rw [List.length_set] at hl
     omega
   · rcases Nat.lt_trichotomy q p with h | h | h
     · rw [ins_del_low x p q b hp h] at eT eS hz ⊢
       exact gap_same x q (p - 1) b (by omega) (by omega) hx hz eT eS
     · subst h
       exact ins_del_same x q b hp
     · rw [ins_del_high x p q b h (by omega)] at eT eS hz ⊢
       exact gap_same x (q - 1) p b (by omega) (by omega) hx hz eT eS
   · have := insW_length _ q c hq
     omega
end Go.Proofs.YtkibigbcdlilkaaGreatDoor
