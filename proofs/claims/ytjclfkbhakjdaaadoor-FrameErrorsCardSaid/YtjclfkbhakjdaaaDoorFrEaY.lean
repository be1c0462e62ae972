import Derived.Test.YtjclfkbhakjdaaaDoorFrWY
import Derived.Test.YtjclfkbhakjdaaaDoorGCY
namespace Go.Proofs.YtjclfkbhakjdaaaDoor
open Go.RowKit Go.Shelf
attribute [local go_sem] Oper.semAt_some run_store_func
theorem Back_no (P D R : Int) (sv : Value) (x : List UInt8) (n : Int) (hn : backF P D R x = .error n) (w : World) (hT : Tabs w) (hS : Sl eB w.heap.size w sv x) :
    Calls Tryd.prog 9 #[shV P D R, sv] w fun e w' => e = .returned (.tuple #[frV 0 0 (.slice none 0 0), .int .i64 n]) ∧ Below w.heap.size w w' := by
  refine (Back_any P D R sv x w hT hS).mono ?_
  rintro e w' ⟨G, PL, pay, v, E, rfl, ⟨h1, -⟩ | ⟨h1, -, rfl, rfl, -, rfl⟩, -, hB⟩
  · rw [hn] at h1; cases h1
  · rw [hn] at h1
    cases h1
    exact ⟨rfl, hB⟩
def FaS (a s : Nat) (N : World) (D : Nat → Bool) (g : Nat → Value) (w : World) : Prop :=
 Below N.heap.size N w ∧ (D a = true → D s = false → ∃ q, g a = .pointer (some ⟨q, 0, none⟩) ∧ N.heap.size ≤ q ∧ Rowed w q 26 (frB 0 0 (.slice none 0 0))) ∧ (D s = true → D a = true)
section
variable {a s : Nat} {N : World} {D : Nat → Bool} {g : Nat → Value} {w w' : World}
theorem FaS.call {j : Nat} (h : FaS a s N D g w) (h1 : a ≠ j) (h2 : s ≠ j) (hB : Below w.heap.size w w') : FaS a s N (upd D j) g w' := by
 unfold FaS
 rw [upd_other D h1, upd_other D h2]
 refine ⟨below_trans h.1 hB, fun h3 h4 => ?_, h.2.2⟩
 obtain ⟨q, e1, e2, e3⟩ := h.2.1 h3 h4
 exact ⟨q, e1, e2, (hB.block _ e3.lt).trans e3⟩
theorem FaS.same {j : Nat} (h : FaS a s N D g w) (h1 : a ≠ j) (h2 : s ≠ j) : FaS a s N (upd D j) g w := h.call h1 h2 (Below.refl _ _)
theorem FaS.other {j : Nat} {v : Value} (h : FaS a s N D g w) (h1 : a ≠ j) (h2 : s ≠ j) (hB : Below N.heap.size N w') (hk : ∀ q, Rowed w q 26 (frB 0 0 (.slice none 0 0)) → Rowed w' q 26 (frB 0 0 (.slice none 0 0))) : FaS a s N (upd D j) (fun i => if i = j then v else g i) w' := by
 unfold FaS
 rw [upd_other D h1, upd_other D h2]
 refine ⟨hB, fun h3 h4 => ?_, h.2.2⟩
 obtain ⟨q, e1, e2, e3⟩ := h.2.1 h3 h4
 exact ⟨q, by simpa only [if_neg h1] using e1, e2, hk q e3⟩
theorem FaS.made (h : FaS a s N D g w) (has : s ≠ a) (_hD : D a = false) : FaS a s N (upd D a) (fun j => if j = a then .pointer (some ⟨w.heap.size, 0, none⟩) else g j) (w.alloc (.cells (frB 0 0 (.slice none 0 0)) 26)) := by
 unfold FaS
 rw [upd_same, upd_other D has]
 exact ⟨below_trans h.1 (below_alloc w _), fun _ _ => ⟨w.heap.size, by simp, h.1.size, Rowed.new w _ _⟩, fun _ => rfl⟩
theorem FaS.stored {q : Nat} (h : FaS a s N D g w) (has : a ≠ s) (ha : D a = true) (hD : D s = false) (hq : g a = .pointer (some ⟨q, 0, none⟩)) (u0 u1 u2 : Value) :
    FaS a s N (upd D s) g (((w.setCell ⟨q, 0, none⟩ u0).setCell ⟨q, 1, none⟩ u1).setCell ⟨q, 2, none⟩ u2) := by
  obtain ⟨q', e1, e2, -⟩ := h.2.1 ha hD
  rw [hq] at e1
  cases e1
  unfold FaS
  rw [upd_same, upd_other D has]
  exact ⟨((h.1.setCell (p := ⟨q, 0, none⟩) e2 _).setCell (p := ⟨q, 1, none⟩) e2 _).setCell (p := ⟨q, 2, none⟩) e2 _, fun _ h3 => (by cases h3), fun _ => ha⟩
end
def ErS (N : World) (x : List UInt8) (D : Nat → Bool) (g : Nat → Value) (w : World) : Prop :=
 FaS 10 11 N D g w ∧ (D 1 = true → D 3 = false → ∃ q, g 1 = .slice (some ⟨q, 0, none⟩) 0 0 ∧ N.heap.size ≤ q ∧ Rowed w q 5 #[]) ∧
 (D 3 = true → D 5 = false → w.ownsRow N.heap.size 5 1 (g 3) x.length (x.map eB)) ∧
 (D 4 = true → D 5 = false → ∃ q, g 4 = .slice (some ⟨q, 0, none⟩) 1 1 ∧ Rowed w q 5 #[eB 65]) ∧
 (D 5 = true → Sl eB w.heap.size w (g 5) (x ++ [65])) ∧ (D 3 = true → D 1 = true) ∧ (D 5 = true → D 3 = true ∧ D 4 = true)
section
variable {N : World} {x : List UInt8} {D : Nat → Bool} {g : Nat → Value} {w w' : World}
theorem ErS.same {j : Nat} (h : ErS N x D g w) (h1 : 1 ≠ j) (h3 : 3 ≠ j) (h4 : 4 ≠ j) (h5 : 5 ≠ j) (h10 : 10 ≠ j) (h11 : 11 ≠ j) : ErS N x (upd D j) g w := by
 obtain ⟨a, b⟩ := h
 refine ⟨a.same h10 h11, ?_⟩
 rw [upd_other D h1, upd_other D h3, upd_other D h4, upd_other D h5]
 exact b
theorem ErS.call {j : Nat} (h : ErS N x D g w) (h1 : 1 ≠ j) (h3 : 3 ≠ j) (h4 : 4 ≠ j) (h5 : 5 ≠ j) (h10 : 10 ≠ j) (h11 : 11 ≠ j) (hd : D 5 = true) (hB : Below w.heap.size w w') : ErS N x (upd D j) g w' := by
 obtain ⟨a, b1, b2, b3, b4, b5, b6⟩ := h
 refine ⟨a.call h10 h11 hB, ?_⟩
 rw [upd_other D h1, upd_other D h3, upd_other D h4, upd_other D h5]
 refine ⟨fun _ e => ?_, fun _ e => ?_, fun _ e => ?_, fun e => (b4 e).next hB, b5, b6⟩
 · rw [(b6 hd).1] at e; cases e
 · rw [hd] at e; cases e
 · rw [hd] at e; cases e
theorem ErS.op1 (h : ErS N x D g w) (hD : D 1 = false) : ErS N x (upd D 1) (fun j => if j = 1 then .slice (some ⟨w.heap.size, 0, none⟩) 0 0 else g j) (w.alloc (.cells #[] 5)) := by
 obtain ⟨a, b1, b2, b3, b4, b5, b6⟩ := h
 have n3 := no_of b5 hD
 have n5 := no_of (fun e => (b6 e).1) n3
 have hs := a.1.size
 refine ⟨a.other (by decide) (by decide) (below_trans a.1 (below_alloc w _)) fun q hq => hq.alloc _, ?_⟩
 rw [upd_same, upd_other D (show 3 ≠ 1 by decide), upd_other D (show 4 ≠ 1 by decide), upd_other D (show 5 ≠ 1 by decide), n3, n5]
 refine ⟨fun _ _ => ⟨w.heap.size, by simp, hs, Rowed.new w 5 #[]⟩, fun e => (by cases e), fun e4 _ => ?_, fun e => (by cases e), fun _ => rfl, fun e => (by cases e)⟩
 obtain ⟨q, e1, e2⟩ := b3 e4 n5
 exact ⟨q, by simpa using e1, e2.alloc _⟩
theorem ErS.op4 (h : ErS N x D g w) (hD : D 4 = false) : ErS N x (upd D 4) (fun j => if j = 4 then .slice (some ⟨w.heap.size, 0, none⟩) 1 1 else g j) (w.alloc (.cells #[eB 65] 5)) := by
 obtain ⟨a, b1, b2, b3, b4, b5, b6⟩ := h
 have n5 := no_of (fun e => (b6 e).2) hD
 have hs := a.1.size
 refine ⟨a.other (by decide) (by decide) (below_trans a.1 (below_alloc w _)) fun q hq => hq.alloc _, ?_⟩
 rw [upd_same, upd_other D (show 1 ≠ 4 by decide), upd_other D (show 3 ≠ 4 by decide), upd_other D (show 5 ≠ 4 by decide), n5]
 refine ⟨fun e1 e3 => ?_, fun e3 _ => ?_, fun _ _ => ⟨w.heap.size, by simp, Rowed.new w 5 #[eB 65]⟩, fun e => (by cases e), b5, fun e => (by cases e)⟩
 · obtain ⟨q, f1, f2, f3⟩ := b1 e1 e3
   exact ⟨q, by simpa using f1, f2, f3.alloc _⟩
 · have := b2 e3 n5
   simpa using this.alloc _
theorem ErS.op3 (h : ErS N x D g w) (hD : D 3 = false) (h1 : D 1 = true) {q : Nat} (hq : N.heap.size ≤ q) (hr : Rowed w q 5 #[]) {v : Value} (hown : w'.ownsRow N.heap.size 5 1 v x.length (x.map eB)) (hg : w.grownBy w' (some q)) : ErS N x (upd D 3) (fun j => if j = 3 then v else g j) w' := by
 obtain ⟨a, b1, b2, b3, b4, b5, b6⟩ := h
 have n5 := no_of (fun e => (b6 e).1) hD
 have hs := a.1.size
 refine ⟨a.other (by decide) (by decide) (a.1.grown hg hs (fun k e => by cases e; exact hq)) fun q' hq' => (hg.block q' hq'.lt (fun e => by
  cases e
  have := hq'.symm.trans hr
  cases this)).trans hq', ?_⟩
 rw [upd_same, upd_other D (show 1 ≠ 3 by decide), upd_other D (show 4 ≠ 3 by decide), upd_other D (show 5 ≠ 3 by decide), n5, h1]
 refine ⟨fun _ e => (by cases e), fun _ _ => by simpa using hown, fun e4 _ => ?_, fun e => (by cases e), fun _ => rfl, fun e => (by cases e)⟩
 obtain ⟨t, e1, e2⟩ := b3 e4 n5
 refine ⟨t, by simpa using e1, (hg.block t e2.lt (fun e => ?_)).trans e2⟩
 cases e
 have := e2.symm.trans hr
 cases this
theorem ErS.op5 (h : ErS N x D g w) (h3 : D 3 = true) (h4 : D 4 = true) (hD : D 5 = false) {v : Value} (hs : Sl eB w'.heap.size w' v (x ++ [65])) (hg : w.grownBy w' (g 3).ownBlock) : ErS N x (upd D 5) (fun j => if j = 5 then v else g j) w' := by
 obtain ⟨a, b1, b2, b3, b4, b5, b6⟩ := h
 have hown := b2 h3 hD
 refine ⟨a.other (by decide) (by decide) (a.1.trans (below_grown hown hg a.1.size (Nat.le_refl _))) fun q' hq' => (hg.block q' hq'.lt (fun e => ?_)).trans hq', ?_⟩
 · rcases hown.2 with ⟨e0, -⟩ | ⟨gk, cap, cur, e0, -, hk, -⟩
   · rw [e0] at e; cases e
   · rw [e0] at e
     cases e
     have := hk.symm.trans hq'
     cases this
 · rw [upd_same, upd_other D (show 1 ≠ 5 by decide), upd_other D (show 3 ≠ 5 by decide), upd_other D (show 4 ≠ 5 by decide), h3, h4]
   exact ⟨fun _ e => (by cases e), fun _ e => (by cases e), fun _ e => (by cases e), fun _ => by simpa using hs, fun _ => b5 h3, fun _ => ⟨rfl, rfl⟩⟩
theorem ErS.made (h : ErS N x D g w) (hD : D 10 = false) : ErS N x (upd D 10) (fun j => if j = 10 then .pointer (some ⟨w.heap.size, 0, none⟩) else g j) (w.alloc (.cells (frB 0 0 (.slice none 0 0)) 26)) := by
 obtain ⟨a, b1, b2, b3, b4, b5, b6⟩ := h
 refine ⟨a.made (by decide) hD, ?_⟩
 rw [upd_other D (show 1 ≠ 10 by decide), upd_other D (show 3 ≠ 10 by decide), upd_other D (show 4 ≠ 10 by decide), upd_other D (show 5 ≠ 10 by decide)]
 refine ⟨fun e1 e3 => ?_, fun e3 e5 => ?_, fun e4 e5 => ?_, fun e => by simpa using (b4 e).next (below_alloc w _), b5, b6⟩
 · obtain ⟨q, f1, f2, f3⟩ := b1 e1 e3
   exact ⟨q, by simpa using f1, f2, f3.alloc _⟩
 · simpa using (b2 e3 e5).alloc _
 · obtain ⟨q, f1, f2⟩ := b3 e4 e5
   exact ⟨q, by simpa using f1, f2.alloc _⟩
theorem ErS.stored {q : Nat} (h : ErS N x D g w) (h5 : D 5 = true) (h10 : D 10 = true) (hD : D 11 = false) (hq : g 10 = .pointer (some ⟨q, 0, none⟩)) :
    ErS N x (upd D 11) g (((w.setCell ⟨q, 0, none⟩ (.int .i64 0)).setCell ⟨q, 1, none⟩ (.int .i64 0)).setCell ⟨q, 2, none⟩ (.slice none 0 0)) := by
  obtain ⟨a, b1, b2, b3, b4, b5, b6⟩ := h
  have a0 := a
  obtain ⟨q', e1, e2, e3⟩ := a0.2.1 h10 hD
  rw [hq] at e1
  cases e1
  have r1 : Rowed (w.setCell ⟨q, 0, none⟩ (.int .i64 0)) q 26 (frB 0 0 (.slice none 0 0)) := e3.set 0 (.int .i64 0)
  have r2 : Rowed ((w.setCell ⟨q, 0, none⟩ (.int .i64 0)).setCell ⟨q, 1, none⟩ (.int .i64 0)) q 26 (frB 0 0 (.slice none 0 0)) := r1.set 1 (.int .i64 0)
  refine ⟨a.stored (by decide) h10 hD hq _ _ _, ?_⟩
  rw [upd_other D (show 1 ≠ 11 by decide), upd_other D (show 3 ≠ 11 by decide), upd_other D (show 4 ≠ 11 by decide), upd_other D (show 5 ≠ 11 by decide), h5, (b6 h5).1, (b6 h5).2]
  refine ⟨fun _ e => (by cases e), fun _ e => (by cases e), fun _ e => (by cases e), fun _ => ?_, fun _ => b5 (b6 h5).1, fun _ => ⟨rfl, rfl⟩⟩
  have := sl_setfr (sl_setfr (sl_setfr (b4 h5) e3 0 (.int .i64 0)) r1 1 (.int .i64 0)) r2 2 (.slice none 0 0)
  simpa using this
end
end Go.Proofs.YtjclfkbhakjdaaaDoor
