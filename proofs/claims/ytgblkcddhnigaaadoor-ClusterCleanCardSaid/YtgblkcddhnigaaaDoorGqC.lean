/- What holds while ClusterClean's drawing region runs. (Seat s26.) -/
import Derived.Test.YtgblkcddhnigaaaDoorGqB
import Derived.Test.YtgblkcddhnigaaaDoorGC
namespace Go.Proofs.YtgblkcddhnigaaaDoor
open Go.RowKit

theorem bool_no {b : Bool} (h : b = true → False) : b = false := by cases b <;> first | rfl | exact (h rfl).elim
structure ClS (N : Nat) (rows : List RowC) (b : UInt8) (zs : List UInt8) (M : Nat) (w0 : World) (D : Nat → Bool) (g : Nat → Value) (w : World) : Prop where
  bel : Below N w0 w
  big : N ≤ w.heap.size
  s0 : D 0 = true → D 2 = false → ∃ p, g 0 = .slice (some ⟨p, 0, none⟩) 0 0 ∧ w.ownsRow N 34 1 (.slice (some ⟨p, 0, none⟩) 0 0) 0 []
  s2 : D 2 = true → D 7 = false → w.ownsRow N 34 1 (g 2) rows.length (rows.map eC)
  s4 : D 4 = true → D 7 = false → ∃ p, g 4 = .slice (some ⟨p, 0, none⟩) 1 1 ∧ w.ownsRow N 5 1 (.slice (some ⟨p, 0, none⟩) 1 1) 1 [eB b]
  s5 : D 5 = true → D 7 = false → ∃ p, g 5 = .slice (some ⟨p, 0, none⟩) zs.length zs.length ∧ w.ownsRow N 5 1 (.slice (some ⟨p, 0, none⟩) zs.length zs.length) zs.length (zs.map eB)
  s6 : D 6 = true → D 7 = false → ∃ q, g 6 = .slice (some ⟨q, 0, none⟩) 2 2 ∧ w.heap[q]? = some (.cells #[g 4, g 5] 34 (0, 0)) ∧ (D 0 = true → D 2 = false → (g 0).ownBlock ≠ some q)
  s7 : D 7 = true → D 8 = false → ∃ r1 r2 : RowC, r1.bs = [b] ∧ r2.bs = zs ∧ RowsIn w (g 7) (rows ++ [r1, r2])
  s8 : D 8 = true → ∃ A c, g 8 = .slice A M c
  s9 : D 9 = true → g 9 = g 8
  o2 : D 2 = true → D 0 = true
  o6 : D 6 = true → D 4 = true ∧ D 5 = true
  o7 : D 7 = true → D 2 = true ∧ D 6 = true
  o8 : D 8 = true → D 7 = true
  o9 : D 9 = true → D 8 = true
section
variable {N M : Nat} {rows : List RowC} {b : UInt8} {zs : List UInt8} {w0 w w' : World} {D : Nat → Bool} {g : Nat → Value}
theorem ClS.n20 (h : ClS N rows b zs M w0 D g w) (hD : D 0 = false) : D 2 = false := bool_no fun e => by rw [h.o2 e] at hD; cases hD
theorem ClS.n72 (h : ClS N rows b zs M w0 D g w) (hD : D 2 = false) : D 7 = false := bool_no fun e => by rw [(h.o7 e).1] at hD; cases hD
theorem ClS.n76 (h : ClS N rows b zs M w0 D g w) (hD : D 6 = false) : D 7 = false := bool_no fun e => by rw [(h.o7 e).2] at hD; cases hD
theorem ClS.n87 (h : ClS N rows b zs M w0 D g w) (hD : D 7 = false) : D 8 = false := bool_no fun e => by rw [h.o8 e] at hD; cases hD
theorem ClS.n98 (h : ClS N rows b zs M w0 D g w) (hD : D 8 = false) : D 9 = false := bool_no fun e => by rw [h.o9 e] at hD; cases hD
theorem ClS.n64 (h : ClS N rows b zs M w0 D g w) (hD : D 4 = false) : D 6 = false := bool_no fun e => by rw [(h.o6 e).1] at hD; cases hD
theorem ClS.n65 (h : ClS N rows b zs M w0 D g w) (hD : D 5 = false) : D 6 = false := bool_no fun e => by rw [(h.o6 e).2] at hD; cases hD
theorem ClS.belw (h : ClS N rows b zs M w0 D g w) (hb : Below w.heap.size w w') : ClS N rows b zs M w0 D g w' :=
  ⟨h.bel.trans (hb.mono h.big), Nat.le_trans h.big hb.size, fun a c => by obtain ⟨p, e, k⟩ := h.s0 a c; exact ⟨p, e, ownsRow_below k hb⟩, fun a c => ownsRow_below (h.s2 a c) hb, fun a c => by obtain ⟨p, e, k⟩ := h.s4 a c; exact ⟨p, e, ownsRow_below k hb⟩,
    fun a c => by obtain ⟨p, e, k⟩ := h.s5 a c; exact ⟨p, e, ownsRow_below k hb⟩, fun a c => by obtain ⟨q, e, k, m⟩ := h.s6 a c; exact ⟨q, e, (hb.block q (Array.getElem?_eq_some_iff.1 k).1).trans k, m⟩,
    fun a c => by obtain ⟨r1, r2, e1, e2, k⟩ := h.s7 a c; exact ⟨r1, r2, e1, e2, k.next hb⟩, h.s8, h.s9, h.o2, h.o6, h.o7, h.o8, h.o9⟩
theorem ClS.keep {i : Nat} (h : ClS N rows b zs M w0 D g w) (hi : i = 1 ∨ i = 3) : ClS N rows b zs M w0 (upd D i) g w := by
  have e : ∀ j, j ≠ 1 → j ≠ 3 → upd D i j = D j := fun j h1 h3 => upd_other D (by omega)
  refine ⟨h.bel, h.big, ?_, ?_, ?_, ?_, ?_, ?_, ?_, ?_, ?_, ?_, ?_, ?_, ?_⟩
  all_goals simp only [e _ (show 0 ≠ 1 by decide) (show 0 ≠ 3 by decide), e _ (show 2 ≠ 1 by decide) (show 2 ≠ 3 by decide), e _ (show 4 ≠ 1 by decide) (show 4 ≠ 3 by decide), e _ (show 5 ≠ 1 by decide) (show 5 ≠ 3 by decide), e _ (show 6 ≠ 1 by decide) (show 6 ≠ 3 by decide), e _ (show 7 ≠ 1 by decide) (show 7 ≠ 3 by decide), e _ (show 8 ≠ 1 by decide) (show 8 ≠ 3 by decide), e _ (show 9 ≠ 1 by decide) (show 9 ≠ 3 by decide)]
  · exact h.s0
  · exact h.s2
  · exact h.s4
  · exact h.s5
  · exact h.s6
  · exact h.s7
  · exact h.s8
  · exact h.s9
  · exact h.o2
  · exact h.o6
  · exact h.o7
  · exact h.o8
  · exact h.o9
theorem ClS.put0 (h : ClS N rows b zs M w0 D g w) (hD : D 0 = false) (p : Nat) (hown : w.ownsRow N 34 1 (.slice (some ⟨p, 0, none⟩) 0 0) 0 []) (hne : ∀ q, D 6 = true → g 6 = .slice (some ⟨q, 0, none⟩) 2 2 → p ≠ q) :
    ClS N rows b zs M w0 (upd D 0) (fun j => if j = 0 then .slice (some ⟨p, 0, none⟩) 0 0 else g j) w := by
  have n2 := h.n20 hD
  have n7 := h.n72 n2
  have n8 := h.n87 n7
  have n9 := h.n98 n8
  refine ⟨h.bel, h.big, ?_, ?_, ?_, ?_, ?_, ?_, ?_, ?_, ?_, ?_, ?_, ?_, ?_⟩
  all_goals simp only [upd_same, upd_other D (show 2 ≠ 0 by decide), upd_other D (show 4 ≠ 0 by decide), upd_other D (show 5 ≠ 0 by decide), upd_other D (show 6 ≠ 0 by decide), upd_other D (show 7 ≠ 0 by decide), upd_other D (show 8 ≠ 0 by decide), upd_other D (show 9 ≠ 0 by decide), n2, n7, n8, n9]
  · exact fun _ _ => ⟨p, rfl, hown⟩
  · intro e; cases e
  · exact fun a _ => h.s4 a n7
  · exact fun a _ => h.s5 a n7
  · intro a _
    obtain ⟨q, e, k, -⟩ := h.s6 a n7
    exact ⟨q, e, k, fun _ _ e2 => hne q a e (Option.some.inj e2)⟩
  all_goals first | exact h.o6 | (intro e; cases e)
theorem ClS.put4 (h : ClS N rows b zs M w0 D g w) (hD : D 4 = false) (p : Nat) (hown : w.ownsRow N 5 1 (.slice (some ⟨p, 0, none⟩) 1 1) 1 [eB b]) :
    ClS N rows b zs M w0 (upd D 4) (fun j => if j = 4 then .slice (some ⟨p, 0, none⟩) 1 1 else g j) w := by
  have n6 := h.n64 hD
  have n7 := h.n76 n6
  have n8 := h.n87 n7
  have n9 := h.n98 n8
  refine ⟨h.bel, h.big, ?_, ?_, ?_, ?_, ?_, ?_, ?_, ?_, ?_, ?_, ?_, ?_, ?_⟩
  all_goals simp only [upd_same, upd_other D (show 0 ≠ 4 by decide), upd_other D (show 2 ≠ 4 by decide), upd_other D (show 5 ≠ 4 by decide), upd_other D (show 6 ≠ 4 by decide), upd_other D (show 7 ≠ 4 by decide), upd_other D (show 8 ≠ 4 by decide), upd_other D (show 9 ≠ 4 by decide), n6, n7, n8, n9]
  · exact h.s0
  · exact fun a _ => h.s2 a n7
  · exact fun _ _ => ⟨p, rfl, hown⟩
  · exact fun a _ => h.s5 a n7
  all_goals first | exact h.o2 | (intro e; cases e)
theorem ClS.put5 (h : ClS N rows b zs M w0 D g w) (hD : D 5 = false) (p : Nat) (hown : w.ownsRow N 5 1 (.slice (some ⟨p, 0, none⟩) zs.length zs.length) zs.length (zs.map eB)) :
    ClS N rows b zs M w0 (upd D 5) (fun j => if j = 5 then .slice (some ⟨p, 0, none⟩) zs.length zs.length else g j) w := by
  have n6 := h.n65 hD
  have n7 := h.n76 n6
  have n8 := h.n87 n7
  have n9 := h.n98 n8
  refine ⟨h.bel, h.big, ?_, ?_, ?_, ?_, ?_, ?_, ?_, ?_, ?_, ?_, ?_, ?_, ?_⟩
  all_goals simp only [upd_same, upd_other D (show 0 ≠ 5 by decide), upd_other D (show 2 ≠ 5 by decide), upd_other D (show 4 ≠ 5 by decide), upd_other D (show 6 ≠ 5 by decide), upd_other D (show 7 ≠ 5 by decide), upd_other D (show 8 ≠ 5 by decide), upd_other D (show 9 ≠ 5 by decide), n6, n7, n8, n9]
  · exact h.s0
  · exact fun a _ => h.s2 a n7
  · exact fun a _ => h.s4 a n7
  · exact fun _ _ => ⟨p, rfl, hown⟩
  all_goals first | exact h.o2 | (intro e; cases e)
theorem ClS.put6 (h : ClS N rows b zs M w0 D g w) (hD : D 6 = false) (h4 : D 4 = true) (h5 : D 5 = true) (q : Nat) (hq : w.heap[q]? = some (.cells #[g 4, g 5] 34 (0, 0))) (hne : D 0 = true → D 2 = false → (g 0).ownBlock ≠ some q) :
    ClS N rows b zs M w0 (upd D 6) (fun j => if j = 6 then .slice (some ⟨q, 0, none⟩) 2 2 else g j) w := by
  have n7 := h.n76 hD
  have n8 := h.n87 n7
  have n9 := h.n98 n8
  refine ⟨h.bel, h.big, ?_, ?_, ?_, ?_, ?_, ?_, ?_, ?_, ?_, ?_, ?_, ?_, ?_⟩
  all_goals simp only [upd_same, upd_other D (show 0 ≠ 6 by decide), upd_other D (show 2 ≠ 6 by decide), upd_other D (show 4 ≠ 6 by decide), upd_other D (show 5 ≠ 6 by decide), upd_other D (show 7 ≠ 6 by decide), upd_other D (show 8 ≠ 6 by decide), upd_other D (show 9 ≠ 6 by decide), n7, n8, n9]
  · exact h.s0
  · exact fun a _ => h.s2 a n7
  · exact fun a _ => h.s4 a n7
  · exact fun a _ => h.s5 a n7
  · exact fun _ _ => ⟨q, rfl, hq, hne⟩
  all_goals first | exact h.o2 | exact fun _ => ⟨h4, h5⟩ | (intro e; cases e)
theorem ClS.op2 (h : ClS N rows b zs M w0 D g w) (hD : D 2 = false) (h0 : D 0 = true) {v : Value} (hown : w'.ownsRow N 34 1 v rows.length (rows.map eC)) (hg : w.grownBy w' (g 0).ownBlock) :
    ClS N rows b zs M w0 (upd D 2) (fun j => if j = 2 then v else g j) w' := by
  have n7 := h.n72 hD
  have n8 := h.n87 n7
  have n9 := h.n98 n8
  obtain ⟨p, e0, k0⟩ := h.s0 h0 hD
  have hk : ∀ (k : Nat) (cs : Array Value) (e : TypeId), w.heap[k]? = some (.cells cs e (0, 0)) → k ≠ p → w'.heap[k]? = some (.cells cs e (0, 0)) := fun k cs e ho hne => (hg.block k (Array.getElem?_eq_some_iff.1 ho).1 fun e2 => by
    rw [e0] at e2
    exact hne (Option.some.inj e2)).trans ho
  obtain ⟨hNp, csp, htag⟩ := own_tag k0 (k := p) rfl
  have hk8 : ∀ (k : Nat) (cs : Array Value), w.heap[k]? = some (.cells cs 5 (0, 0)) → w'.heap[k]? = some (.cells cs 5 (0, 0)) := fun k cs ho => hk k cs _ ho (by
    rintro rfl
    rw [htag] at ho
    cases ho)
  have hB : Below N w w' := (Below.refl N w).grown hg h.big fun q hq => by
    rw [e0] at hq
    have : p = q := Option.some.inj hq
    omega
  refine ⟨h.bel.trans hB, Nat.le_trans h.big hB.size, ?_, ?_, ?_, ?_, ?_, ?_, ?_, ?_, ?_, ?_, ?_, ?_, ?_⟩
  all_goals simp only [upd_same, upd_other D (show 0 ≠ 2 by decide), upd_other D (show 4 ≠ 2 by decide), upd_other D (show 5 ≠ 2 by decide), upd_other D (show 6 ≠ 2 by decide), upd_other D (show 7 ≠ 2 by decide), upd_other D (show 8 ≠ 2 by decide), upd_other D (show 9 ≠ 2 by decide), n7, n8, n9]
  · intro _ e; cases e
  · exact fun _ _ => hown
  · intro a _
    obtain ⟨p4, e4, k4⟩ := h.s4 a n7
    exact ⟨p4, e4, own_keepT k4 fun k cs _ ho _ => hk8 k cs ho⟩
  · intro a _
    obtain ⟨p5, e5, k5⟩ := h.s5 a n7
    exact ⟨p5, e5, own_keepT k5 fun k cs _ ho _ => hk8 k cs ho⟩
  · intro a _
    obtain ⟨q, e6, k6, m6⟩ := h.s6 a n7
    refine ⟨q, e6, hk q _ _ k6 ?_, fun _ e => by cases e⟩
    rintro rfl
    exact m6 h0 hD (by rw [e0]; rfl)
  all_goals first | exact fun _ => h0 | exact h.o6 | (intro e; cases e)
/-- What the last append is given. -/
theorem ClS.ask7 (h : ClS N rows b zs M w0 D g w) (hD : D 7 = false) (h6 : D 6 = true) : ∃ p4 p5 q, g 4 = .slice (some ⟨p4, 0, none⟩) 1 1 ∧ g 5 = .slice (some ⟨p5, 0, none⟩) zs.length zs.length ∧ g 6 = .slice (some ⟨q, 0, none⟩) 2 2 ∧
    Sl eC w.heap.size w (.slice (some ⟨q, 0, none⟩) 2 2) [(⟨some ⟨p4, 0, none⟩, 1, [b]⟩ : RowC), ⟨some ⟨p5, 0, none⟩, zs.length, zs⟩] := by
  obtain ⟨h4, h5⟩ := h.o6 h6
  obtain ⟨p4, e4, k4⟩ := h.s4 h4 hD
  obtain ⟨p5, e5, k5⟩ := h.s5 h5 hD
  obtain ⟨q, e6, k6, -⟩ := h.s6 h6 hD
  refine ⟨p4, p5, q, e4, e5, e6, some ⟨q, 0, none⟩, 2, rfl, Nat.le_refl _, fun _ => ⟨q, 0, rfl, (Array.getElem?_eq_some_iff.1 k6).1, fun j x hx => ?_⟩⟩
  have hr : Rowed w q 34 #[g 4, g 5] := k6
  rw [Nat.zero_add, hr.cell, e4, e5]
  rcases j with _ | _ | j
  · simp at hx; subst hx; rfl
  · simp at hx; subst hx; rfl
  · simp at hx
theorem ClS.op7 (h : ClS N rows b zs M w0 D g w) (hD : D 7 = false) (h2 : D 2 = true) (h6 : D 6 = true) (hR : ∀ p ∈ rows, Sl eB N w0 (eC p) p.bs) {v : Value} {p4 p5 : Nat} (e4 : g 4 = .slice (some ⟨p4, 0, none⟩) 1 1) (e5 : g 5 = .slice (some ⟨p5, 0, none⟩) zs.length zs.length)
    (hown : w'.ownsRow N 34 1 v (rows.length + 2) ((rows ++ [(⟨some ⟨p4, 0, none⟩, 1, [b]⟩ : RowC), ⟨some ⟨p5, 0, none⟩, zs.length, zs⟩]).map eC)) (hg : w.grownBy w' (g 2).ownBlock) :
    ClS N rows b zs M w0 (upd D 7) (fun j => if j = 7 then v else g j) w' := by
  have n8 := h.n87 hD
  have n9 := h.n98 n8
  have k2 := h.s2 h2 hD
  obtain ⟨h4, h5⟩ := h.o6 h6
  obtain ⟨p4', e4', k4⟩ := h.s4 h4 hD
  obtain ⟨p5', e5', k5⟩ := h.s5 h5 hD
  obtain rfl : p4 = p4' := by rw [e4] at e4'; injection e4' with e; injection e with e; injection e
  obtain rfl : p5 = p5' := by rw [e5] at e5'; injection e5' with e; injection e with e; injection e
  have hk8 : ∀ (k : Nat) (cs : Array Value), w.heap[k]? = some (.cells cs 5 (0, 0)) → w'.heap[k]? = some (.cells cs 5 (0, 0)) := fun k cs ho => (hg.block k (Array.getElem?_eq_some_iff.1 ho).1 fun e2 => by
    obtain ⟨-, cs2, h3⟩ := own_tag k2 e2.symm
    rw [ho] at h3
    cases h3).trans ho
  have hB : Below N w w' := (Below.refl N w).grown hg h.big fun q hq => (k2.lt q hq).1
  have hb := h.bel.trans hB
  have hbig := Nat.le_trans h.big hB.size
  refine ⟨hb, hbig, ?_, ?_, ?_, ?_, ?_, ?_, ?_, ?_, ?_, ?_, ?_, ?_, ?_⟩
  all_goals simp only [upd_same, upd_other D (show 0 ≠ 7 by decide), upd_other D (show 2 ≠ 7 by decide), upd_other D (show 4 ≠ 7 by decide), upd_other D (show 5 ≠ 7 by decide), upd_other D (show 6 ≠ 7 by decide), upd_other D (show 8 ≠ 7 by decide), upd_other D (show 9 ≠ 7 by decide), n8, n9]
  · intro a c; rw [h2] at c; cases c
  · intro _ e; cases e
  · intro _ e; cases e
  · intro _ e; cases e
  · intro _ e; cases e
  · intro _ _
    refine ⟨⟨some ⟨p4, 0, none⟩, 1, [b]⟩, ⟨some ⟨p5, 0, none⟩, zs.length, zs⟩, rfl, rfl, Sl.of_own hown, fun p hp => ?_⟩
    rcases List.mem_append.1 hp with hp | hp
    · exact ((hR p hp).below hb).more hbig
    · simp only [List.mem_cons, List.not_mem_nil, or_false] at hp
      rcases hp with rfl | rfl
      · exact Sl.of_own (own_keepT k4 fun k cs _ ho _ => hk8 k cs ho)
      · exact Sl.of_own (own_keepT k5 fun k cs _ ho _ => hk8 k cs ho)
  all_goals first | exact h.o2 | exact h.o6 | exact fun _ => ⟨h2, h6⟩ | (intro e; cases e)
theorem ClS.put8 (h : ClS N rows b zs M w0 D g w) (hD : D 8 = false) (h7 : D 7 = true) {A : Option Addr} {c : Nat} : ClS N rows b zs M w0 (upd D 8) (fun j => if j = 8 then .slice A M c else g j) w := by
  have n9 := h.n98 hD
  refine ⟨h.bel, h.big, ?_, ?_, ?_, ?_, ?_, ?_, ?_, ?_, ?_, ?_, ?_, ?_, ?_⟩
  all_goals simp only [upd_same, upd_other D (show 0 ≠ 8 by decide), upd_other D (show 2 ≠ 8 by decide), upd_other D (show 4 ≠ 8 by decide), upd_other D (show 5 ≠ 8 by decide), upd_other D (show 6 ≠ 8 by decide), upd_other D (show 7 ≠ 8 by decide), upd_other D (show 9 ≠ 8 by decide), n9]
  · exact h.s0
  · exact h.s2
  · exact h.s4
  · exact h.s5
  · exact h.s6
  · intro _ e; cases e
  · exact fun _ => ⟨A, c, rfl⟩
  all_goals first | exact h.o2 | exact h.o6 | exact h.o7 | exact fun _ => h7 | (intro e; cases e)
theorem ClS.put9 (h : ClS N rows b zs M w0 D g w) (h8 : D 8 = true) : ClS N rows b zs M w0 (upd D 9) (fun j => if j = 9 then g 8 else g j) w := by
  refine ⟨h.bel, h.big, ?_, ?_, ?_, ?_, ?_, ?_, ?_, ?_, ?_, ?_, ?_, ?_, ?_⟩
  all_goals simp only [upd_same, upd_other D (show 0 ≠ 9 by decide), upd_other D (show 2 ≠ 9 by decide), upd_other D (show 4 ≠ 9 by decide), upd_other D (show 5 ≠ 9 by decide), upd_other D (show 6 ≠ 9 by decide), upd_other D (show 7 ≠ 9 by decide), upd_other D (show 8 ≠ 9 by decide)]
  · exact h.s0
  · exact h.s2
  · exact h.s4
  · exact h.s5
  · exact h.s6
  · exact h.s7
  · exact h.s8
  · exact fun _ => rfl
  · exact h.o2
  · exact h.o6
  · exact h.o7
  · exact h.o8
  · exact fun _ => h8
end
end Go.Proofs.YtgblkcddhnigaaaDoor
