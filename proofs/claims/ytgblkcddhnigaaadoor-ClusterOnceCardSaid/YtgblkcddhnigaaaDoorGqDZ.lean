import Derived.Test.YtgblkcddhnigaaaDoorGqCZ
namespace Go.Proofs.YtgblkcddhnigaaaDoor
open Go.RowKit
structure SoS (N : Nat) (xs ys : List RowC) (one : RowC) (w0 : World) (old : Value) (D : Nat → Bool) (g : Nat → Value) (w : World) : Prop where
  bel : Below N w0 w
  big : N ≤ w.heap.size
  s0 : D 0 = true → D 4 = false → ∃ p, g 0 = .slice (some ⟨p, 0, none⟩) 0 0 ∧ w.ownsRow N 34 1 (.slice (some ⟨p, 0, none⟩) 0 0) 0 []
  s4 : D 4 = true → D 7 = false → w.ownsRow N 34 1 (g 4) xs.length (xs.map eC)
  s6 : D 6 = true → D 7 = false → ∃ q, g 6 = .slice (some ⟨q, 0, none⟩) 1 1 ∧ w.heap[q]? = some (.cells #[eC one] 34 (0, 0)) ∧ (D 0 = true → D 4 = false → (g 0).ownBlock ≠ some q)
  s7 : D 7 = true → D 11 = false → w.ownsRow N 34 1 (g 7) (xs.length + 1) ((xs ++ [one]).map eC)
  s11 : D 11 = true → w.ownsRow N 34 1 (g 11) (xs.length + 1 + ys.length) ((xs ++ [one] ++ ys).map eC)
  s12 : D 12 = true → g 12 = g 11
  o4 : D 4 = true → D 0 = true
  o7 : D 7 = true → D 4 = true ∧ D 6 = true
  o11 : D 11 = true → D 7 = true
  o12 : D 12 = true → D 11 = true
  b12 : D 12 = false → g 12 = old
  q12 : D 12 = true → D 1 = true ∧ D 8 = true
section
variable {N : Nat} {xs ys : List RowC} {one : RowC} {w0 w w' : World} {old : Value} {D : Nat → Bool} {g : Nat → Value}
theorem upd_up {D : Nat → Bool} {i j : Nat} (h : D j = true) : upd D i j = true := by
 by_cases e : j = i
 · subst e; exact upd_same D j
 · rw [upd_other D e]; exact h
theorem SoS.n40 (h : SoS N xs ys one w0 old D g w) (hD : D 0 = false) : D 4 = false := bool_no fun e => by rw [h.o4 e] at hD; cases hD
theorem SoS.n74 (h : SoS N xs ys one w0 old D g w) (hD : D 4 = false) : D 7 = false := bool_no fun e => by rw [(h.o7 e).1] at hD; cases hD
theorem SoS.n76 (h : SoS N xs ys one w0 old D g w) (hD : D 6 = false) : D 7 = false := bool_no fun e => by rw [(h.o7 e).2] at hD; cases hD
theorem SoS.n117 (h : SoS N xs ys one w0 old D g w) (hD : D 7 = false) : D 11 = false := bool_no fun e => by rw [h.o11 e] at hD; cases hD
theorem SoS.n12 (h : SoS N xs ys one w0 old D g w) (hD : D 11 = false) : D 12 = false := bool_no fun e => by rw [h.o12 e] at hD; cases hD
theorem SoS.belw (h : SoS N xs ys one w0 old D g w) (hb : Below w.heap.size w w') : SoS N xs ys one w0 old D g w' :=
 ⟨h.bel.trans (hb.mono h.big), Nat.le_trans h.big hb.size, fun a c => by obtain ⟨p, e, k⟩ := h.s0 a c; exact ⟨p, e, ownsRow_below k hb⟩, fun a c => ownsRow_below (h.s4 a c) hb,
  fun a c => by obtain ⟨q, e, k, m⟩ := h.s6 a c; exact ⟨q, e, (hb.block q (Array.getElem?_eq_some_iff.1 k).1).trans k, m⟩,
  fun a c => ownsRow_below (h.s7 a c) hb, fun a => ownsRow_below (h.s11 a) hb, h.s12, h.o4, h.o7, h.o11, h.o12, h.b12, h.q12⟩
theorem SoS.keep {i : Nat} (h : SoS N xs ys one w0 old D g w) (h0 : 0 ≠ i) (h4 : 4 ≠ i) (h6 : 6 ≠ i) (h7 : 7 ≠ i) (h11 : 11 ≠ i) (h12 : 12 ≠ i) : SoS N xs ys one w0 old (upd D i) g w := by
 refine ⟨h.bel, h.big, ?_, ?_, ?_, ?_, ?_, ?_, ?_, ?_, ?_, ?_, ?_, fun e => ⟨upd_up (h.q12 (by rwa [upd_other D h12] at e)).1, upd_up (h.q12 (by rwa [upd_other D h12] at e)).2⟩⟩
 all_goals simp only [upd_other D h0, upd_other D h4, upd_other D h6, upd_other D h7, upd_other D h11, upd_other D h12]
 · exact h.s0
 · exact h.s4
 · exact h.s6
 · exact h.s7
 · exact h.s11
 · exact h.s12
 · exact h.o4
 · exact h.o7
 · exact h.o11
 · exact h.o12
 · exact h.b12
theorem SoS.put0 (h : SoS N xs ys one w0 old D g w) (hD : D 0 = false) (p : Nat) (hown : w.ownsRow N 34 1 (.slice (some ⟨p, 0, none⟩) 0 0) 0 []) (hne : ∀ q, D 6 = true → g 6 = .slice (some ⟨q, 0, none⟩) 1 1 → p ≠ q) :
    SoS N xs ys one w0 old (upd D 0) (fun j => if j = 0 then .slice (some ⟨p, 0, none⟩) 0 0 else g j) w := by
  have n4 := h.n40 hD
  have n7 := h.n74 n4
  have n11 := h.n117 n7
  have n12 := h.n12 n11
  refine ⟨h.bel, h.big, ?_, ?_, ?_, ?_, ?_, ?_, ?_, ?_, ?_, ?_, ?_, fun e => ⟨upd_up (h.q12 (by rwa [upd_other D (show 12 ≠ 0 by decide)] at e)).1, upd_up (h.q12 (by rwa [upd_other D (show 12 ≠ 0 by decide)] at e)).2⟩⟩
  all_goals simp only [upd_same, upd_other D (show 4 ≠ 0 by decide), upd_other D (show 6 ≠ 0 by decide), upd_other D (show 7 ≠ 0 by decide), upd_other D (show 11 ≠ 0 by decide), upd_other D (show 12 ≠ 0 by decide), n4, n7, n11, n12]
  · exact fun _ _ => ⟨p, rfl, hown⟩
  · intro e; cases e
  · intro a _
    obtain ⟨q, e, k, -⟩ := h.s6 a n7
    exact ⟨q, e, k, fun _ _ e2 => hne q a e (Option.some.inj e2)⟩
  all_goals first | exact fun _ => h.b12 n12 | (intro e; cases e)
theorem SoS.put6 (h : SoS N xs ys one w0 old D g w) (hD : D 6 = false) (q : Nat) (hq : w.heap[q]? = some (.cells #[eC one] 34 (0, 0))) (hne : D 0 = true → D 4 = false → (g 0).ownBlock ≠ some q) :
    SoS N xs ys one w0 old (upd D 6) (fun j => if j = 6 then .slice (some ⟨q, 0, none⟩) 1 1 else g j) w := by
  have n7 := h.n76 hD
  have n11 := h.n117 n7
  have n12 := h.n12 n11
  refine ⟨h.bel, h.big, ?_, ?_, ?_, ?_, ?_, ?_, ?_, ?_, ?_, ?_, ?_, fun e => ⟨upd_up (h.q12 (by rwa [upd_other D (show 12 ≠ 6 by decide)] at e)).1, upd_up (h.q12 (by rwa [upd_other D (show 12 ≠ 6 by decide)] at e)).2⟩⟩
  all_goals simp only [upd_same, upd_other D (show 0 ≠ 6 by decide), upd_other D (show 4 ≠ 6 by decide), upd_other D (show 7 ≠ 6 by decide), upd_other D (show 11 ≠ 6 by decide), upd_other D (show 12 ≠ 6 by decide), n7, n11, n12]
  · exact h.s0
  · exact fun a _ => h.s4 a n7
  · exact fun _ _ => ⟨q, rfl, hq, hne⟩
  all_goals first | exact h.o4 | exact fun _ => h.b12 n12 | (intro e; cases e)
theorem SoS.op4 (h : SoS N xs ys one w0 old D g w) (hD : D 4 = false) (h0 : D 0 = true) {v : Value} (hown : w'.ownsRow N 34 1 v xs.length (xs.map eC)) (hg : w.grownBy w' (g 0).ownBlock) :
    SoS N xs ys one w0 old (upd D 4) (fun j => if j = 4 then v else g j) w' := by
  have n7 := h.n74 hD
  have n11 := h.n117 n7
  have n12 := h.n12 n11
  obtain ⟨p, e0, k0⟩ := h.s0 h0 hD
  have hk : ∀ (k : Nat) (cs : Array Value) (e : TypeId), w.heap[k]? = some (.cells cs e (0, 0)) → k ≠ p → w'.heap[k]? = some (.cells cs e (0, 0)) := fun k cs e ho hne => (hg.block k (Array.getElem?_eq_some_iff.1 ho).1 fun e2 => by
   rw [e0] at e2
   exact hne (Option.some.inj e2)).trans ho
  obtain ⟨hNp, csp, htag⟩ := own_tag k0 (k := p) rfl
  have hB : Below N w w' := (Below.refl N w).grown hg h.big fun q hq => by
   rw [e0] at hq
   have : p = q := Option.some.inj hq
   omega
  refine ⟨h.bel.trans hB, Nat.le_trans h.big hB.size, ?_, ?_, ?_, ?_, ?_, ?_, ?_, ?_, ?_, ?_, ?_, fun e => ⟨upd_up (h.q12 (by rwa [upd_other D (show 12 ≠ 4 by decide)] at e)).1, upd_up (h.q12 (by rwa [upd_other D (show 12 ≠ 4 by decide)] at e)).2⟩⟩
  all_goals simp only [upd_same, upd_other D (show 0 ≠ 4 by decide), upd_other D (show 6 ≠ 4 by decide), upd_other D (show 7 ≠ 4 by decide), upd_other D (show 11 ≠ 4 by decide), upd_other D (show 12 ≠ 4 by decide), n7, n11, n12]
  · intro _ e; cases e
  · exact fun _ _ => hown
  · intro a _
    obtain ⟨q, e6, k6, m6⟩ := h.s6 a n7
    refine ⟨q, e6, hk q _ _ k6 ?_, fun _ e => by cases e⟩
    rintro rfl
    exact m6 h0 hD (by rw [e0]; rfl)
  all_goals first | exact fun _ => h0 | exact fun _ => h.b12 n12 | (intro e; cases e)
theorem SoS.ask7 (h : SoS N xs ys one w0 old D g w) (hD : D 7 = false) (h6 : D 6 = true) : ∃ q, g 6 = .slice (some ⟨q, 0, none⟩) 1 1 ∧ Sl eC w.heap.size w (.slice (some ⟨q, 0, none⟩) 1 1) [one] := by
 obtain ⟨q, e6, k6, -⟩ := h.s6 h6 hD
 refine ⟨q, e6, some ⟨q, 0, none⟩, 1, rfl, Nat.le_refl _, fun _ => ⟨q, 0, rfl, (Array.getElem?_eq_some_iff.1 k6).1, fun j x hx => ?_⟩⟩
 have hr : Rowed w q 34 #[eC one] := k6
 rw [Nat.zero_add, hr.cell]
 rcases j with _ | j
 · simp at hx; subst hx; rfl
 · simp at hx
theorem SoS.op7 (h : SoS N xs ys one w0 old D g w) (hD : D 7 = false) (h4 : D 4 = true) (h6 : D 6 = true) {v : Value} (hown : w'.ownsRow N 34 1 v (xs.length + 1) ((xs ++ [one]).map eC)) (hg : w.grownBy w' (g 4).ownBlock) :
    SoS N xs ys one w0 old (upd D 7) (fun j => if j = 7 then v else g j) w' := by
  have n11 := h.n117 hD
  have n12 := h.n12 n11
  have k4 := h.s4 h4 hD
  have hB : Below N w w' := (Below.refl N w).grown hg h.big fun q hq => (k4.lt q hq).1
  refine ⟨h.bel.trans hB, Nat.le_trans h.big hB.size, ?_, ?_, ?_, ?_, ?_, ?_, ?_, ?_, ?_, ?_, ?_, fun e => ⟨upd_up (h.q12 (by rwa [upd_other D (show 12 ≠ 7 by decide)] at e)).1, upd_up (h.q12 (by rwa [upd_other D (show 12 ≠ 7 by decide)] at e)).2⟩⟩
  all_goals simp only [upd_same, upd_other D (show 0 ≠ 7 by decide), upd_other D (show 4 ≠ 7 by decide), upd_other D (show 6 ≠ 7 by decide), upd_other D (show 11 ≠ 7 by decide), upd_other D (show 12 ≠ 7 by decide), n11, n12]
  · intro _ c; rw [h4] at c; cases c
  · intro _ e; cases e
  · intro _ e; cases e
  · exact fun _ _ => hown
  all_goals first | exact h.o4 | exact fun _ => ⟨h4, h6⟩ | exact fun _ => h.b12 n12 | (intro e; cases e)
theorem SoS.op11 (h : SoS N xs ys one w0 old D g w) (hD : D 11 = false) (h7 : D 7 = true) {v : Value} (hown : w'.ownsRow N 34 1 v (xs.length + 1 + ys.length) ((xs ++ [one] ++ ys).map eC)) (hg : w.grownBy w' (g 7).ownBlock) :
    SoS N xs ys one w0 old (upd D 11) (fun j => if j = 11 then v else g j) w' := by
  have n12 := h.n12 hD
  have k7 := h.s7 h7 hD
  obtain ⟨h4, h6⟩ := h.o7 h7
  have hB : Below N w w' := (Below.refl N w).grown hg h.big fun q hq => (k7.lt q hq).1
  refine ⟨h.bel.trans hB, Nat.le_trans h.big hB.size, ?_, ?_, ?_, ?_, ?_, ?_, ?_, ?_, ?_, ?_, ?_, fun e => ⟨upd_up (h.q12 (by rwa [upd_other D (show 12 ≠ 11 by decide)] at e)).1, upd_up (h.q12 (by rwa [upd_other D (show 12 ≠ 11 by decide)] at e)).2⟩⟩
  all_goals simp only [upd_same, upd_other D (show 0 ≠ 11 by decide), upd_other D (show 4 ≠ 11 by decide), upd_other D (show 6 ≠ 11 by decide), upd_other D (show 7 ≠ 11 by decide), upd_other D (show 12 ≠ 11 by decide), n12]
  · intro _ c; rw [h4] at c; cases c
  · intro _ c; rw [h7] at c; cases c
  · intro _ c; rw [h7] at c; cases c
  · intro _ e; cases e
  · exact fun _ => hown
  all_goals first | exact h.o4 | exact h.o7 | exact fun _ => h7 | exact fun _ => h.b12 n12 | (intro e; cases e)
theorem SoS.put12 (h : SoS N xs ys one w0 old D g w) (h11 : D 11 = true) (h1 : D 1 = true) (h8 : D 8 = true) : SoS N xs ys one w0 old (upd D 12) (fun j => if j = 12 then g 11 else g j) w := by
 refine ⟨h.bel, h.big, ?_, ?_, ?_, ?_, ?_, ?_, ?_, ?_, ?_, ?_, ?_, fun _ => ⟨upd_up h1, upd_up h8⟩⟩
 all_goals simp only [upd_same, upd_other D (show 0 ≠ 12 by decide), upd_other D (show 4 ≠ 12 by decide), upd_other D (show 6 ≠ 12 by decide), upd_other D (show 7 ≠ 12 by decide), upd_other D (show 11 ≠ 12 by decide)]
 · exact h.s0
 · exact h.s4
 · exact h.s6
 · exact h.s7
 · exact h.s11
 · exact fun _ => rfl
 · exact h.o4
 · exact h.o7
 · exact h.o11
 · exact fun _ => h11
 · intro e; cases e
end
end Go.Proofs.YtgblkcddhnigaaaDoor
