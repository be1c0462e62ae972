/- A region that draws the order of calls that return a row: what each returned is a ghost. Of no program. -/
import Derived.Test.YtgblkcddhnigaaaDoorGH
namespace Go.Proofs.YtgblkcddhnigaaaDoor
open Go.RowKit

/-- What a row holds: bytes, or numbers. -/
inductive Rw where
  | b (l : List UInt8)
  | i (l : List Int)
def Rw.is : Rw → World → Value → Prop
  | .b l, w, v => Sl eB w.heap.size w v l
  | .i l, w, v => Sl eI w.heap.size w v l
theorem Rw.is_next {r : Rw} {w w' : World} {v : Value} (h : r.is w v) (hB : Below w.heap.size w w') : r.is w' v := by
  cases r with
  | b l => exact Sl.next h hB
  | i l => exact Sl.next h hB
/-- What holds while the calls of the list are made: (operation, what the row holds). -/
def CallS (cs : List (Nat × Rw)) (w0 : World) (D : Nat → Bool) (g : Nat → Value) (w : World) : Prop :=
  Below w0.heap.size w0 w ∧ ∀ c ∈ cs, D c.1 = true → c.2.is w (g c.1)
theorem CallS.start {cs : List (Nat × Rw)} {w0 : World} {D : Nat → Bool} {g : Nat → Value} (h : ∀ c ∈ cs, D c.1 = false) : CallS cs w0 D g w0 :=
  ⟨Below.refl _ _, fun c hc hd => by rw [h c hc] at hd; cases hd⟩
theorem CallS.keep {cs : List (Nat × Rw)} {w0 w w' : World} {D : Nat → Bool} {g : Nat → Value} {i : Nat} (h : CallS cs w0 D g w) (h1 : (cs.all fun c => c.1 != i) = true) (hB : Below w.heap.size w w') : CallS cs w0 (upd D i) g w' := by
  refine ⟨below_trans h.1 hB, fun c hc hd => ?_⟩
  have h2 := List.all_eq_true.1 h1 c hc
  have h3 : c.1 ≠ i := by simpa using h2
  rw [upd_other D h3] at hd
  exact Rw.is_next (h.2 c hc hd) hB
theorem CallS.same {cs : List (Nat × Rw)} {w0 w : World} {D : Nat → Bool} {g : Nat → Value} {i : Nat} (h : CallS cs w0 D g w) (h1 : (cs.all fun c => c.1 != i) = true) : CallS cs w0 (upd D i) g w := h.keep h1 (Below.refl _ _)
/-- An operation that must stand behind is done. -/
theorem dep_on {md : Region.Mode} {o : Oper} {D : Nat → Bool} {k : Nat} (h : (o.after.all fun e => !Region.binds md e || D e.on) = true) (hk : (o.after.any fun e => Region.binds md e && decide (e.on = k)) = true) : D k = true := by
  obtain ⟨j, hj, h2⟩ := Array.any_iff_exists.1 hk
  obtain ⟨h3, h4⟩ := h2
  simp only [Bool.and_eq_true, decide_eq_true_eq] at h4
  have h5 := Array.all_eq_true'.1 h o.after[j] (by simp)
  rw [h4.2.2, h4.2.1] at h5
  simpa using h5
section
variable {P : Program} {md : Region.Mode} {ops : Array Oper} {cs : List (Nat × Rw)} {w0 : World} {A : (Nat → Value) → Act} {i : Nat} {o : Oper}
/-- A call whose row is a ghost. -/
theorem gc_call {s : Tmp} {r : Rw} (hi : ops[i]? = some o) (hd : o.dst = some s) (hcs : ∀ c ∈ cs, c.1 = i → c.2 = r)
    (hA : ∀ g v, A (fun j => if j = i then v else g j) = (A g).put (some s) v) (hw : ∀ g, Region.wanted o (yielded ops (A g).tmps) = true)
    (hrun : ∀ D g w, (o.after.all fun e => !Region.binds md e || D e.on) = true → CallS cs w0 D g w → o.wp P (A g) w (fun a' w' => ∃ v, a' = (A g).put (some s) v ∧ r.is w' v ∧ Below w.heap.size w w') (fun _ _ _ => False)) : GhOk P md ops (CallS cs w0) A i o := by
  intro D g w hD hdep hS
  rw [if_pos (hw g)]
  refine Oper.wp_mono (fun a' w' ⟨v, e, hv, hB⟩ => ?_) (hrun D g w hdep hS)
  obtain ⟨h1, h2⟩ := hS
  refine ⟨fun j => if j = i then v else g j, ?_, ?_, ?_, below_trans h1 hB, fun c hc hdc => ?_⟩
  · rw [hA, e]
  · intro s' _
    rw [e, hA]
  · intro s' hs'
    rw [hA]
    have hne : s ≠ s' := by
      rintro rfl
      have := hs' i o hi hd
      rw [hD] at this
      cases this
    simp only [Act.put]
    rw [Array.getElem?_setIfInBounds_ne hne]
  · by_cases e1 : c.1 = i
    · simp only [if_pos e1, hcs c hc e1]
      exact hv
    · simp only [if_neg e1]
      rw [upd_other D e1] at hdc
      exact Rw.is_next (h2 c hc hdc) hB
/-- An operation whose value is known. -/
theorem gc_op (h1 : (cs.all fun c => c.1 != i) = true)
    (hrun : ∀ D g w, (o.after.all fun e => !Region.binds md e || D e.on) = true → CallS cs w0 D g w →
      if Region.wanted o (yielded ops (A g).tmps) = true then o.wp P (A g) w (fun a' w' => a' = A g ∧ Below w.heap.size w w') (fun _ _ _ => False) else (A g).put o.dst undef = A g) : GhOk P md ops (CallS cs w0) A i o := by
  refine gh_same fun D g w _ hdep hS => ?_
  have h := hrun D g w hdep hS
  split
  · rename_i hw
    rw [if_pos hw] at h
    exact Oper.wp_mono (fun a' w' ⟨e, hB⟩ => ⟨e, hS.keep h1 hB⟩) h
  · rename_i hw
    rw [if_neg hw] at h
    exact ⟨h, hS.same h1⟩
/-- A conversion of a row that a call returned. -/
theorem gc_conv (src dst : TypeId) (x : Operand) (ho : o.op = .convert src dst x) (v : Value) (h1 : (cs.all fun c => c.1 != i) = true) (hw : ∀ g, Region.wanted o (yielded ops (A g).tmps) = true)
    (hrun : ∀ D g w, (o.after.all fun e => !Region.binds md e || D e.on) = true → CallS cs w0 D g w → (convert src dst ((A g).eval x)).run P w = .ok v w) (hput : ∀ g, (A g).put o.dst v = A g) : GhOk P md ops (CallS cs w0) A i o := by
  refine gc_op h1 fun D g w hdp h => ?_
  rw [if_pos (hw g)]
  unfold Oper.wp execOp
  simp only [ho, Sem.run_bind, Result.andThen_ok, hrun D g w hdp h, Sem.run_pure]
  exact ⟨hput g, Below.refl _ _⟩
end
end Go.Proofs.YtgblkcddhnigaaaDoor
