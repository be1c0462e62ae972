/- A region that draws its order, lays two blocks, one behind the other, and calls a function last. Of no program. -/
import Derived.Test.YtapbfjbjbcpiiaaDoorGC
namespace Go.Proofs.YtapbfjbjbcpiiaaDoor
open Go.RowKit

/-- The world while operations i1, i2 (which lay blocks) and iC (the call) are done, or not. -/
def BlkS (i1 i2 iC i4 : Nat) (W0 W1 W2 : World) (R : World → Value → Prop) (D : Nat → Bool) (g : Value × Value) (w : World) : Prop :=
  ((D i4 = true → D iC = true) ∧ (D i4 = true → g.2 = g.1)) ∧ (D i2 = true → D i1 = true) ∧ (D iC = true → D i2 = true) ∧ (D iC = true → R w g.1) ∧ (D iC = false → w = if D i2 = true then W2 else if D i1 = true then W1 else W0)
section
variable {i1 i2 iC i4 : Nat} {W0 W1 W2 : World} {R : World → Value → Prop} {D : Nat → Bool} {g : Value × Value} {w : World}
theorem BlkS.start (h1 : D i1 = false) (h2 : D i2 = false) (h3 : D iC = false) (h4 : D i4 = false) : BlkS i1 i2 iC i4 W0 W1 W2 R D g W0 :=
  ⟨⟨(fun h => by rw [h4] at h; cases h), (fun h => by rw [h4] at h; cases h)⟩, (fun h => by rw [h2] at h; cases h), (fun h => by rw [h3] at h; cases h), (fun h => by rw [h3] at h; cases h), (fun _ => by rw [h1, h2]; simp)⟩
theorem BlkS.other (h : BlkS i1 i2 iC i4 W0 W1 W2 R D g w) {i : Nat} (n1 : i1 ≠ i) (n2 : i2 ≠ i) (n3 : iC ≠ i) (n4 : i4 ≠ i) : BlkS i1 i2 iC i4 W0 W1 W2 R (upd D i) g w := by
  unfold BlkS
  rw [upd_other D n1, upd_other D n2, upd_other D n3, upd_other D n4]
  exact h
theorem BlkS.below {B : Nat} {w0 : World} (h : BlkS i1 i2 iC i4 W0 W1 W2 R D g w) (b0 : Below B w0 W0) (b1 : Below B w0 W1) (b2 : Below B w0 W2) (bR : ∀ w g, R w g → Below B w0 w) : Below B w0 w := by
  cases hc : D iC with
  | true => exact bR _ _ (h.2.2.2.1 hc)
  | false =>
    rw [h.2.2.2.2 hc]
    split
    · exact b2
    · split
      · exact b1
      · exact b0
variable {P : Program} {md : Region.Mode} {ops : Array Oper} {A : Value × Value → Act} {i : Nat} {o : Oper}
theorem gb_op (n : (i != i1 && i != i2 && i != iC && i != i4) = true)
    (hrun : ∀ D g w, BlkS i1 i2 iC i4 W0 W1 W2 R D g w → if Region.wanted o (yielded ops (A g).tmps) = true then o.wp P (A g) w (fun a' w' => a' = A g ∧ w' = w) (fun _ _ _ => False) else (A g).put o.dst undef = A g) :
    GhOk P md ops (BlkS i1 i2 iC i4 W0 W1 W2 R) A i o := by
  simp only [Bool.and_eq_true, bne_iff_ne, ne_eq] at n
  obtain ⟨⟨⟨n1, n2⟩, n3⟩, n4⟩ := n
  refine gh_same fun D g w _ hdep hS => ?_
  have h := hrun D g w hS
  split
  · rename_i hw
    rw [if_pos hw] at h
    exact Oper.wp_mono (fun a' w' ⟨e, e2⟩ => ⟨e, by rw [e2]; exact hS.other (Ne.symm n1) (Ne.symm n2) (Ne.symm n3) (Ne.symm n4)⟩) h
  · rename_i hw
    rw [if_neg hw] at h
    exact ⟨h, hS.other (Ne.symm n1) (Ne.symm n2) (Ne.symm n3) (Ne.symm n4)⟩
theorem upd_self (D : Nat → Bool) (i : Nat) : upd D i i = true := by simp [upd]
theorem gb_first (hi : i = i1) (n2 : i2 ≠ i1) (n3 : iC ≠ i1) (n4 : i4 ≠ i1) (hw : ∀ g, Region.wanted o (yielded ops (A g).tmps) = true)
    (hrun : ∀ g, o.wp P (A g) W0 (fun a' w' => a' = A g ∧ w' = W1) (fun _ _ _ => False)) : GhOk P md ops (BlkS i1 i2 iC i4 W0 W1 W2 R) A i o := by
  subst hi
  refine gh_same fun D g w hD hdep hS => ?_
  obtain ⟨⟨h5, h6⟩, h1, h2, h3, h4⟩ := hS
  have d2 : D i2 = false := by
    cases h : D i2 with
    | false => rfl
    | true => rw [h1 h] at hD; cases hD
  have d3 : D iC = false := by
    cases h : D iC with
    | false => rfl
    | true => rw [h2 h] at d2; cases d2
  obtain rfl : w = W0 := by rw [h4 d3, d2, hD]; simp
  rw [if_pos (hw g)]
  refine Oper.wp_mono (fun a' w' ⟨e, e2⟩ => ⟨e, ?_⟩) (hrun g)
  unfold BlkS
  rw [upd_other D n2, upd_other D n3, upd_other D n4, upd_self, d2, d3, e2]
  rw [d3] at h5
  exact ⟨⟨h5, h6⟩, fun h => (by cases h), fun h => (by cases h), fun h => (by cases h), fun _ => by simp⟩
theorem gb_second (hi : i = i2) (n1 : i1 ≠ i2) (n3 : iC ≠ i2) (n4 : i4 ≠ i2) (hw : ∀ g, Region.wanted o (yielded ops (A g).tmps) = true) (hk : (o.after.any fun e => Region.binds md e && decide (e.on = i1)) = true)
    (hrun : ∀ g, o.wp P (A g) W1 (fun a' w' => a' = A g ∧ w' = W2) (fun _ _ _ => False)) : GhOk P md ops (BlkS i1 i2 iC i4 W0 W1 W2 R) A i o := by
  subst hi
  refine gh_same fun D g w hD hdep hS => ?_
  obtain ⟨⟨h5, h6⟩, h1, h2, h3, h4⟩ := hS
  have d1 := dep_on hdep hk
  have d3 : D iC = false := by
    cases h : D iC with
    | false => rfl
    | true => rw [h2 h] at hD; cases hD
  obtain rfl : w = W1 := by rw [h4 d3, hD, d1]; simp
  rw [if_pos (hw g)]
  refine Oper.wp_mono (fun a' w' ⟨e, e2⟩ => ⟨e, ?_⟩) (hrun g)
  unfold BlkS
  rw [upd_other D n1, upd_other D n3, upd_other D n4, upd_self, d1, d3, e2]
  rw [d3] at h5
  exact ⟨⟨h5, h6⟩, fun _ => rfl, fun h => (by cases h), fun h => (by cases h), fun _ => by simp⟩
theorem gb_call {s : Tmp} (hi : ops[i]? = some o) (hic : i = iC) (n1 : i1 ≠ iC) (n2 : i2 ≠ iC) (n4 : i4 ≠ iC) (hd : o.dst = some s) (hA : ∀ (g : Value × Value) v, A (v, g.2) = (A g).put (some s) v) (hw : ∀ g, Region.wanted o (yielded ops (A g).tmps) = true) (hk : (o.after.any fun e => Region.binds md e && decide (e.on = i2)) = true)
    (hrun : ∀ g, o.wp P (A g) W2 (fun a' w' => ∃ v, a' = (A g).put (some s) v ∧ R w' v) (fun _ _ _ => False)) : GhOk P md ops (BlkS i1 i2 iC i4 W0 W1 W2 R) A i o := by
  subst hic
  intro D g w hD hdep hS
  obtain ⟨⟨h5, h6⟩, h1, h2, h3, h4⟩ := hS
  have d2 := dep_on hdep hk
  obtain rfl : w = W2 := by rw [h4 hD, d2]; simp
  rw [if_pos (hw g)]
  refine Oper.wp_mono (fun a' w' ⟨v, e, hR⟩ => ?_) (hrun g)
  refine ⟨(v, g.2), ?_, ?_, ?_, ?_⟩
  · rw [hA g v, e]
  · intro s' _
    rw [e, hA g v]
  · intro s' hs'
    rw [hA g v]
    have hne : s ≠ s' := by
      rintro rfl
      have := hs' i o hi hd
      rw [hD] at this
      cases this
    simp only [Act.put]
    rw [Array.getElem?_setIfInBounds_ne hne]
  · unfold BlkS
    have d4 : D i4 = false := by
      cases h : D i4 with
      | false => rfl
      | true => rw [h5 h] at hD; cases hD
    rw [upd_other D n1, upd_other D n2, upd_other D n4, upd_self, d2, h1 d2, d4]
    exact ⟨⟨fun h => (by cases h), fun h => (by cases h)⟩, fun _ => rfl, fun _ => rfl, fun _ => hR, fun h => (by cases h)⟩
/-- The last operation: what was called is assigned. -/
theorem gb_last {s : Tmp} (hi : ops[i]? = some o) (hi4 : i = i4) (n1 : i1 ≠ i4) (n2 : i2 ≠ i4) (n3 : iC ≠ i4) (hd : o.dst = some s) (hA : ∀ (g : Value × Value), A (g.1, g.1) = (A g).put (some s) g.1) (hw : ∀ g, Region.wanted o (yielded ops (A g).tmps) = true) (hk : (o.after.any fun e => Region.binds md e && decide (e.on = iC)) = true)
    (hrun : ∀ g w, o.wp P (A g) w (fun a' w' => a' = (A g).put (some s) g.1 ∧ w' = w) (fun _ _ _ => False)) : GhOk P md ops (BlkS i1 i2 iC i4 W0 W1 W2 R) A i o := by
  subst hi4
  intro D g w hD hdep hS
  obtain ⟨⟨h5, h6⟩, h1, h2, h3, h4⟩ := hS
  have d3 := dep_on hdep hk
  rw [if_pos (hw g)]
  refine Oper.wp_mono (fun a' w' ⟨e, e2⟩ => ?_) (hrun g w)
  refine ⟨(g.1, g.1), ?_, ?_, ?_, ?_⟩
  · rw [hA g, e]
  · intro s' _
    rw [e, hA g]
  · intro s' hs'
    rw [hA g]
    have hne : s ≠ s' := by
      rintro rfl
      have := hs' i o hi hd
      rw [hD] at this
      cases this
    simp only [Act.put]
    rw [Array.getElem?_setIfInBounds_ne hne]
  · unfold BlkS
    rw [upd_other D n1, upd_other D n2, upd_other D n3, upd_self, d3, e2]
    exact ⟨⟨fun _ => rfl, fun _ => rfl⟩, h1, fun _ => h2 d3, fun _ => h3 d3, fun h => (by cases h)⟩
end
end Go.Proofs.YtapbfjbjbcpiiaaDoor
