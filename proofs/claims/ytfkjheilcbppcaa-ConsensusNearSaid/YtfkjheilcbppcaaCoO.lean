/- What holds while consensus.Of's last region runs. (Seat s27.) -/
import Derived.Test.YtfkjheilcbppcaaCoL
import Derived.Test.YtfkjheilcbppcaaGC
namespace Go.Proofs.Ytfkjheilcbppcaa
open Go.RowKit Go.Maps

theorem ownsRow_keep {X Y : World} {base : Nat} {e : TypeId} {size k : Nat} {v : Value} {xs : List Value} (h : X.ownsRow base e size v k xs) (hk : ∀ g cur, X.heap[g]? = some (.cells cur e (0, 0)) → base ≤ g → Y.heap[g]? = X.heap[g]?) : Y.ownsRow base e size v k xs := by
  refine ⟨h.1, ?_⟩
  rcases h.2 with ⟨h1, h2⟩ | ⟨g', cap', cur, h1, h2, h3, h4⟩
  · exact .inl ⟨h1, h2⟩
  · exact .inr ⟨_, _, cur, h1, h2, (hk g' _ h3 h2).trans h3, h4⟩
theorem ownsRow_below {X Y : World} {base : Nat} {e : TypeId} {size k : Nat} {v : Value} {xs : List Value} (h : X.ownsRow base e size v k xs) (hb : Below X.heap.size X Y) : Y.ownsRow base e size v k xs :=
  ownsRow_keep h fun g _ ho _ => hb.block g (Array.getElem?_eq_some_iff.1 ho).1
theorem ownsRow_base {X : World} {base base' : Nat} {e : TypeId} {size k : Nat} {v : Value} {xs : List Value} (h : X.ownsRow base e size v k xs) (hb : base' ≤ base) : X.ownsRow base' e size v k xs := by
  refine ⟨h.1, ?_⟩
  rcases h.2 with ⟨h1, h2⟩ | ⟨g', cap', cur, h1, h2, h3, h4⟩
  · exact .inl ⟨h1, h2⟩
  · exact .inr ⟨_, _, cur, h1, Nat.le_trans hb h2, h3, h4⟩
theorem bool_no {b : Bool} (h : b = true → False) : b = false := by cases b <;> first | rfl | exact (h rfl).elim
def OfS (N n : Nat) (R : List RowC) (Y : List UInt8) (w1 : World) (D : Nat → Bool) (g : Nat → Value) (w : World) : Prop :=
  Below N w1 w ∧ (D 1 = true → D 7 = false → ∃ p, g 1 = .slice (some ⟨p, 0, none⟩) 0 n ∧ N ≤ p ∧ w.ownsRow N 5 1 (.slice (some ⟨p, 0, none⟩) 0 n) 0 []) ∧ (D 4 = true → D 7 = false → w.ownsRow N 23 1 (g 4) R.length (R.map eC)) ∧
    (D 6 = true → D 7 = false → ∃ q, g 6 = .func (.func 30) #[] #[.pointer (some ⟨q + 1, 0, none⟩), .pointer (some ⟨q, 0, none⟩)] ∧ N ≤ q ∧ Boxed w q 22 (g 4) ∧ Boxed w (q + 1) 3 (.int .i64 n)) ∧
    (D 7 = true → w.ownsRow N 5 1 (g 7) Y.length (Y.map eB)) ∧ (D 8 = true → g 8 = g 7) ∧ (D 6 = true → D 4 = true) ∧ (D 7 = true → D 1 = true ∧ D 6 = true) ∧ (D 8 = true → D 7 = true)
section
variable {N n : Nat} {R : List RowC} {Y : List UInt8} {w1 : World} {D : Nat → Bool} {g : Nat → Value} {w : World}
theorem OfS.keep {i : Nat} (h : OfS N n R Y w1 D g w) (h1 : i ≠ 1) (h4 : i ≠ 4) (h6 : i ≠ 6) (h7 : i ≠ 7) (h8 : i ≠ 8) : OfS N n R Y w1 (upd D i) g w := by
  unfold OfS
  rw [upd_other D (Ne.symm h1), upd_other D (Ne.symm h4), upd_other D (Ne.symm h6), upd_other D (Ne.symm h7), upd_other D (Ne.symm h8)]
  exact h
theorem OfS.op1 (h : OfS N n R Y w1 D g w) (hD : D 1 = false) {w' : World} (hown : w'.ownsRow N 5 1 (.slice (some ⟨w.heap.size, 0, none⟩) 0 n) 0 []) (hg : w.grownBy w' none) (hN : N ≤ w1.heap.size) :
    OfS N n R Y w1 (upd D 1) (fun k => if k = 1 then .slice (some ⟨w.heap.size, 0, none⟩) 0 n else g k) w' := by
  obtain ⟨a, b, c, d, e, f, p, q, r⟩ := h
  have n7 : D 7 = false := bool_no fun h => by rw [(q h).1] at hD; cases hD
  have n8 : D 8 = false := bool_no fun h => by rw [r h] at n7; cases n7
  have hs := a.size
  have hB : Below w.heap.size w w' := ⟨hg.os, hg.tape, hg.output, hg.size, fun k hk => hg.block k hk (by simp)⟩
  unfold OfS
  rw [upd_same, upd_other D (show 4 ≠ 1 by decide), upd_other D (show 6 ≠ 1 by decide), upd_other D (show 7 ≠ 1 by decide), upd_other D (show 8 ≠ 1 by decide), n7, n8]
  refine ⟨a.trans (hB.mono (by omega)), fun _ _ => ⟨w.heap.size, rfl, by omega, hown⟩, fun h1 _ => ownsRow_below (c h1 n7) hB, fun h1 _ => ?_, ?_, ?_, p, ?_, ?_⟩
  · obtain ⟨t, k1, k2, k3, k4⟩ := d h1 n7
    exact ⟨t, k1, k2, (hB.block t k3.lt).trans k3, (hB.block _ k4.lt).trans k4⟩
  all_goals (intro h; cases h)
theorem OfS.op4 (h : OfS N n R Y w1 D g w) (hD : D 4 = false) {v : Value} {w' : World} (hown : w'.ownsRow w.heap.size 23 1 v R.length (R.map eC)) (hB : Below w.heap.size w w') (hN : N ≤ w1.heap.size) :
    OfS N n R Y w1 (upd D 4) (fun k => if k = 4 then v else g k) w' := by
  obtain ⟨a, b, c, d, e, f, p, q, r⟩ := h
  have n6 : D 6 = false := bool_no fun h => by rw [p h] at hD; cases hD
  have n7 : D 7 = false := bool_no fun h => by rw [(q h).2] at n6; cases n6
  have n8 : D 8 = false := bool_no fun h => by rw [r h] at n7; cases n7
  have hs := a.size
  unfold OfS
  rw [upd_same, upd_other D (show 1 ≠ 4 by decide), upd_other D (show 6 ≠ 4 by decide), upd_other D (show 7 ≠ 4 by decide), upd_other D (show 8 ≠ 4 by decide), n6, n7, n8]
  refine ⟨a.trans (hB.mono (by omega)), fun h1 _ => ?_, fun _ _ => ownsRow_base hown (by omega), ?_, ?_, ?_, ?_, ?_, ?_⟩
  · obtain ⟨t, k1, k2, k3⟩ := b h1 n7
    exact ⟨t, k1, k2, ownsRow_below k3 hB⟩
  all_goals (intro h; cases h)
theorem OfS.op6 (h : OfS N n R Y w1 D g w) (hD : D 6 = false) (h4 : D 4 = true) {q : Nat} {w' : World} (hq : q = w.heap.size) (b1 : Boxed w' q 22 (g 4)) (b2 : Boxed w' (q + 1) 3 (.int .i64 n)) (hB : Below w.heap.size w w') (hN : N ≤ w1.heap.size) :
    OfS N n R Y w1 (upd D 6) (fun k => if k = 6 then .func (.func 30) #[] #[.pointer (some ⟨q + 1, 0, none⟩), .pointer (some ⟨q, 0, none⟩)] else g k) w' := by
  obtain ⟨a, b, c, d, e, f, p, q', r⟩ := h
  have n7 : D 7 = false := bool_no fun h => by rw [(q' h).2] at hD; cases hD
  have n8 : D 8 = false := bool_no fun h => by rw [r h] at n7; cases n7
  have hs := a.size
  unfold OfS
  rw [upd_same, upd_other D (show 1 ≠ 6 by decide), upd_other D (show 4 ≠ 6 by decide), upd_other D (show 7 ≠ 6 by decide), upd_other D (show 8 ≠ 6 by decide), n7, n8]
  refine ⟨a.trans (hB.mono (by omega)), fun h1 _ => ?_, fun h1 _ => ownsRow_below (c h1 n7) hB, fun _ _ => ⟨q, rfl, by omega, b1, b2⟩, ?_, ?_, fun _ => h4, ?_, ?_⟩
  · obtain ⟨t, k1, k2, k3⟩ := b h1 n7
    exact ⟨t, k1, k2, ownsRow_below k3 hB⟩
  all_goals (intro h; cases h)
theorem OfS.op7 (h : OfS N n R Y w1 D g w) (hD : D 7 = false) (h1 : D 1 = true) (h6 : D 6 = true) {v : Value} {w' : World} (hown : w'.ownsRow N 5 1 v Y.length (Y.map eB)) (hB : Below N w w') :
    OfS N n R Y w1 (upd D 7) (fun k => if k = 7 then v else g k) w' := by
  obtain ⟨a, b, c, d, e, f, p, q', r⟩ := h
  have n8 : D 8 = false := bool_no fun h => by rw [r h] at hD; cases hD
  unfold OfS
  rw [upd_same, upd_other D (show 1 ≠ 7 by decide), upd_other D (show 4 ≠ 7 by decide), upd_other D (show 6 ≠ 7 by decide), upd_other D (show 8 ≠ 7 by decide), n8, h1, h6]
  refine ⟨a.trans hB, ?_, ?_, ?_, fun _ => hown, ?_, fun _ => p h6, fun _ => ⟨rfl, rfl⟩, ?_⟩
  · intro _ h; cases h
  · intro _ h; cases h
  · intro _ h; cases h
  all_goals (intro h; cases h)
theorem OfS.op8 (h : OfS N n R Y w1 D g w) (h7 : D 7 = true) : OfS N n R Y w1 (upd D 8) (fun k => if k = 8 then g 7 else g k) w := by
  obtain ⟨a, b, c, d, e, f, p, q, r⟩ := h
  unfold OfS
  rw [upd_same, upd_other D (show 1 ≠ 8 by decide), upd_other D (show 4 ≠ 8 by decide), upd_other D (show 6 ≠ 8 by decide), upd_other D (show 7 ≠ 8 by decide)]
  exact ⟨a, b, c, d, e, fun _ => rfl, p, q, fun _ => h7⟩
theorem OfS.end (h : OfS N n R Y w1 D g w) (h8 : D 8 = true) : Below N w1 w ∧ w.ownsRow N 5 1 (g 8) Y.length (Y.map eB) := by
  obtain ⟨a, -, -, -, e, f, -, -, k⟩ := h
  exact ⟨a, by rw [f h8]; exact e (k h8)⟩
/-- All that the last call asks. -/
theorem OfS.ask (h : OfS N n R Y w1 D g w) (hD : D 7 = false) (h1 : D 1 = true) (h6 : D 6 = true) (hR : ∀ p ∈ R, Sl eB N w1 (eC p) p.bs) (hN : N ≤ w1.heap.size) :
    ∃ p q, g 1 = .slice (some ⟨p, 0, none⟩) 0 n ∧ N ≤ p ∧ w.ownsRow N 5 1 (.slice (some ⟨p, 0, none⟩) 0 n) 0 [] ∧ g 6 = .func (.func 30) #[] #[.pointer (some ⟨q + 1, 0, none⟩), .pointer (some ⟨q, 0, none⟩)] ∧
      ∀ W, Keep w.heap.size p w W → RowsIn W (g 4) R ∧ W.cell? ⟨q + 1, 0, none⟩ = some (.int .i64 n) ∧ W.cell? ⟨q, 0, none⟩ = some (g 4) := by
  obtain ⟨a, b, c, d, -, -, p, -, -⟩ := h
  obtain ⟨p', k1, k2, k3⟩ := b h1 hD
  obtain ⟨q, k4, k5, k6, k7⟩ := d h6 hD
  have k8 := c (p h6) hD
  obtain ⟨-, h0 | ⟨g', cap', cur, e1, -, e3, -⟩⟩ := id k3
  · cases h0.1
  · cases e1
    have hsz := a.size
    have hlt := (Array.getElem?_eq_some_iff.1 e3).1
    refine ⟨p', q, k1, k2, k3, k4, fun W hK => ?_⟩
    have hB : Below N w1 W := a.trans ⟨hK.1.1, hK.1.2.1, hK.1.2.2.1, hK.1.2.2.2, fun k hk => hK.2 k (by omega) (by omega)⟩
    have hne : ∀ (k : Nat) (cs : Array Value) (t : TypeId), w.heap[k]? = some (.cells cs t (0, 0)) → t ≠ 5 → k ≠ p' := by
      rintro k cs t h1 h2 rfl
      rw [e3] at h1
      cases h1
      exact h2 rfl
    refine ⟨RowsIn.of_own (ownsRow_keep k8 fun k cs ho _ => hK.2 k (Array.getElem?_eq_some_iff.1 ho).1 (hne k cs _ ho (by decide))) (fun r hr => ((hR r hr).below hB).more (by have := hB.size; omega)), ?_, ?_⟩
    · exact (Keep.boxed hK k7 k7.lt (hne _ _ _ k7 (by decide))).cell
    · exact (Keep.boxed hK k6 k6.lt (hne _ _ _ k6 (by decide))).cell
end
end Go.Proofs.Ytfkjheilcbppcaa
