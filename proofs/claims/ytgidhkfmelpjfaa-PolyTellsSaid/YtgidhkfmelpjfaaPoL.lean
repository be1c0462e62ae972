/- What holds of memory while the division goes on. -/
import Derived.Test.YtgidhkfmelpjfaaPoK
namespace Go.Proofs.Ytgidhkfmelpjfaa
open Go.RowKit Go.Shelf

theorem Own8.setc {B : Nat} {W : World} {v : Value} {bs : List UInt8} (h : Own8 B W v bs) (b j : Nat) (u : Value) (hb : b < B) : Own8 B (W.setCell ⟨b, j, none⟩ u) v bs :=
  World.ownsRow.kept h (grownBy_setCellAt W b j u) (by
    cases hv : v.ownBlock with
    | none => exact .inl rfl
    | some k => exact .inr (fun e => by have h1 := (World.ownsRow.lt h k hv).1; cases e; omega))
theorem Own8.grow {B : Nat} {W W' : World} {v : Value} {bs : List UInt8} (h : Own8 B W v bs) (hB : Below W.heap.size W W') : Own8 B W' v bs :=
  World.ownsRow.kept h (row := none) ⟨hB.os, hB.tape, hB.output, hB.size, fun k hk _ => hB.block k hk⟩ (by
    cases hv : v.ownBlock with
    | none => exact .inl rfl
    | some k => exact .inr (fun e => by cases e))
theorem Rowed.set_other {W : World} {g b : Nat} {t : TypeId} {cs : Array Value} (h : Rowed W g t cs) (j : Nat) (u : Value) (hne : g ≠ b) : Rowed (W.setCell ⟨b, j, none⟩ u) g t cs :=
  (Below.heap_setCell _ _ _ _ hne).trans h
theorem Keep.rowed {B g b : Nat} {W W' : World} {t : TypeId} {cs : Array Value} (h : Keep B g W W') (hb : Rowed W b t cs) (h1 : b < B) (h2 : b ≠ g) : Rowed W' b t cs := (h.2 b h1 h2).trans hb
theorem Box3.keep {n g b : Nat} {x y z : Value} {W W' : World} (h : Box3 b x y z W) (hk : Keep n g W W') (hn : W.heap.size ≤ n) (hg : b + 3 ≤ g) : Box3 b x y z W' := by
  have h1 := h.1.lt
  have h2 := h.2.1.lt
  have h3 := h.2.2.lt
  exact ⟨hk.boxed h.1 (by omega) (by omega), hk.boxed h.2.1 (by omega) (by omega), hk.boxed h.2.2 (by omega) (by omega)⟩
theorem Sl.keep {B n g : Nat} {W W' : World} {A : Option Addr} {l c : Nat} {q : List UInt8} (h : Sl eB B W (.slice A l c) q) (hk : Keep n g W W') (hB : B ≤ n) (hne : ∀ a, A = some a → a.block ≠ g) : Sl eB B W' (.slice A l c) q := by
  obtain ⟨A', c', e, hc, hcs⟩ := h
  injection e with e1 e2 e3
  subst e1 e3
  refine ⟨A, c, by rw [e2], hc, fun h0 => ?_⟩
  obtain ⟨b, off, ea, hb, hcell⟩ := hcs h0
  refine ⟨b, off, ea, hb, fun j x hx => ?_⟩
  exact (hk.cell (p := ⟨b, off + j, none⟩) (by show b < n; omega) (show b ≠ g from hne ⟨b, off, none⟩ ea)).trans (hcell j x hx)

/-- The marks of ds have been taken, and nothing else. -/
def Taken (ds : List Nat) (W W' : World) : Prop := (W'.os = W.os ∧ W'.tape = W.tape ∧ W'.output = W.output ∧ W'.heap.size = W.heap.size) ∧ ∀ k, k ∉ ds → W'.heap[k]? = W.heap[k]?
theorem Marks.taken {F : Fence} {n : Nat} {P : Program} {fn : Func} {tmps : Array Value} {R : Ending → World → Prop} {u : FrameMode} (hu : u ≠ .run) (B : Nat) (rest : List Deferred) :
    ∀ (ds : List Nat) (W : World), Marks ds B W → (∀ W', Taken ds W W' → LeavesInM F n P fn tmps R rest u W') → LeavesInM F n P fn tmps R (ds.map markD ++ rest) u W := by
  intro ds
  induction ds with
  | nil => intro W _ h; exact h W ⟨⟨rfl, rfl, rfl, rfl⟩, fun _ _ => rfl⟩
  | cons d ds ih =>
    intro W hm h
    obtain ⟨h1, h2⟩ := hm.2 d (by simp)
    refine ⟨hu, .inl ⟨d, _, rfl, run_takeDeferred h2, ih _ ⟨(List.nodup_cons.1 hm.1).2, fun e he => ⟨(hm.2 e (by simp [he])).1, ?_⟩⟩ fun W' hW => h W' ?_⟩⟩
    · have hne : e ≠ d := fun x => (List.nodup_cons.1 hm.1).1 (x ▸ he)
      exact (World.putObj_heap_other hne).trans (hm.2 e (by simp [he])).2
    · refine ⟨⟨hW.1.1, hW.1.2.1, hW.1.2.2.1, hW.1.2.2.2.trans (by simp [World.putObj])⟩, fun k hk => ?_⟩
      rw [List.mem_cons, not_or] at hk
      exact (hW.2 k hk.2).trans (World.putObj_heap_other hk.1)
theorem Taken.cell {ds : List Nat} {B : Nat} {W W' : World} (h : Taken ds W W') (hm : Marks ds B W) {a : Addr} {v : Value} (hc : W.cell? a = some v) : W'.cell? a = some v := by
  by_cases hk : a.block ∈ ds
  · have h2 := (hm.2 _ hk).2
    simp [World.cell?, h2] at hc
  · exact (World.cell?_of_block (h.2 _ hk)).trans hc
theorem Taken.sl {ds : List Nat} {B B' : Nat} {W W' : World} (h : Taken ds W W') (hm : Marks ds B W) {v : Value} {q : List UInt8} (hs : Sl eB B' W v q) : Sl eB B' W' v q := by
  obtain ⟨A, c, e, hc, hcs⟩ := hs
  refine ⟨A, c, e, hc, fun h0 => ?_⟩
  obtain ⟨b, off, ea, hb, hcell⟩ := hcs h0
  exact ⟨b, off, ea, hb, fun j x hx => h.cell hm (hcell j x hx)⟩
theorem Taken.below {ds : List Nat} {B b : Nat} {W W' : World} (h : Taken ds W W') (hm : Marks ds B W) (hb : b ≤ B) : Below b W W' :=
  ⟨h.1.1, h.1.2.1, h.1.2.2.1, Nat.le_of_eq h.1.2.2.2.symm, fun k hk => h.2 k (fun hd => by have := (hm.2 k hd).1; omega)⟩
theorem Taken.boxed {ds : List Nat} {B b : Nat} {W W' : World} (h : Taken ds W W') (hm : Marks ds B W) {ty : TypeId} {x : Value} (hb : Boxed W b ty x) : Boxed W' b ty x :=
  (h.2 b (fun hd => by have h2 := (hm.2 b hd).2; rw [show W.heap[b]? = _ from hb] at h2; cases h2)).trans hb

/-- The division's memory: the boxes, both rows, the divisor, the marks. -/
def DivI (w : World) (B6 gq gr k1 P1 M : Nat) (t : Array Value) (A2 : Option Addr) (k2 : Nat) (q1 : List UInt8) (S : (Nat → UInt8) × (Nat → UInt8)) (ds : List Nat) (W : World) : Prop :=
  Box3 w.heap.size (.slice (some ⟨gq, 0, none⟩) (M + 1) (M + 1)) (.slice (some ⟨gr, 0, none⟩) P1 k1) (.int .i64 0) W ∧ Rowed W gq 5 (cellsF S.1 (M + 1)) ∧ Rowed W gr 5 (cellsT S.2 P1 t) ∧
  Sl eB B6 W (.slice A2 q1.length k2) q1 ∧ Marks ds B6 W ∧ Below w.heap.size w W ∧ B6 ≤ W.heap.size
section
variable {w : World} {B6 gq gr k1 P1 M : Nat} {t : Array Value} {A2 : Option Addr} {k2 : Nat} {q1 : List UInt8} {S : (Nat → UInt8) × (Nat → UInt8)} {ds : List Nat} {W W' : World}
theorem DivI.below (h : DivI w B6 gq gr k1 P1 M t A2 k2 q1 S ds W) (hB : Below W.heap.size W W') : DivI w B6 gq gr k1 P1 M t A2 k2 q1 S ds W' := by
  obtain ⟨h1, h2, h3, h4, h5, h6, h7⟩ := h
  have hs := hB.size
  refine ⟨h1.below hB, h2.below hB h2.lt, h3.below hB h3.lt, h4.below (hB.mono h7), ⟨h5.1, fun d hd => ⟨(h5.2 d hd).1, (hB.block d (Array.getElem?_eq_some_iff.1 (h5.2 d hd).2).1).trans (h5.2 d hd).2⟩⟩, below_trans h6 hB, by omega⟩
theorem DivI.box (h : DivI w B6 gq gr k1 P1 M t A2 k2 q1 S ds W) {bn : Nat} {ty : TypeId} {x : Value} (hb : Boxed W bn ty x) (y : Value) (h1 : gq < bn) (h2 : gr < bn) (h3 : w.heap.size + 3 ≤ bn) (hne : ∀ a, A2 = some a → a.block ≠ bn) : DivI w B6 gq gr k1 P1 M t A2 k2 q1 S ds (W.setCell ⟨bn, 0, none⟩ y) := by
  obtain ⟨i1, i2, i3, i4, i5, i6, i7⟩ := h
  have hk : Keep W.heap.size bn W (W.setCell ⟨bn, 0, none⟩ y) := keep_set _ _ _ _ _
  refine ⟨i1.keep hk (Nat.le_refl _) h3, hk.rowed i2 i2.lt (by omega), hk.rowed i3 i3.lt (by omega), i4.keep hk i7 hne, ⟨i5.1, fun d hd => ⟨(i5.2 d hd).1, ?_⟩⟩, i6.setCell (p := ⟨bn, 0, none⟩) (by show w.heap.size ≤ bn; omega) y, by simpa [World.setCell] using i7⟩
  refine (hk.2 d (Array.getElem?_eq_some_iff.1 (i5.2 d hd).2).1 (fun e => ?_)).trans (i5.2 d hd).2
  have e1 := (i5.2 d hd).2
  rw [e, show W.heap[bn]? = _ from hb] at e1
  cases e1
theorem DivI.quot (h : DivI w B6 gq gr k1 P1 M t A2 k2 q1 S ds W) (n : Nat) (c : UInt8) (h2 : gr < gq) (h3 : w.heap.size + 3 ≤ gq) (h4 : gq < B6) (hne : ∀ a, A2 = some a → a.block ≠ gq) : DivI w B6 gq gr k1 P1 M t A2 k2 q1 (fun k => if k = n then c else S.1 k, S.2) ds (W.setCell ⟨gq, n, none⟩ (eB c)) := by
  obtain ⟨i1, i2, i3, i4, i5, i6, i7⟩ := h
  have hk : Keep W.heap.size gq W (W.setCell ⟨gq, n, none⟩ (eB c)) := keep_set _ _ _ _ _
  have hs := i2.set n (eB c)
  rw [cellsF_set] at hs
  exact ⟨i1.keep hk (Nat.le_refl _) h3, hs, hk.rowed i3 i3.lt (by omega), i4.keep hk i7 hne, i5.keep hk (Nat.le_refl _) h4, i6.setCell (p := ⟨gq, n, none⟩) (by show w.heap.size ≤ gq; omega) _, by simpa [World.setCell] using i7⟩
theorem DivI.rest (h : DivI w B6 gq gr k1 P1 M t A2 k2 q1 S ds W) {n : Nat} (hk : Keep n gr W W') (hn : W.heap.size ≤ n) (f : Nat → UInt8) (hr : Rowed W' gr 5 (cellsT f P1 t)) (h2 : gr < gq) (h3 : w.heap.size + 3 ≤ gr) (h4 : gq < B6) (hne : ∀ a, A2 = some a → a.block ≠ gr) : DivI w B6 gq gr k1 P1 M t A2 k2 q1 (S.1, f) ds W' := by
  obtain ⟨i1, i2, i3, i4, i5, i6, i7⟩ := h
  have h2' := i2.lt
  have hsz := keep_size hk
  exact ⟨i1.keep hk hn h3, hk.rowed i2 (by omega) (by omega), hr, i4.keep hk (by omega) hne, i5.keep hk hn (by omega), below_of_keep hk i6 (by omega) (by omega), by omega⟩
theorem DivI.mark (h : DivI w B6 gq gr k1 P1 M t A2 k2 q1 S ds W) {D : Nat} (hD : W.heap[D]? = some (.deferred (some []))) (hB : B6 ≤ D) (hn : ∀ d ∈ ds, d < D) : DivI w B6 gq gr k1 P1 M t A2 k2 q1 S (D :: ds) W := by
  obtain ⟨i1, i2, i3, i4, i5, i6, i7⟩ := h
  exact ⟨i1, i2, i3, i4, i5.cons hB hD hn, i6, i7⟩
theorem DivI.marks_lt (h : DivI w B6 gq gr k1 P1 M t A2 k2 q1 S ds W) : ∀ d ∈ ds, d < W.heap.size := fun d hd => (Array.getElem?_eq_some_iff.1 (h.2.2.2.2.1.2 d hd).2).1
end
end Go.Proofs.Ytgidhkfmelpjfaa
