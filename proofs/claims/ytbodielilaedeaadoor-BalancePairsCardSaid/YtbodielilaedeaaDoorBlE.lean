/- Contract of balance.Flip. -/
import Derived.Test.YtbodielilaedeaaDoorBlD
namespace Go.Proofs.YtbodielilaedeaaDoor
open Go.RowKit Go.Shelf
attribute [local go_sem] Oper.semAt_some run_store_func

set_option maxRecDepth 100000 in
set_option maxHeartbeats 2000000 in
theorem Flip1_any (sv v0 : Value) (bs : List UInt8) (k : Int) (b1 b2 b3 : Nat) (hreach : bs.length ≤ 17592186044416) (w : World) (hS : Sl eB w.heap.size w sv bs) (hT : Tab w) (hO : TabO w)
    (h1 : w.cell? ⟨b1, 0, none⟩ = some sv) (h2 : w.cell? ⟨b2, 0, none⟩ = some (.int .i64 k)) (h3 : Boxed w b3 22 v0) :
    Calls Tryd.prog 18 #[.pointer (some ⟨b1, 0, none⟩), .pointer (some ⟨b2, 0, none⟩), .pointer (some ⟨b3, 0, none⟩)] w fun e W' =>
      (∃ v w1, e = .returned (.tuple #[]) ∧ Below w.heap.size w w1 ∧ (-1 : Int) ∉ codesOf bs ∧ Fresh w.heap.size v ∧ Sl eB w1.heap.size w1 v (flipOf bs k) ∧ W' = w1.setCell ⟨b3, 0, none⟩ v) ∨
      (e = .panicked [{ v := .iface 25 (.int .i64 10), recovered := false }] ∧ Below w.heap.size w W' ∧ (-1 : Int) ∈ codesOf bs) := by
  go_enter Tryd.func18, Tryd.ntmps18
  go_wp2_with fail
  go_at_call 19
  refine (flipped_any sv bs k hreach _ w hS (Nat.le_refl _) hT hO).mono ?_
  rintro e w1 ⟨hB, ⟨v, rfl, hfine, hfr, hv⟩ | ⟨rfl, hbad⟩⟩
  · obtain ⟨A, cap, rfl⟩ := hv.len
    have h3' : Boxed w1 b3 22 v0 := (hB.block b3 h3.lt).trans h3
    have hc := h3'.cell
    have hf := h3'.frozen
    go_wp2
    go_end0
    exact .inl ⟨_, w1, rfl, hB, hfine, hfr, hv, rfl⟩
  · go_wp2
    exact ⟨rfl, .inr ⟨rfl, hB, hbad⟩⟩

set_option maxRecDepth 100000 in
set_option maxHeartbeats 2000000 in
theorem caughtF (sv v0 : Value) (bs : List UInt8) (k : Int) (b1 b2 b3 : Nat) (hreach : bs.length ≤ 17592186044416) (w : World) (hS : Sl eB w.heap.size w sv bs) (hT : Tab w) (hO : TabO w)
    (h1 : w.cell? ⟨b1, 0, none⟩ = some sv) (h2 : w.cell? ⟨b2, 0, none⟩ = some (.int .i64 k)) (hl1 : b1 < w.heap.size) (hl2 : b2 < w.heap.size) (h3 : Boxed w b3 22 v0) :
    Calls Tryd.prog 17 #[.func (.func 18) #[] #[.pointer (some ⟨b1, 0, none⟩), .pointer (some ⟨b2, 0, none⟩), .pointer (some ⟨b3, 0, none⟩)]] w fun e W' =>
      (∃ v w1, e = .returned (.int .i64 0) ∧ Below w.heap.size w w1 ∧ (-1 : Int) ∉ codesOf bs ∧ Fresh (w.heap.size + 1) v ∧ Sl eB w1.heap.size w1 v (flipOf bs k) ∧ W' = (w1.setCell ⟨b3, 0, none⟩ v).setCell ⟨w.heap.size, 0, none⟩ (.int .i64 0)) ∨
      (∃ w1, e = .returned (.int .i64 10) ∧ Below w.heap.size w w1 ∧ (-1 : Int) ∈ codesOf bs ∧ W' = w1.setCell ⟨w.heap.size, 0, none⟩ (.int .i64 10)) := by
  have hmf : ∀ (fn : Fn) (first cap : Array Value) (w : World), (Instr.makeFunc fn first cap).run Tryd.prog w = .ok (.func fn first cap) w := fun _ _ _ _ => rfl
  have hA := (Below.refl w.heap.size w).alloc (Nat.le_refl _) (.cells #[.int .i64 0] 25)
  have hb0 := Boxed.new w 25 (.int .i64 0)
  go_enter_defers Tryd.func17, Tryd.ntmps17
  go_wp2_with fail
  go_at_call 18
  refine (Flip1_any sv v0 bs k b1 b2 b3 hreach _ (hS.next hA) (hT.below hA) (hO.below hA) ((hA.cell (p := ⟨b1, 0, none⟩) hl1).trans h1) ((hA.cell (p := ⟨b2, 0, none⟩) hl2).trans h2) (h3.alloc _)).mono ?_
  have hb0l := hb0.lt
  rintro e w1 (⟨v, w2, rfl, hB, hfine, hfr, hv, rfl⟩ | ⟨rfl, hB, hbad⟩)
  · have hb3l := h3.lt
    have hb2 : Boxed (w2.setCell ⟨b3, 0, none⟩ v) w.heap.size 25 (.int .i64 0) := Boxed.kept (W := w2) ((hB.block w.heap.size hb0l).trans hb0) (grownBy_setCellAt w2 b3 0 v) (by simp; omega)
    have hc := hb2.cell
    have hf := hb2.frozen
    go_wp2
    refine leaves_cons (f := 24) (args := #[.pointer (some ⟨w.heap.size, 0, none⟩)]) (by simp) (by simp [go_sem]) ?_
    refine (catch_idle ⟨w.heap.size, 0, none⟩ _).mono ?_
    rintro e u' w'' ⟨rfl, rfl, rfl⟩
    have hc5 := (hb2.set (.int .i64 0)).cell
    have hB' : Below w.heap.size w w2 := hA.trans (hB.mono (by simp))
    refine ⟨.int .i64 0, ?_, .inl ⟨v, w2, rfl, hB', hfine, hfr.mono (by simp), hv, rfl⟩⟩
    simp [results, Tryd.f17, go_sem, hc5]
  · have hb2 : Boxed w1 w.heap.size 25 (.int .i64 0) := (hB.block w.heap.size hb0l).trans hb0
    have hc := hb2.cell
    have hf := hb2.frozen
    go_wp2
    refine leaves_cons (f := 24) (args := #[.pointer (some ⟨w.heap.size, 0, none⟩)]) (by simp) (by simp [go_sem]) ?_
    refine (catch_take w.heap.size 10 _ w1 hc hf).mono ?_
    rintro e u' w'' ⟨rfl, rfl, rfl⟩
    have hc5 := (hb2.set (.int .i64 10)).cell
    have hB' : Below w.heap.size w w1 := hA.trans (hB.mono (by simp))
    refine ⟨.int .i64 10, ?_, .inr ⟨w1, rfl, hB', hbad, rfl⟩⟩
    simp [results, Tryd.f17, go_sem, hc5]

set_option maxRecDepth 100000 in
set_option maxHeartbeats 2000000 in
theorem Flip_any (sv : Value) (bs : List UInt8) (k : Int) (hreach : bs.length ≤ 17592186044416) (w : World) (hS : Sl eB w.heap.size w sv bs) (hT : Tab w) (hO : TabO w) :
    Calls Tryd.prog 11 #[sv, .int .i64 k] w fun e W' => Below w.heap.size w W' ∧
      ((∃ v, e = .returned (.tuple #[v, .int .i64 0]) ∧ (-1 : Int) ∉ codesOf bs ∧ Fresh w.heap.size v ∧ Sl eB W'.heap.size W' v (flipOf bs k)) ∨
       (e = .returned (.tuple #[.slice none 0 0, .int .i64 10]) ∧ (-1 : Int) ∈ codesOf bs)) := by
  obtain ⟨A, cap, rfl⟩ := hS.len
  go_enter Tryd.func11, Tryd.ntmps11
  obtain ⟨W0, hW0⟩ : ∃ W0, ((w.alloc (Obj.cells #[Value.slice A bs.length cap] 22)).alloc (Obj.cells #[Value.int IntKind.i64 k] 3)).alloc (Obj.cells #[Value.slice none 0 0] 22) = W0 := ⟨_, rfl⟩
  have hs0 : W0.heap.size = w.heap.size + 3 := by rw [← hW0]; simp
  have hB0 : Below w.heap.size w W0 := by rw [← hW0]; exact (((Below.refl _ w).alloc (Nat.le_refl _) _).alloc (by simp) _).alloc (by simp; omega) _
  have b1 : Boxed W0 w.heap.size 22 (Value.slice A bs.length cap) := by rw [← hW0]; exact ((Boxed.new w _ _).alloc _).alloc _
  have b2 : Boxed W0 (w.heap.size + 1) 3 (Value.int IntKind.i64 k) := by
    rw [← hW0]
    have := (Boxed.new (w.alloc (Obj.cells #[Value.slice A bs.length cap] 22)) 3 (Value.int IntKind.i64 k)).alloc (Obj.cells #[Value.slice none 0 0] 22)
    rw [World.size_alloc] at this
    exact this
  have b3 : Boxed W0 (w.heap.size + 1 + 1) 22 (Value.slice none 0 0) := by
    rw [← hW0]
    have := Boxed.new ((w.alloc (Obj.cells #[Value.slice A bs.length cap] 22)).alloc (Obj.cells #[Value.int IntKind.i64 k] 3)) 22 (Value.slice none 0 0)
    rw [World.size_alloc, World.size_alloc] at this
    exact this
  go_wp2_with fail
  go_at_call 17
  refine (caughtF _ _ bs k w.heap.size (w.heap.size + 1) (w.heap.size + 1 + 1) hreach W0 (hS.next hB0) (hT.below hB0) (hO.below hB0) b1.cell b2.cell b1.lt b2.lt b3).mono ?_
  rintro e W' (⟨v, w1, rfl, hB, hfine, hfr, hv, rfl⟩ | ⟨w1, rfl, hB, hbad, rfl⟩)
  · have hb3 : Boxed w1 (w.heap.size + 1 + 1) 22 (Value.slice none 0 0) := (hB.block _ b3.lt).trans b3
    have hb3' : Boxed ((w1.setCell ⟨w.heap.size + 1 + 1, 0, none⟩ v).setCell ⟨W0.heap.size, 0, none⟩ (.int .i64 0)) (w.heap.size + 1 + 1) 22 v :=
      Boxed.kept (W := w1.setCell ⟨w.heap.size + 1 + 1, 0, none⟩ v) (hb3.set v) (grownBy_setCellAt _ W0.heap.size 0 _) (by simp; omega)
    have hc := hb3'.cell
    have hBw : Below w.heap.size w ((w1.setCell ⟨w.heap.size + 1 + 1, 0, none⟩ v).setCell ⟨W0.heap.size, 0, none⟩ (.int .i64 0)) :=
      ((below_trans hB0 hB).setCell (p := ⟨w.heap.size + 1 + 1, 0, none⟩) (by simp; omega) v).setCell (p := ⟨W0.heap.size, 0, none⟩) (by simp; omega) _
    have hvw : Sl eB ((w1.setCell ⟨w.heap.size + 1 + 1, 0, none⟩ v).setCell ⟨W0.heap.size, 0, none⟩ (.int .i64 0)).heap.size ((w1.setCell ⟨w.heap.size + 1 + 1, 0, none⟩ v).setCell ⟨W0.heap.size, 0, none⟩ (.int .i64 0)) v (flipOf bs k) :=
      ((hv.other hfr (w.heap.size + 1 + 1) 0 v (by omega)).other hfr W0.heap.size 0 (.int .i64 0) (by omega)).more (by simp)
    clear hW0 hv
    generalize World.setCell _ _ _ = W2 at *
    go_wp2
    go_ret2
    exact ⟨hBw, .inl ⟨v, rfl, hfine, hfr.mono (by omega), hvw⟩⟩
  · have hb3 : Boxed w1 (w.heap.size + 1 + 1) 22 (Value.slice none 0 0) := (hB.block _ b3.lt).trans b3
    have hb3' : Boxed (w1.setCell ⟨W0.heap.size, 0, none⟩ (.int .i64 10)) (w.heap.size + 1 + 1) 22 (Value.slice none 0 0) :=
      Boxed.kept (W := w1) hb3 (grownBy_setCellAt _ W0.heap.size 0 _) (by simp; omega)
    have hc := hb3'.cell
    have hBw : Below w.heap.size w (w1.setCell ⟨W0.heap.size, 0, none⟩ (.int .i64 10)) :=
      (below_trans hB0 hB).setCell (p := ⟨W0.heap.size, 0, none⟩) (by simp; omega) _
    clear hW0
    generalize World.setCell _ _ _ = W2 at *
    go_wp2
    go_ret2
    exact ⟨hBw, .inr ⟨rfl, hbad⟩⟩
end Go.Proofs.YtbodielilaedeaaDoor
