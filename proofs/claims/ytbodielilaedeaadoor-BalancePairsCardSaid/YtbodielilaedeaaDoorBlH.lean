/- Contract of balance.Find. -/
import Derived.Test.YtbodielilaedeaaDoorBlG
namespace Go.Proofs.YtbodielilaedeaaDoor
open Go.RowKit Go.Shelf
attribute [local go_sem] Oper.semAt_some run_store_func

/-- Where a row is balanced first. -/
def FindYes (bs : List UInt8) (k : Nat) : Prop := k ≤ bs.length ∧ (-1 : Int) ∉ codesOf bs ∧ 2 * mk bs k = bs.length ∧ ∀ j, j < k → 2 * mk bs j ≠ bs.length
/-- Why it is nowhere. -/
def FindNo (bs : List UInt8) (n : Int) : Prop := (n = 2 ∧ (-1 : Int) ∉ codesOf bs ∧ ∀ k, k ≤ bs.length → 2 * mk bs k ≠ bs.length) ∨ (n = 10 ∧ (-1 : Int) ∈ codesOf bs)

set_option maxRecDepth 100000 in
set_option maxHeartbeats 2000000 in
theorem Find1_any (sv v0 : Value) (bs : List UInt8) (b1 b2 : Nat) (hreach : bs.length ≤ 17592186044416) (w : World) (hS : Sl eB w.heap.size w sv bs) (hT : Tab w) (hO : TabO w)
    (h1 : w.cell? ⟨b1, 0, none⟩ = some sv) (h2 : Boxed w b2 3 v0) :
    Calls Tryd.prog 21 #[.pointer (some ⟨b1, 0, none⟩), .pointer (some ⟨b2, 0, none⟩)] w fun e W' =>
      (∃ k w1, e = .returned (.tuple #[]) ∧ Below w.heap.size w w1 ∧ FindYes bs k ∧ W' = w1.setCell ⟨b2, 0, none⟩ (.int .i64 (k : Nat))) ∨
      (∃ n, e = .panicked [{ v := .iface 25 (.int .i64 n), recovered := false }] ∧ Below w.heap.size w W' ∧ FindNo bs n) := by
  go_enter Tryd.func21, Tryd.ntmps21
  go_wp2_with fail
  go_at_call 22
  refine (find_any sv bs hreach w hS hT hO).mono ?_
  rintro e w1 ⟨hB, ⟨k, hk, rfl, hfine, heq, hleast⟩ | ⟨rfl, hfine, hno⟩ | ⟨rfl, hbad⟩⟩
  · have h2' : Boxed w1 b2 3 v0 := (hB.block b2 h2.lt).trans h2
    have hc := h2'.cell
    have hf := h2'.frozen
    have Hy := Lib.hid (show FindYes bs k from ⟨hk, hfine, heq, hleast⟩)
    clear heq hleast hfine
    go_wp2
    go_end0
    exact .inl ⟨k, w1, rfl, hB, Hy.out, rfl⟩
  · go_wp2
    exact ⟨rfl, .inr ⟨2, rfl, hB, .inl ⟨rfl, hfine, hno⟩⟩⟩
  · go_wp2
    exact ⟨rfl, .inr ⟨10, rfl, hB, .inr ⟨rfl, hbad⟩⟩⟩

set_option maxRecDepth 100000 in
set_option maxHeartbeats 2000000 in
theorem caughtD (sv v0 : Value) (bs : List UInt8) (b1 b2 : Nat) (hreach : bs.length ≤ 17592186044416) (w : World) (hS : Sl eB w.heap.size w sv bs) (hT : Tab w) (hO : TabO w)
    (h1 : w.cell? ⟨b1, 0, none⟩ = some sv) (hl1 : b1 < w.heap.size) (h2 : Boxed w b2 3 v0) :
    Calls Tryd.prog 17 #[.func (.func 21) #[] #[.pointer (some ⟨b1, 0, none⟩), .pointer (some ⟨b2, 0, none⟩)]] w fun e W' =>
      (∃ k w1, e = .returned (.int .i64 0) ∧ Below w.heap.size w w1 ∧ FindYes bs k ∧ W' = (w1.setCell ⟨b2, 0, none⟩ (.int .i64 (k : Nat))).setCell ⟨w.heap.size, 0, none⟩ (.int .i64 0)) ∨
      (∃ n w1, e = .returned (.int .i64 n) ∧ Below w.heap.size w w1 ∧ FindNo bs n ∧ W' = w1.setCell ⟨w.heap.size, 0, none⟩ (.int .i64 n)) := by
  have hmf : ∀ (fn : Fn) (first cap : Array Value) (w : World), (Instr.makeFunc fn first cap).run Tryd.prog w = .ok (.func fn first cap) w := fun _ _ _ _ => rfl
  have hA := (Below.refl w.heap.size w).alloc (Nat.le_refl _) (.cells #[.int .i64 0] 25)
  have hb0 := Boxed.new w 25 (.int .i64 0)
  go_enter_defers Tryd.func17, Tryd.ntmps17
  go_wp2_with fail
  go_at_call 21
  refine (Find1_any sv v0 bs b1 b2 hreach _ (hS.next hA) (hT.below hA) (hO.below hA) ((hA.cell (p := ⟨b1, 0, none⟩) hl1).trans h1) (h2.alloc _)).mono ?_
  have hb0l := hb0.lt
  rintro e w1 (⟨k, w2, rfl, hB, hy, rfl⟩ | ⟨n, rfl, hB, hno⟩)
  · have hb2l := h2.lt
    have hb2 : Boxed (w2.setCell ⟨b2, 0, none⟩ (.int .i64 (k : Nat))) w.heap.size 25 (.int .i64 0) := Boxed.kept (W := w2) ((hB.block w.heap.size hb0l).trans hb0) (grownBy_setCellAt w2 b2 0 _) (by simp; omega)
    have hc := hb2.cell
    have hf := hb2.frozen
    go_wp2
    refine leaves_cons (f := 24) (args := #[.pointer (some ⟨w.heap.size, 0, none⟩)]) (by simp) (by simp [go_sem]) ?_
    refine (catch_idle ⟨w.heap.size, 0, none⟩ _).mono ?_
    rintro e u' w'' ⟨rfl, rfl, rfl⟩
    have hc5 := (hb2.set (.int .i64 0)).cell
    have hB' : Below w.heap.size w w2 := hA.trans (hB.mono (by simp))
    refine ⟨.int .i64 0, ?_, .inl ⟨k, w2, rfl, hB', hy, rfl⟩⟩
    simp [results, Tryd.f17, go_sem, hc5]
  · have hb2 : Boxed w1 w.heap.size 25 (.int .i64 0) := (hB.block w.heap.size hb0l).trans hb0
    have hc := hb2.cell
    have hf := hb2.frozen
    go_wp2
    refine leaves_cons (f := 24) (args := #[.pointer (some ⟨w.heap.size, 0, none⟩)]) (by simp) (by simp [go_sem]) ?_
    refine (catch_take w.heap.size n _ w1 hc hf).mono ?_
    rintro e u' w'' ⟨rfl, rfl, rfl⟩
    have hc5 := (hb2.set (.int .i64 n)).cell
    have hB' : Below w.heap.size w w1 := hA.trans (hB.mono (by simp))
    refine ⟨.int .i64 n, ?_, .inr ⟨n, w1, rfl, hB', hno, rfl⟩⟩
    simp [results, Tryd.f17, go_sem, hc5]

set_option maxRecDepth 100000 in
set_option maxHeartbeats 2000000 in
theorem Find_any (sv : Value) (bs : List UInt8) (hreach : bs.length ≤ 17592186044416) (w : World) (hS : Sl eB w.heap.size w sv bs) (hT : Tab w) (hO : TabO w) :
    Calls Tryd.prog 14 #[sv] w fun e W' => Below w.heap.size w W' ∧
      ((∃ k, e = .returned (.tuple #[.int .i64 (k : Nat), .int .i64 0]) ∧ FindYes bs k) ∨
       (∃ n, e = .returned (.tuple #[.int .i64 0, .int .i64 n]) ∧ FindNo bs n)) := by
  obtain ⟨A, cap, rfl⟩ := hS.len
  obtain ⟨W0, hW0⟩ : ∃ W0, (w.alloc (Obj.cells #[Value.slice A bs.length cap] 22)).alloc (Obj.cells #[Value.int IntKind.i64 0] 3) = W0 := ⟨_, rfl⟩
  have hs0 : W0.heap.size = w.heap.size + 2 := by rw [← hW0]; simp
  have hB0 : Below w.heap.size w W0 := by rw [← hW0]; exact ((Below.refl _ w).alloc (Nat.le_refl _) _).alloc (by simp) _
  have b1 : Boxed W0 w.heap.size 22 (.slice A bs.length cap) := by rw [← hW0]; exact (Boxed.new w _ _).alloc _
  have b2 : Boxed W0 (w.heap.size + 1) 3 (.int .i64 0) := by
    rw [← hW0]
    have := Boxed.new (w.alloc (Obj.cells #[Value.slice A bs.length cap] 22)) 3 (.int .i64 0)
    rw [World.size_alloc] at this
    exact this
  go_enter Tryd.func14, Tryd.ntmps14
  go_wp2_with fail
  go_at_call 17
  refine (caughtD _ _ bs w.heap.size (w.heap.size + 1) hreach W0 (hS.next hB0) (hT.below hB0) (hO.below hB0) b1.cell b1.lt b2).mono ?_
  rintro e W' (⟨k, w1, rfl, hB, hy, rfl⟩ | ⟨n, w1, rfl, hB, hno, rfl⟩)
  · have hb : Boxed w1 (w.heap.size + 1) 3 (.int .i64 0) := (hB.block _ b2.lt).trans b2
    have hb' : Boxed ((w1.setCell ⟨w.heap.size + 1, 0, none⟩ (.int .i64 (k : Nat))).setCell ⟨W0.heap.size, 0, none⟩ (.int .i64 0)) (w.heap.size + 1) 3 (.int .i64 (k : Nat)) :=
      Boxed.kept (W := w1.setCell ⟨w.heap.size + 1, 0, none⟩ (.int .i64 (k : Nat))) (hb.set _) (grownBy_setCellAt _ W0.heap.size 0 _) (by simp; omega)
    have hBw : Below w.heap.size w ((w1.setCell ⟨w.heap.size + 1, 0, none⟩ (.int .i64 (k : Nat))).setCell ⟨W0.heap.size, 0, none⟩ (.int .i64 0)) :=
      ((below_trans hB0 hB).setCell (p := ⟨w.heap.size + 1, 0, none⟩) (by simp) _).setCell (p := ⟨W0.heap.size, 0, none⟩) (by simp; omega) _
    clear hW0
    generalize World.setCell _ _ _ = W2 at *
    have hc := hb'.cell
    have hf := hb'.frozen
    go_wp2
    have hb5 := hb'.set (.int .i64 (k : Nat))
    have hc5 := hb5.cell
    refine bodyPost_ret (v := .tuple #[.int .i64 (k : Nat), .int .i64 0]) ?_ rfl ⟨hBw.setCell (p := ⟨w.heap.size + 1, 0, none⟩) (by simp) _, .inl ⟨k, rfl, hy⟩⟩
    simp [results, Tryd.f14, go_sem, hc5]
  · have hb : Boxed w1 (w.heap.size + 1) 3 (.int .i64 0) := (hB.block _ b2.lt).trans b2
    have hb' : Boxed (w1.setCell ⟨W0.heap.size, 0, none⟩ (.int .i64 n)) (w.heap.size + 1) 3 (.int .i64 0) :=
      Boxed.kept (W := w1) hb (grownBy_setCellAt _ W0.heap.size 0 _) (by simp; omega)
    have hBw : Below w.heap.size w (w1.setCell ⟨W0.heap.size, 0, none⟩ (.int .i64 n)) :=
      (below_trans hB0 hB).setCell (p := ⟨W0.heap.size, 0, none⟩) (by simp; omega) _
    clear hW0
    generalize World.setCell _ _ _ = W2 at *
    have hc := hb'.cell
    have hf := hb'.frozen
    go_wp2
    have hb5 := hb'.set (.int .i64 0)
    have hc5 := hb5.cell
    refine bodyPost_ret (v := .tuple #[.int .i64 0, .int .i64 n]) ?_ rfl ⟨hBw.setCell (p := ⟨w.heap.size + 1, 0, none⟩) (by simp) _, .inr ⟨n, rfl, hno⟩⟩
    simp [results, Tryd.f14, go_sem, hc5]
end Go.Proofs.YtbodielilaedeaaDoor
