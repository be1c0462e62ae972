/- Contract of poly.Divide by nought. -/
import Derived.Test.YtgidhkfmelpjfaaPoI
namespace Go.Proofs.Ytgidhkfmelpjfaa
open Go.RowKit Go.Shelf
attribute [local go_sem] Oper.semAt_some run_store_func

/-- The three boxes of Divide's results. -/
def Box3 (b : Nat) (x y z : Value) (W : World) : Prop := Boxed W b 22 x ∧ Boxed W (b + 1) 22 y ∧ Boxed W (b + 1 + 1) 25 z
theorem Box3.below {b : Nat} {x y z : Value} {W W' : World} (h : Box3 b x y z W) (hB : Below W.heap.size W W') : Box3 b x y z W' :=
  ⟨(hB.block _ h.1.lt).trans h.1, (hB.block _ h.2.1.lt).trans h.2.1, (hB.block _ h.2.2.lt).trans h.2.2⟩
theorem Boxed.set_other {W : World} {b b' : Nat} {t : TypeId} {x y : Value} (h : Boxed W b t x) (hne : b ≠ b') : Boxed (W.setCell ⟨b', 0, none⟩ y) b t x :=
  (Below.heap_setCell _ _ _ _ hne).trans h
theorem Box3.set0 {b : Nat} {x y z : Value} {W : World} (h : Box3 b x y z W) (u : Value) : Box3 b u y z (W.setCell ⟨b, 0, none⟩ u) :=
  ⟨h.1.set u, Boxed.set_other h.2.1 (by omega), Boxed.set_other h.2.2 (by omega)⟩
theorem Box3.set1 {b : Nat} {x y z : Value} {W : World} (h : Box3 b x y z W) (u : Value) : Box3 b x u z (W.setCell ⟨b + 1, 0, none⟩ u) :=
  ⟨Boxed.set_other h.1 (by omega), h.2.1.set u, Boxed.set_other h.2.2 (by omega)⟩
theorem Box3.set2 {b : Nat} {x y z : Value} {W : World} (h : Box3 b x y z W) (u : Value) : Box3 b x y u (W.setCell ⟨b + 1 + 1, 0, none⟩ u) :=
  ⟨Boxed.set_other h.1 (by omega), Boxed.set_other h.2.1 (by omega), h.2.2.set u⟩
theorem box3_new (w : World) (x y z : Value) : Box3 w.heap.size x y z (((w.alloc (.cells #[x] 22)).alloc (.cells #[y] 22)).alloc (.cells #[z] 25)) := by
  refine ⟨((Boxed.new w _ _).alloc _).alloc _, ?_, ?_⟩
  · have h := (Boxed.new (w.alloc (.cells #[x] 22)) 22 y).alloc (.cells #[z] 25)
    rwa [World.size_alloc] at h
  · have h := Boxed.new ((w.alloc (.cells #[x] 22)).alloc (.cells #[y] 22)) 25 z
    rwa [World.size_alloc, World.size_alloc] at h

set_option maxRecDepth 100000 in
set_option maxHeartbeats 2000000 in
theorem Divide_no (pv qv : Value) (p q : List UInt8) (hp : p.length ≤ 100000) (hq : q.length ≤ 100000) (hz : tr (C q) q.length = []) (w : World) (hP : Sl eB w.heap.size w pv p) (hQ : Sl eB w.heap.size w qv q) :
    Calls Try.prog 10 #[pv, qv] w fun e w' => e = .returned (.tuple #[.slice none 0 0, .slice none 0 0, .int .i64 30]) ∧ Below w.heap.size w w' := by
  refine (callsIn_wide (n := 9)).1 ?_
  have hmf : ∀ (fn : Fn) (first cap : Array Value) (w : World), (Instr.makeFunc fn first cap).run Try.prog w = .ok (.func fn first cap) w := fun _ _ _ _ => rfl
  have hA := ((Below.refl w.heap.size w).alloc (Nat.le_refl _) (.cells #[.slice none 0 0] 22)).alloc (by simp) (.cells #[.slice none 0 0] 22) |>.alloc (by simp; omega) (.cells #[.int .i64 0] 25)
  have hb := box3_new w (.slice none 0 0) (.slice none 0 0) (.int .i64 0)
  have hs0 : (((w.alloc (.cells #[.slice none 0 0] 22)).alloc (.cells #[.slice none 0 0] 22)).alloc (.cells #[.int .i64 0] 25)).heap.size = w.heap.size + 3 := by simp
  refine callsIn_of_wp_marks Try.func10 rfl trivial ?_ rfl
  simp only [Try.ntmps10, List.size_toArray, List.length_cons, List.length_nil, Nat.reduceAdd, Nat.reduceSub, Array.replicate_succ, Array.replicate_zero, List.push_toArray, List.append_toArray, List.nil_append, List.cons_append]
  gi_wp2_with fail
  obtain ⟨p', hp'⟩ : ∃ p', tr (C p) p.length = p' := ⟨_, rfl⟩
  have hT1 := Trim_any pv p (by omega)
  rw [hp'] at hT1
  clear hp'
  generalize (((w.alloc (.cells #[.slice none 0 0] 22)).alloc (.cells #[.slice none 0 0] 22)).alloc (.cells #[.int .i64 0] 25)) = w0 at *
  refine ⟨trivial, ?_⟩
  gi_at_call 13
  refine (callsIn_wide.2 (hT1 w0 (hP.next hA))).mono ?_
  rintro e w1 ⟨v1, rfl, hv1, hB1⟩
  obtain ⟨A1, k1, rfl⟩ := hv1.sl.len
  gi_wp2_with fail
  refine ⟨trivial, ?_⟩
  gi_at_call 13
  have hAB := below_trans hA hB1
  have hT := Trim_any qv q (by omega) w1 (hQ.next hAB)
  rw [hz] at hT
  refine (callsIn_wide.2 hT).mono ?_
  rintro e w2 ⟨v2, rfl, hv2, hB2⟩
  obtain ⟨A2, k2, rfl⟩ := hv2.sl.len
  clear hT
  have hAB2 := below_trans hAB hB2
  have hb2 := (hb.below hB1).below hB2
  have c1 := hb2.2.1.cell
  have f1 := hb2.2.1.frozen
  have hb3 := hb2.set1 (.slice A1 p'.length k1)
  have hAB3 := hAB2.setCell (p := ⟨w.heap.size + 1, 0, none⟩) (by simp) (.slice A1 p'.length k1)
  have hS2 : Sl eB (w2.setCell ⟨w.heap.size + 1, 0, none⟩ (.slice A1 p'.length k1)).heap.size (w2.setCell ⟨w.heap.size + 1, 0, none⟩ (.slice A1 p'.length k1)) (.slice A2 ([] : List UInt8).length k2) [] := by
    exact ⟨A2, k2, rfl, Nat.zero_le _, fun h => absurd h (by simp)⟩
  gi_wp2_with fail
  generalize w2.setCell ⟨w.heap.size + 1, 0, none⟩ (.slice A1 p'.length k1) = w3 at *
  refine ⟨trivial, ?_⟩
  gi_at_call 31
  refine (callsIn_wide.2 (inverse_no _ w3 hS2)).mono ?_
  rintro e w4 ⟨rfl, rfl⟩
  have hb4 := hb3.set0 (.slice none 0 0)
  have hb5 := hb4.set1 (.slice none 0 0)
  have hb6 := hb5.set2 (.int .i64 30)
  gi_wp2
  refine ⟨by simp, .inr ⟨(fun h => by cases h), _, _, 30, #[.pointer (some ⟨w.heap.size, 0, none⟩), .pointer (some ⟨w.heap.size + 1, 0, none⟩), .pointer (some ⟨w.heap.size + 1 + 1, 0, none⟩)], rfl, (by simp [go_sem]), (fun _ _ => trivial), ?_⟩⟩
  refine (left_take _ w.heap.size (w.heap.size + 1) (w.heap.size + 1 + 1) 30 _ _ _ w4 hb3.1.cell hb3.1.frozen hb4.2.1.cell hb4.2.1.frozen hb5.2.2.cell hb5.2.2.frozen).mono ?_
  rintro e u' w'' ⟨rfl, rfl, rfl⟩
  have d0 := hb6.1.cell
  have d1 := hb6.2.1.cell
  have d2 := hb6.2.2.cell
  have hB6 := ((hAB3.setCell (p := ⟨w.heap.size, 0, none⟩) (Nat.le_refl _) (.slice none 0 0)).setCell (p := ⟨w.heap.size + 1, 0, none⟩) (by simp) (.slice none 0 0)).setCell (p := ⟨w.heap.size + 1 + 1, 0, none⟩) (by simp; omega) (.int .i64 30)
  refine ⟨.tuple #[.slice none 0 0, .slice none 0 0, .int .i64 30], ?_, rfl, hB6⟩
  simp [results, Try.f10, go_sem, d0, d1, d2]
end Go.Proofs.Ytgidhkfmelpjfaa
