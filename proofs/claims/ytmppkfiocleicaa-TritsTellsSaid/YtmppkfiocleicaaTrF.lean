/- Contract of trits.each, in the fence of the program. -/
import Derived.Test.YtmppkfiocleicaaTrE
namespace Go.Proofs.Ytmppkfiocleicaa
open Go.RowKit Go.Shelf
attribute [local go_sem] Oper.semAt_some run_store_func inProg_round inProg_depth

/-- each's three boxes. -/
def BoxE (b : Nat) (x y z : Value) (W : World) : Prop := Boxed W b 40 x ∧ Boxed W (b + 1) 24 y ∧ Boxed W (b + 1 + 1) 26 z
theorem boxE_new (w : World) (x y z : Value) : BoxE w.heap.size x y z (((w.alloc (.cells #[x] 40)).alloc (.cells #[y] 24)).alloc (.cells #[z] 26)) := by
  refine ⟨((Boxed.new w _ _).alloc _).alloc _, ?_, ?_⟩
  · have h := (Boxed.new (w.alloc (.cells #[x] 40)) 24 y).alloc (.cells #[z] 26)
    rwa [World.size_alloc] at h
  · have h := Boxed.new ((w.alloc (.cells #[x] 40)).alloc (.cells #[y] 24)) 26 z
    rwa [World.size_alloc, World.size_alloc] at h
theorem Boxed.set_other {W : World} {b b' : Nat} {t : TypeId} {x y : Value} (h : Boxed W b t x) (hne : b ≠ b') : Boxed (W.setCell ⟨b', 0, none⟩ y) b t x :=
  (Below.heap_setCell _ _ _ _ hne).trans h
theorem Boxed.put_other {W : World} {b b' : Nat} {t : TypeId} {x : Value} {o : Obj} (h : Boxed W b t x) (hne : b ≠ b') : Boxed (W.putObj b' o) b t x := (World.putObj_heap_other hne).trans h

set_option maxRecDepth 100000 in
set_option maxHeartbeats 4000000 in
theorem each_bad (many : Nat) (bf : Nat) (lb : Array Value) (A : Option Addr) (l c : Nat) (hm : 1 ≤ many) (hm2 : many ≤ 26) (hreach : l ≤ 1000000) (hbad : l % many ≠ 0) (n : Nat) (w : World) :
    CallsIn (Fence.inProg Try.prog) n Try.prog 19 #[.slice A l c, .int .i64 many, .func (.func bf) #[] lb] w fun e w' => e = .returned (.tuple #[.slice none 0 0, .int .i64 2]) ∧ Below w.heap.size w w' := by
  have hmf : ∀ (fn : Fn) (first cap : Array Value) (w : World), (Instr.makeFunc fn first cap).run Try.prog w = .ok (.func fn first cap) w := fun _ _ _ _ => rfl
  have hA := ((Below.refl w.heap.size w).alloc (Nat.le_refl _) (.cells #[.func (.func bf) #[] lb] 40)).alloc (by simp) (.cells #[.slice none 0 0] 24) |>.alloc (by simp; omega) (.cells #[.int .i64 0] 26)
  have hb := boxE_new w (.func (.func bf) #[] lb) (.slice none 0 0) (.int .i64 0)
  have hd : decide ((l : Int) % (many : Int) = 0) = false := decide_eq_false (by omega)
  refine callsIn_of_wp_marks Try.func19 rfl ⟨_, Try.func19⟩ ?_ rfl
  simp only [Try.ntmps19, List.size_toArray, List.length_cons, List.length_nil, Nat.reduceAdd, Nat.reduceSub, Array.replicate_succ, Array.replicate_zero, List.push_toArray, List.append_toArray, List.nil_append, List.cons_append]
  gi_wp2_with fail
  generalize ((w.alloc (.cells #[.func (.func bf) #[] lb] 40)).alloc (.cells #[.slice none 0 0] 24)).alloc (.cells #[.int .i64 0] 26) = w1 at *
  have hb1 : Boxed (w1.setCell ⟨w.heap.size + 1, 0, none⟩ (.slice none 0 0)) (w.heap.size + 1 + 1) 26 (.int .i64 0) := Boxed.set_other hb.2.2 (by omega)
  refine ⟨by simp, .inr ⟨(fun h => by cases h), _, _, 23, #[.pointer (some ⟨w.heap.size + 1, 0, none⟩), .pointer (some ⟨w.heap.size + 1 + 1, 0, none⟩)], rfl, (by simp [go_sem]), (fun f hf => by simp [Target.leads] at hf; subst hf; exact ⟨_, Try.func23⟩), ?_⟩⟩
  refine (left_take _ (w.heap.size + 1) (w.heap.size + 1 + 1) 2 _ _ w1 hb.2.1.cell hb.2.1.frozen hb1.cell hb1.frozen).mono ?_
  rintro e u' w'' ⟨rfl, rfl, rfl⟩
  have d0 := (Boxed.set_other (b' := w.heap.size + 1 + 1) (y := .int .i64 2) (hb.2.1.set (.slice none 0 0)) (by omega)).cell
  have d1 := (hb1.set (.int .i64 2)).cell
  have hB6 := (hA.setCell (p := ⟨w.heap.size + 1, 0, none⟩) (by simp) (.slice none 0 0)).setCell (p := ⟨w.heap.size + 1 + 1, 0, none⟩) (by simp; omega) (.int .i64 2)
  refine ⟨.tuple #[.slice none 0 0, .int .i64 2], ?_, rfl, hB6⟩
  simp [results, Try.f19, go_sem, d0, d1]
end Go.Proofs.Ytmppkfiocleicaa
