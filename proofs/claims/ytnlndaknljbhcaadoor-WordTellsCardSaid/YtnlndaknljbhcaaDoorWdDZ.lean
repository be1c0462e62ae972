/- Contracts of word.caught and word.must. -/
import Derived.Defers
import Derived.Recover
import Derived.Test.YtnlndaknljbhcaaDoorWdCZ
namespace Go.Proofs.YtnlndaknljbhcaaDoor
open Go.RowKit Go.Shelf
attribute [local go_sem] Oper.semAt_some run_store_func

set_option maxRecDepth 100000 in
set_option maxHeartbeats 2000000 in
theorem wcatch_idle (p : Addr) (w : World) :
    CallsD Tryd.prog 51 #[.pointer (some p)] .returning w fun e u' w' => e = .returned (.tuple #[]) ∧ u' = .returning ∧ w' = w := by
  refine callsD_of_wpS Tryd.func51 rfl fun c₀ cs hu => ?_
  apply wpS_seq
  apply wpS_region
  simp [wpOpsS, go_sem, recoverD, hu, Tryd.ntmps51, Exit.thenS]
  refine wpS_of_wp ?_
  go_wp2
  cases c₀
  simp_all [bodyPostS, results, Tryd.results51]
set_option maxRecDepth 100000 in
set_option maxHeartbeats 2000000 in
theorem wcatch_take (b : Nat) (n : Int) (v0 : Value) (w : World) (hc : w.cell? ⟨b, 0, none⟩ = some v0) (hf : w.frozen? ⟨b, 0, none⟩ = false) :
    CallsD Tryd.prog 51 #[.pointer (some ⟨b, 0, none⟩)] (.panicking (errno n)) w fun e u' w' => e = .returned (.tuple #[]) ∧ u' = .panicking [{ v := .iface 24 (.int .i64 n), recovered := true }] ∧ w' = w.setCell ⟨b, 0, none⟩ (.int .i64 n) := by
  have hta : ∀ w, (Instr.typeAssert (.iface 24 (.int .i64 n)) 20 24 true).run Tryd.prog w = .ok (.tuple #[.int .i64 n, .bool true]) w := fun _ => by kernel_rfl
  refine callsD_of_wpS Tryd.func51 rfl fun c₀ cs hu => ?_
  apply wpS_seq
  apply wpS_region
  simp [wpOpsS, go_sem, recoverD, hu, Tryd.ntmps51, Exit.thenS]
  refine wpS_of_wp ?_
  go_wp2
  cases c₀
  simp_all [bodyPostS, results, Tryd.results51]

set_option maxRecDepth 100000 in
set_option maxHeartbeats 2000000 in
theorem wcaught_any (f : Nat) (lb : Array Value) (g : Nat) (w : World) (hg : g < w.heap.size) (hen : ∀ args w, (callFunc f args).run Tryd.prog w = .ok (.enter f args) w) (R0 : World → Prop) (Rn : Int → World → Prop)
    (hwork : WorkIs f lb g (w.alloc (.cells #[.int .i64 0] 24)) R0 Rn) :
    Calls Tryd.prog 30 #[.func (.func f) #[] lb] w fun e w' => ∃ w1 n, Keep w.heap.size g w w1 ∧ e = .returned (.int .i64 n) ∧ w' = w1.setCell ⟨w.heap.size, 0, none⟩ (.int .i64 n) ∧ w.heap.size < w1.heap.size ∧ ((n = 0 ∧ R0 w1) ∨ Rn n w1) := by
  have hmf : ∀ (fn : Fn) (first cap : Array Value) (w : World), (Instr.makeFunc fn first cap).run Tryd.prog w = .ok (.func fn first cap) w := fun _ _ _ _ => rfl
  have hA := below_alloc w (.cells #[.int .i64 0] 24)
  have hb0 := Boxed.new w 24 (.int .i64 0)
  have hs0 : (w.alloc (.cells #[.int .i64 0] 24)).heap.size = w.heap.size + 1 := by simp
  unfold WorkIs at hwork
  go_enter_defers Tryd.func30, Tryd.ntmps30
  go_wp2_with fail
  generalize w.alloc (.cells #[.int .i64 0] 24) = w0 at *
  refine hwork.mono ?_
  clear hwork
  rintro e w1 ⟨hK, ⟨⟨v, rfl⟩, hR⟩ | ⟨n, rfl, hR⟩⟩
  · have hb1 := hK.boxed hb0 (by omega) (by omega)
    have hc := hb1.cell
    have hf := hb1.frozen
    have hsz := keep_size hK
    go_wp2
    refine leaves_cons (f := 51) (args := #[.pointer (some ⟨w.heap.size, 0, none⟩)]) (by simp) (by simp [go_sem]) ?_
    refine (wcatch_idle ⟨w.heap.size, 0, none⟩ _).mono ?_
    rintro e u' w'' ⟨rfl, rfl, rfl⟩
    have hc5 := (hb1.set (.int .i64 0)).cell
    refine ⟨.int .i64 0, ?_, w1, 0, ⟨⟨hK.1.1.trans hA.os, hK.1.2.1.trans hA.tape, hK.1.2.2.1.trans hA.output, by omega⟩, fun k hk hkg => (hK.2 k (by omega) hkg).trans (hA.block k hk)⟩, rfl, rfl, by omega, .inl ⟨rfl, hR⟩⟩
    simp [results, Tryd.f30, go_sem, hc5]
  · have hb1 := hK.boxed hb0 (by omega) (by omega)
    have hc := hb1.cell
    have hf := hb1.frozen
    have hsz := keep_size hK
    go_wp2
    refine leaves_cons (f := 51) (args := #[.pointer (some ⟨w.heap.size, 0, none⟩)]) (by simp) (by simp [go_sem]) ?_
    refine (wcatch_take w.heap.size n _ w1 hc hf).mono ?_
    rintro e u' w'' ⟨rfl, rfl, rfl⟩
    have hc5 := (hb1.set (.int .i64 n)).cell
    refine ⟨.int .i64 n, ?_, w1, n, ⟨⟨hK.1.1.trans hA.os, hK.1.2.1.trans hA.tape, hK.1.2.2.1.trans hA.output, by omega⟩, fun k hk hkg => (hK.2 k (by omega) hkg).trans (hA.block k hk)⟩, rfl, rfl, by omega, .inr hR⟩
    simp [results, Tryd.f30, go_sem, hc5]
set_option maxRecDepth 100000 in
set_option maxHeartbeats 1000000 in
theorem wmust_ok (w : World) : Calls Tryd.prog 55 #[.int .i64 0] w fun e w' => e = .returned (.tuple #[]) ∧ w = w' := by
  go_enter Tryd.func55, Tryd.ntmps55
  go_wp2
  go_end0
  exact ⟨rfl, rfl⟩
set_option maxRecDepth 100000 in
set_option maxHeartbeats 1000000 in
theorem wmust_not (n : Int) (h : n ≠ 0) (w : World) : Calls Tryd.prog 55 #[.int .i64 n] w fun e w' => e = .panicked (errno n) ∧ w = w' := by
  have h1 : (n != 0) = true := by simpa using h
  have h2 : (n == 0) = false := by simpa using h
  clear h
  go_enter Tryd.func55, Tryd.ntmps55
  go_wp2
  exact ⟨rfl, rfl, rfl⟩
end Go.Proofs.YtnlndaknljbhcaaDoor
