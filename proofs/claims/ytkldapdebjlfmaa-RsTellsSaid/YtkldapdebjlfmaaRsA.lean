/- Contracts of rs.told, must; gf.Exp. -/
import Derived.Test.YtkldapdebjlfmaaPoF
import Derived.Defers
import Derived.Recover
namespace Go.Proofs.Ytkldapdebjlfmaa
open Go.RowKit Go.Shelf
attribute [local go_sem] Oper.semAt_some run_store_func

/-- A power of 2. -/
def g2 (n : Nat) : UInt8 := UInt8.ofNat (pw n)
theorem g2_toNat (n : Nat) : (g2 n).toNat = pw n := by have := pw_lt n; simp [g2]; omega
set_option maxRecDepth 100000 in
set_option maxHeartbeats 400000 in
theorem Exp8 (n : Nat) (hn : n < 255) (w : World) : Calls Try.prog 43 #[.int .i64 n] w fun e w' => e = .returned (eB (g2 n)) ∧ Below w.heap.size w w' := by
  have hp := fun w => power_any (n : Int) w
  rw [show restN (n : Int) = n by unfold restN; omega] at hp
  go_enter Try.func43, Try.ntmps43
  go_wp2_with (go_at_call 61; refine (hp _).mono ?_; rintro e w' ⟨rfl, hB⟩)
  go_ret
  exact ⟨by rw [eB, g2_toNat]; rfl, hB⟩

theorem must_yes (w : World) : Calls Try.prog 22 #[.bool true] w fun e w' => e = .returned (.tuple #[]) ∧ w = w' := by
  go_enter Try.func22, Try.ntmps22
  go_wp2
  go_end0
  exact ⟨rfl, rfl⟩
theorem must_no (w : World) : Calls Try.prog 22 #[.bool false] w fun e w' => e = .panicked [{ v := .iface 24 (.int .i64 2), recovered := false }] ∧ w = w' := by
  go_enter Try.func22, Try.ntmps22
  go_wp2
  exact ⟨rfl, ⟨rfl, rfl⟩⟩

set_option maxRecDepth 100000 in
set_option maxHeartbeats 2000000 in
theorem told1_idle (p q : Addr) (w : World) :
    CallsD Try.prog 39 #[.pointer (some p), .pointer (some q)] .returning w fun e u' w' => e = .returned (.tuple #[]) ∧ u' = .returning ∧ w' = w := by
  refine callsD_of_wpS Try.func39 rfl fun c₀ cs hu => ?_
  apply wpS_seq
  apply wpS_region
  simp [wpOpsS, go_sem, recoverD, hu, Try.ntmps39, Exit.thenS]
  refine wpS_of_wp ?_
  go_wp2
  cases c₀
  simp_all [bodyPostS, results, Try.results39]
set_option maxRecDepth 100000 in
set_option maxHeartbeats 2000000 in
theorem told1_take (a b : Nat) (m : Int) (v0 v1 : Value) (w : World) (hca : w.cell? ⟨a, 0, none⟩ = some v0) (hfa : w.frozen? ⟨a, 0, none⟩ = false)
    (hcb : (w.setCell ⟨a, 0, none⟩ (.slice none 0 0)).cell? ⟨b, 0, none⟩ = some v1) (hfb : (w.setCell ⟨a, 0, none⟩ (.slice none 0 0)).frozen? ⟨b, 0, none⟩ = false) :
    CallsD Try.prog 39 #[.pointer (some ⟨a, 0, none⟩), .pointer (some ⟨b, 0, none⟩)] (.panicking [{ v := .iface 24 (.int .i64 m), recovered := false }]) w fun e u' w' => e = .returned (.tuple #[]) ∧ u' = .panicking [{ v := .iface 24 (.int .i64 m), recovered := true }] ∧
      w' = (w.setCell ⟨a, 0, none⟩ (.slice none 0 0)).setCell ⟨b, 0, none⟩ (.int .i64 m) := by
  have hta : ∀ w, (Instr.typeAssert (.iface 24 (.int .i64 m)) 20 24 true).run Try.prog w = .ok (.tuple #[.int .i64 m, .bool true]) w := fun _ => by kernel_rfl
  refine callsD_of_wpS Try.func39 rfl fun c₀ cs hu => ?_
  apply wpS_seq
  apply wpS_region
  simp [wpOpsS, go_sem, recoverD, hu, Try.ntmps39, Exit.thenS]
  refine wpS_of_wp ?_
  go_wp2
  cases c₀
  simp_all [bodyPostS, results, Try.results39]

theorem Sl.setBox {B : Nat} {w : World} {v : Value} {bs : List UInt8} {b : Nat} {t : TypeId} {u : Value} (h : Sl eB B w v bs) (hb : Boxed w b t u) (hu : ∀ x, u ≠ eB x) (u' : Value) : Sl eB B (w.setCell ⟨b, 0, none⟩ u') v bs := by
  obtain ⟨A, c, rfl, hc, hcs⟩ := h
  refine ⟨A, c, rfl, hc, fun hn => ?_⟩
  obtain ⟨b0, off, rfl, hlt, hcell⟩ := hcs hn
  refine ⟨b0, off, rfl, hlt, fun j x hj => ?_⟩
  have hx := hcell j x hj
  have hne : b0 ≠ b := by
    rintro rfl
    by_cases h0 : off + j = 0
    · rw [h0, hb.cell] at hx
      exact hu x (by simpa using hx)
    · have hh : w.heap[b0]? = some (.cells #[u] t (0, 0)) := hb
      have hz : (#[u] : Array Value)[off + j]? = none := by simp; omega
      simp [World.cell?, hh, hz] at hx
  rw [← hx]
  exact World.cell?_of_block (w := w) (Below.heap_setCell _ _ _ _ hne)
set_option maxRecDepth 100000 in
set_option maxHeartbeats 2000000 in
theorem told_yes (bs : List UInt8) (f : FuncId) (cap : Array Value) (w : World) (hen : ∀ w, (callFunc f cap).run Try.prog w = .ok (.enter f cap) w)
    (hf : ∀ w1, Below w.heap.size w w1 → Calls Try.prog f cap w1 fun e w' => ∃ v, e = .returned v ∧ Sl eB w'.heap.size w' v bs ∧ Below w1.heap.size w1 w') :
    Calls Try.prog 20 #[.func (.func f) #[] cap] w fun e w' => ∃ v, e = .returned (.tuple #[v, .int .i64 0]) ∧ Sl eB w'.heap.size w' v bs ∧ Below w.heap.size w w' := by
  have hmf : ∀ (fn : Fn) (first cap : Array Value) (w : World), (Instr.makeFunc fn first cap).run Try.prog w = .ok (.func fn first cap) w := fun _ _ _ _ => rfl
  have hA1 := below_alloc w (.cells #[.slice none 0 0] 22)
  have hA2 := below_alloc (w.alloc (.cells #[.slice none 0 0] 22)) (.cells #[.int .i64 0] 24)
  have hA := below_trans hA1 hA2
  have hb0 := (Boxed.new w 22 (.slice none 0 0)).alloc (.cells #[.int .i64 0] 24)
  have hb1 := Boxed.new (w.alloc (.cells #[.slice none 0 0] 22)) 24 (.int .i64 0)
  rw [World.size_alloc] at hb1
  go_enter_defers Try.func20, Try.ntmps20
  go_wp2_with fail
  generalize (w.alloc (.cells #[.slice none 0 0] 22)).alloc (.cells #[.int .i64 0] 24) = w0 at *
  refine (hf w0 hA).mono ?_
  rintro e w2 ⟨v, rfl, hv, hB2⟩
  have hc0 : Boxed w2 w.heap.size 22 (.slice none 0 0) := (hB2.block _ hb0.lt).trans hb0
  have hc1 : Boxed w2 (w.heap.size + 1) 24 (.int .i64 0) := (hB2.block _ hb1.lt).trans hb1
  obtain ⟨A, c, rfl⟩ := hv.len
  have k0 := hc0.cell
  have f0 := hc0.frozen
  have hs1 := hc1.other (show w.heap.size + 1 ≠ w.heap.size by omega) (.slice A bs.length c)
  have k1 := hs1.cell
  have f1 := hs1.frozen
  have hs0 := hc0.set (.slice A bs.length c)
  have r0 := (hs0.other (show w.heap.size ≠ w.heap.size + 1 by omega) (.int .i64 0)).cell
  have r1 := (hs1.set (.int .i64 0)).cell
  have hAB := below_trans hA hB2
  have hBe := (hAB.setCell (p := ⟨w.heap.size, 0, none⟩) (Nat.le_refl _) (.slice A bs.length c)).setCell (p := ⟨w.heap.size + 1, 0, none⟩) (by simp) (.int .i64 0)
  have hSv : Sl eB ((w2.setCell ⟨w.heap.size, 0, none⟩ (.slice A bs.length c)).setCell ⟨w.heap.size + 1, 0, none⟩ (.int .i64 0)).heap.size ((w2.setCell ⟨w.heap.size, 0, none⟩ (.slice A bs.length c)).setCell ⟨w.heap.size + 1, 0, none⟩ (.int .i64 0)) (.slice A bs.length c) bs := by
    have h1 := (hv.setBox hc0 (fun x h => by cases h) (.slice A bs.length c)).setBox hs1 (fun x h => by cases h) (.int .i64 0)
    simpa using h1
  go_wp2
  generalize (w2.setCell ⟨w.heap.size, 0, none⟩ (.slice A bs.length c)).setCell ⟨w.heap.size + 1, 0, none⟩ (.int .i64 0) = w3 at *
  refine leaves_cons (f := 39) (args := #[.pointer (some ⟨w.heap.size, 0, none⟩), .pointer (some ⟨w.heap.size + 1, 0, none⟩)]) (by simp) (by simp [go_sem]) ?_
  refine (told1_idle ⟨w.heap.size, 0, none⟩ ⟨w.heap.size + 1, 0, none⟩ _).mono ?_
  rintro e u' w'' ⟨rfl, rfl, rfl⟩
  refine ⟨.tuple #[.slice A bs.length c, .int .i64 0], ?_, _, rfl, hSv, hBe⟩
  simp [results, Try.f20, go_sem, r0, r1]

set_option maxRecDepth 100000 in
set_option maxHeartbeats 2000000 in
theorem told_no (m : Int) (f : FuncId) (cap : Array Value) (w : World) (hen : ∀ w, (callFunc f cap).run Try.prog w = .ok (.enter f cap) w)
    (hf : ∀ w1, Below w.heap.size w w1 → Calls Try.prog f cap w1 fun e w' => e = .panicked [{ v := .iface 24 (.int .i64 m), recovered := false }] ∧ Below w1.heap.size w1 w') :
    Calls Try.prog 20 #[.func (.func f) #[] cap] w fun e w' => e = .returned (.tuple #[.slice none 0 0, .int .i64 m]) ∧ Below w.heap.size w w' := by
  have hmf : ∀ (fn : Fn) (first cap : Array Value) (w : World), (Instr.makeFunc fn first cap).run Try.prog w = .ok (.func fn first cap) w := fun _ _ _ _ => rfl
  have hA1 := below_alloc w (.cells #[.slice none 0 0] 22)
  have hA2 := below_alloc (w.alloc (.cells #[.slice none 0 0] 22)) (.cells #[.int .i64 0] 24)
  have hA := below_trans hA1 hA2
  have hb0 := (Boxed.new w 22 (.slice none 0 0)).alloc (.cells #[.int .i64 0] 24)
  have hb1 := Boxed.new (w.alloc (.cells #[.slice none 0 0] 22)) 24 (.int .i64 0)
  rw [World.size_alloc] at hb1
  go_enter_defers Try.func20, Try.ntmps20
  go_wp2_with fail
  generalize (w.alloc (.cells #[.slice none 0 0] 22)).alloc (.cells #[.int .i64 0] 24) = w0 at *
  refine (hf w0 hA).mono ?_
  rintro e w2 ⟨rfl, hB2⟩
  have hc0 : Boxed w2 w.heap.size 22 (.slice none 0 0) := (hB2.block _ hb0.lt).trans hb0
  have hc1 : Boxed w2 (w.heap.size + 1) 24 (.int .i64 0) := (hB2.block _ hb1.lt).trans hb1
  have hs1 := hc1.other (show w.heap.size + 1 ≠ w.heap.size by omega) (.slice none 0 0)
  have hs0 := hc0.set (.slice none 0 0)
  have r0 := (hs0.other (show w.heap.size ≠ w.heap.size + 1 by omega) (.int .i64 m)).cell
  have r1 := (hs1.set (.int .i64 m)).cell
  have hAB := below_trans hA hB2
  have hBe := (hAB.setCell (p := ⟨w.heap.size, 0, none⟩) (Nat.le_refl _) (.slice none 0 0)).setCell (p := ⟨w.heap.size + 1, 0, none⟩) (by simp) (.int .i64 m)
  go_wp2
  refine leaves_cons (f := 39) (args := #[.pointer (some ⟨w.heap.size, 0, none⟩), .pointer (some ⟨w.heap.size + 1, 0, none⟩)]) (by simp) (by simp [go_sem]) ?_
  refine (told1_take w.heap.size (w.heap.size + 1) m _ _ w2 hc0.cell hc0.frozen hs1.cell hs1.frozen).mono ?_
  rintro e u' w'' ⟨rfl, rfl, rfl⟩
  refine ⟨.tuple #[.slice none 0 0, .int .i64 m], ?_, rfl, hBe⟩
  simp [results, Try.f20, go_sem, r0, r1]
end Go.Proofs.Ytkldapdebjlfmaa
