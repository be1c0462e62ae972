import Derived.Defers
import Derived.Recover
import Derived.Test.YtgblkcddhnigaaaDoorKRZ
import Derived.Test.YtgblkcddhnigaaaDoorNsFZ
import Derived.Test.YtgblkcddhnigaaaDoorRIZ
namespace Go.Proofs.YtgblkcddhnigaaaDoor
open Go.RowKit Go.Shelf
attribute [local go_sem] Oper.semAt_some run_store_func
def cleanB (bs : List UInt8) : Bool := decide (1 ≤ bs.length ∧ bs.length ≤ 1000 ∧ (-1 : Int) ∉ codesOf bs)
def mustE : Bool → Ending
  | true => .returned (.tuple #[])
  | false => .panicked [{ v := .iface 63 (.agg #[]), recovered := false }]
set_option maxRecDepth 100000 in
set_option maxHeartbeats 1000000 in
theorem Must_any (sv : Value) (bs : List UInt8) (hreach : bs.length ≤ 100000) (w : World) (hS : Sl eB w.heap.size w sv bs) (hT : Tab w) :
    Calls Tryd.prog 49 #[sv] w fun e w' => e = mustE (cleanB bs) ∧ Below w.heap.size w w' := by
  have hV := Valid_any sv bs (by omega) w hS hT
  obtain ⟨A, c, rfl⟩ := hS.len
  by_cases h1 : bs.length < 1
  · have d1 : decide ((bs.length : Int) < 1) = true := decide_eq_true (by omega)
    have hc : cleanB bs = false := decide_eq_false (by omega)
    rw [hc]
    clear hV hc h1
    go_enter Tryd.func49, Tryd.ntmps49
    go_wp2_with fail
    exact ⟨rfl, rfl, Below.refl _ _⟩
  · have d1 : decide ((bs.length : Int) < 1) = false := decide_eq_false (by omega)
    by_cases h2 : 1000 < bs.length
    · have d2 : decide ((1000 : Int) < (bs.length : Int)) = true := decide_eq_true (by omega)
      have hc : cleanB bs = false := decide_eq_false (by omega)
      rw [hc]
      clear hV hc h1 h2
      go_enter Tryd.func49, Tryd.ntmps49
      go_wp2_with fail
      exact ⟨rfl, rfl, Below.refl _ _⟩
    · have d2 : decide ((1000 : Int) < (bs.length : Int)) = false := decide_eq_false (by omega)
      by_cases h3 : (-1 : Int) ∉ codesOf bs
      · rw [show cleanB bs = true from decide_eq_true ⟨by omega, by omega, h3⟩]
        rw [decide_eq_true h3] at hV
        clear h1 h2 h3
        go_enter Tryd.func49, Tryd.ntmps49
        go_wp2_with fail
        go_at_call 57
        refine hV.mono ?_
        rintro e w1 ⟨rfl, hB⟩
        clear hV
        go_wp2_with fail
        go_end0
        exact ⟨rfl, hB⟩
      · rw [show cleanB bs = false from decide_eq_false fun h => h3 h.2.2]
        rw [decide_eq_false h3] at hV
        clear h1 h2 h3
        go_enter Tryd.func49, Tryd.ntmps49
        go_wp2_with fail
        go_at_call 57
        refine hV.mono ?_
        rintro e w1 ⟨rfl, hB⟩
        clear hV
        go_wp2_with fail
        exact ⟨rfl, rfl, hB⟩
set_option maxRecDepth 100000 in
set_option maxHeartbeats 2000000 in
theorem caught_idle (p : Addr) (w : World) :
    CallsD Tryd.prog 48 #[.pointer (some p)] .returning w fun e u' w' => e = .returned (.tuple #[]) ∧ u' = .returning ∧ w' = w := by
  refine callsD_of_wpS Tryd.func48 rfl fun c₀ cs hu => ?_
  apply wpS_seq
  apply wpS_region
  simp [wpOpsS, go_sem, recoverD, hu, Tryd.ntmps48, Exit.thenS]
  refine wpS_of_wp ?_
  go_wp2
  cases c₀
  simp_all [bodyPostS, results, Tryd.results48]
set_option maxRecDepth 100000 in
set_option maxHeartbeats 2000000 in
theorem caught_take (b : Nat) (v0 : Value) (w : World) (hb : Boxed w b 4 v0) :
    CallsD Tryd.prog 48 #[.pointer (some ⟨b, 0, none⟩)] (.panicking [{ v := .iface 63 (.agg #[]), recovered := false }]) w fun e u' w' => e = .returned (.tuple #[]) ∧ u' = .panicking [{ v := .iface 63 (.agg #[]), recovered := true }] ∧ ∃ w1, Below w.heap.size w w1 ∧ w' = w1.setCell ⟨b, 0, none⟩ (.bool false) := by
  have hta : ∀ w, (Instr.typeAssert (.iface 63 (.agg #[])) 20 63 true).run Tryd.prog w = .ok (.tuple #[.agg #[], .bool true]) w := fun _ => by kernel_rfl
  refine callsD_of_wpS Tryd.func48 rfl fun c₀ cs hu => ?_
  apply wpS_seq
  apply wpS_region
  simp [wpOpsS, go_sem, recoverD, hu, Tryd.ntmps48, Exit.thenS]
  refine wpS_of_wp ?_
  have hb2 := hb.alloc (.cells #[] 63)
  have hc2 := hb2.cell
  have hf2 := hb2.frozen
  have hA : Below w.heap.size w (w.alloc (.cells #[] 63)) := (Below.refl _ _).alloc (Nat.le_refl _) _
  go_wp2
  cases c₀
  simp_all [bodyPostS, results, Tryd.results48]
  exact ⟨_, hA, rfl⟩
set_option maxRecDepth 100000 in
set_option maxHeartbeats 2000000 in
theorem isClean_any (sv : Value) (bs : List UInt8) (hreach : bs.length ≤ 100000) (w : World) (hS : Sl eB w.heap.size w sv bs) (hT : Tab w) :
    Calls Tryd.prog 39 #[sv] w fun e w' => e = .returned (.bool (cleanB bs)) ∧ Below w.heap.size w w' := by
  have hmf : ∀ (fn : Fn) (first cap : Array Value) (w : World), (Instr.makeFunc fn first cap).run Tryd.prog w = .ok (.func fn first cap) w := fun _ _ _ _ => rfl
  have hA := (Below.refl w.heap.size w).alloc (Nat.le_refl _) (.cells #[.bool false] 4)
  have hb0 := Boxed.new w 4 (.bool false)
  have hM := Must_any sv bs hreach _ (hS.next hA) (hT.below hA)
  obtain ⟨A, c, rfl⟩ := hS.len
  clear hS hT
  cases hcl : cleanB bs with
  | true =>
    rw [hcl] at hM
    go_enter_defers Tryd.func39, Tryd.ntmps39
    go_wp2_with fail
    go_at_call 49
    refine hM.mono ?_
    rintro e w1 ⟨rfl, hB⟩
    have hb2 : Boxed w1 w.heap.size 4 (.bool false) := (hB.block w.heap.size hb0.lt).trans hb0
    have hc := hb2.cell
    have hf := hb2.frozen
    simp only [mustE]
    go_wp2
    refine leaves_cons (f := 48) (args := #[.pointer (some ⟨w.heap.size, 0, none⟩)]) (by simp) (by simp [go_sem]) ?_
    refine (caught_idle ⟨w.heap.size, 0, none⟩ _).mono ?_
    rintro e u' w'' ⟨rfl, rfl, rfl⟩
    have hc5 := (hb2.set (.bool true)).cell
    refine ⟨.bool true, ?_, rfl, (below_trans hA hB).setCell (by simp) _⟩
    simp [results, Tryd.f39, go_sem, hc5]
  | false =>
    rw [hcl] at hM
    go_enter_defers Tryd.func39, Tryd.ntmps39
    go_wp2_with fail
    go_at_call 49
    refine hM.mono ?_
    rintro e w1 ⟨rfl, hB⟩
    have hb2 : Boxed w1 w.heap.size 4 (.bool false) := (hB.block w.heap.size hb0.lt).trans hb0
    simp only [mustE]
    go_wp2
    refine leaves_cons (f := 48) (args := #[.pointer (some ⟨w.heap.size, 0, none⟩)]) (by simp) (by simp [go_sem]) ?_
    refine (caught_take w.heap.size _ w1 hb2).mono ?_
    rintro e u' w'' ⟨rfl, rfl, w3, hB3, rfl⟩
    have hb3 : Boxed w3 w.heap.size 4 (.bool false) := (hB3.block w.heap.size hb2.lt).trans hb2
    have hc5 := (hb3.set (.bool false)).cell
    refine ⟨.bool false, ?_, rfl, (below_trans hA (below_trans hB hB3)).setCell (by simp) _⟩
    simp [results, Tryd.f39, go_sem, hc5]
end Go.Proofs.YtgblkcddhnigaaaDoor
