/- Contracts of rs.Generator. -/
import Derived.Test.YtkldapdebjlfmaaRsC
namespace Go.Proofs.Ytkldapdebjlfmaa
open Go.RowKit Go.Shelf
attribute [local go_sem] Oper.semAt_some run_store_func

theorem pows_collect (p : Nat) (hp : p ≤ 255) (w : World) : Calls Try.prog 24 #[.func (.func 42) #[] #[.pointer (some ⟨w.heap.size, 0, none⟩)]] (w.alloc (.cells #[.int .i64 p] 3)) fun e w' => ∃ v, e = .returned v ∧ Own8 (w.alloc (.cells #[.int .i64 p] 3)).heap.size w' v (pows2 p) ∧ Below (w.alloc (.cells #[.int .i64 p] 3)).heap.size (w.alloc (.cells #[.int .i64 p] 3)) w' := by
  have h := powers_stops 3 w.heap.size (w.alloc (.cells #[.int .i64 p] 3)).heap.size p hp (w.alloc (.cells #[.int .i64 p] 3)) (Nat.le_refl _) (Boxed.new w 3 (.int .i64 p)).cell
  rw [← pows2_length p] at h
  refine Collect_any 42 #[.pointer (some ⟨w.heap.size, 0, none⟩)] (pows2 p) (by rw [pows2_length]; omega) _ (enters_of Try.func42 (by kernel_rfl) rfl) ?_
  rw [pows2_length p] at h ⊢
  exact h
set_option maxRecDepth 100000 in
set_option maxHeartbeats 1000000 in
theorem Gen1_yes (b p : Nat) (hp : p ≤ 255) (w : World) (h1 : w.cell? ⟨b, 0, none⟩ = some (.int .i64 p)) :
    Calls Try.prog 21 #[.pointer (some ⟨b, 0, none⟩)] w fun e w' => ∃ v, e = .returned v ∧ Sl eB w'.heap.size w' v (RT (pows2 p)) ∧ Below w.heap.size w w' := by
  have d1 : decide ((0 : Int) ≤ (p : Int)) = true := decide_eq_true (by omega)
  have d2 : decide ((p : Int) ≤ 255) = true := decide_eq_true (by omega)
  have hA := below_alloc w (.cells #[.int .i64 p] 3)
  have hc := pows_collect p hp w
  have hR := fun v w h => Roots_any v (pows2 p) (by rw [pows2_length]; omega) w h
  go_enter Try.func21, Try.ntmps21
  go_wp2_with fail
  go_at_call 22
  refine (must_yes w).mono ?_
  rintro e w' ⟨rfl, rfl⟩
  go_wp2_with fail
  go_at_call 25
  refine (powers_any p w).mono ?_
  rintro e w' ⟨rfl, rfl⟩
  go_wp2_with fail
  go_at_call 24
  refine hc.mono ?_
  rintro e w2 ⟨v2, rfl, hv2, hB2⟩
  go_wp2_with fail
  go_at_call 23
  refine (hR v2 w2 hv2.sl).mono ?_
  rintro e w3 ⟨v3, rfl, hv3, hB3⟩
  go_wp2
  go_ret
  exact ⟨v3, rfl, hv3, below_trans (below_trans hA hB2) hB3⟩
set_option maxRecDepth 100000 in
set_option maxHeartbeats 1000000 in
theorem Gen1_no (b : Nat) (p : Int) (hp : p < 0 ∨ 255 < p) (w : World) (h1 : w.cell? ⟨b, 0, none⟩ = some (.int .i64 p)) :
    Calls Try.prog 21 #[.pointer (some ⟨b, 0, none⟩)] w fun e w' => e = .panicked [{ v := .iface 24 (.int .i64 2), recovered := false }] ∧ Below w.heap.size w w' := by
  by_cases h0 : p < 0
  · have d1 : decide ((0 : Int) ≤ p) = false := decide_eq_false (by omega)
    go_enter Try.func21, Try.ntmps21
    go_wp2_with fail
    go_at_call 22
    refine (must_no w).mono ?_
    rintro e w' ⟨rfl, rfl⟩
    go_wp2
    exact ⟨rfl, rfl, Below.refl _ _⟩
  · have d1 : decide ((0 : Int) ≤ p) = true := decide_eq_true (by omega)
    have d2 : decide (p ≤ 255) = false := decide_eq_false (by omega)
    clear hp
    go_enter Try.func21, Try.ntmps21
    go_wp2_with fail
    go_at_call 22
    refine (must_no w).mono ?_
    rintro e w' ⟨rfl, rfl⟩
    go_wp2
    exact ⟨rfl, rfl, Below.refl _ _⟩
set_option maxRecDepth 100000 in
set_option maxHeartbeats 1000000 in
theorem Generator_yes (p : Nat) (hp : p ≤ 255) (w : World) :
    Calls Try.prog 9 #[.int .i64 p] w fun e w' => ∃ v, e = .returned (.tuple #[v, .int .i64 0]) ∧ Sl eB w'.heap.size w' v (RT (pows2 p)) ∧ Below w.heap.size w w' := by
  have hmf : ∀ (fn : Fn) (first cap : Array Value) (w : World), (Instr.makeFunc fn first cap).run Try.prog w = .ok (.func fn first cap) w := fun _ _ _ _ => rfl
  have hA := below_alloc w (.cells #[.int .i64 p] 3)
  have hb := Boxed.new w 3 (.int .i64 p)
  have ht := told_yes (RT (pows2 p)) 21 #[.pointer (some ⟨w.heap.size, 0, none⟩)] (w.alloc (.cells #[.int .i64 p] 3)) (enters_of Try.func21 (by kernel_rfl) rfl _)
    (fun w1 h => Gen1_yes w.heap.size p hp w1 ((h.cell (p := ⟨w.heap.size, 0, none⟩) (by simp)).trans hb.cell))
  go_enter Try.func9, Try.ntmps9
  go_wp2_with fail
  go_at_call 20
  refine ht.mono ?_
  rintro e w2 ⟨v2, rfl, hv2, hB2⟩
  go_wp2
  go_ret2
  exact ⟨v2, rfl, hv2, below_trans hA hB2⟩
set_option maxRecDepth 100000 in
set_option maxHeartbeats 1000000 in
theorem Generator_no (p : Int) (hp : p < 0 ∨ 255 < p) (w : World) :
    Calls Try.prog 9 #[.int .i64 p] w fun e w' => e = .returned (.tuple #[.slice none 0 0, .int .i64 2]) ∧ Below w.heap.size w w' := by
  have hmf : ∀ (fn : Fn) (first cap : Array Value) (w : World), (Instr.makeFunc fn first cap).run Try.prog w = .ok (.func fn first cap) w := fun _ _ _ _ => rfl
  have hA := below_alloc w (.cells #[.int .i64 p] 3)
  have hb := Boxed.new w 3 (.int .i64 p)
  have ht := told_no 2 21 #[.pointer (some ⟨w.heap.size, 0, none⟩)] (w.alloc (.cells #[.int .i64 p] 3)) (enters_of Try.func21 (by kernel_rfl) rfl _)
    (fun w1 h => Gen1_no w.heap.size p hp w1 ((h.cell (p := ⟨w.heap.size, 0, none⟩) (by simp)).trans hb.cell))
  clear hp
  go_enter Try.func9, Try.ntmps9
  go_wp2_with fail
  go_at_call 20
  refine ht.mono ?_
  rintro e w2 ⟨rfl, hB2⟩
  go_wp2
  go_ret2
  exact ⟨rfl, below_trans hA hB2⟩
end Go.Proofs.Ytkldapdebjlfmaa
