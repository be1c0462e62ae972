/- Contracts of rs.Encode and Word. -/
import Derived.Test.YtkldapdebjlfmaaRsH
namespace Go.Proofs.Ytkldapdebjlfmaa
open Go.RowKit Go.Shelf
attribute [local go_sem] Oper.semAt_some run_store_func

set_option maxRecDepth 100000 in
set_option maxHeartbeats 1000000 in
theorem Enc1_yes (b1 b2 p : Nat) (A : Option Addr) (c : Nat) (data : List UInt8) (hp : p + data.length ≤ 255) (w : World) (h1 : w.cell? ⟨b1, 0, none⟩ = some (.int .i64 p)) (h2 : w.cell? ⟨b2, 0, none⟩ = some (.slice A data.length c)) (hS : Sl eB w.heap.size w (.slice A data.length c) data) :
    Calls Try.prog 28 #[.pointer (some ⟨b1, 0, none⟩), .pointer (some ⟨b2, 0, none⟩)] w fun e w' => ∃ v, e = .returned v ∧ Sl eB w'.heap.size w' v (restL p data) ∧ Below w.heap.size w w' := by
  have e1 : IntKind.i64.wrap (255 - (data.length : Int)) = 255 - (data.length : Int) := IntWalk.i64_in _ (by omega)
  have d1 : decide ((0 : Int) ≤ (p : Int)) = true := decide_eq_true (by omega)
  have d2 : decide ((p : Int) ≤ 255 - (data.length : Int)) = true := decide_eq_true (by omega)
  have hr := rsRest_any p (by omega) (.slice A data.length c) data (by omega) w hS
  go_enter Try.func28, Try.ntmps28
  go_wp2_with fail
  go_at_call 22
  refine (must_yes w).mono ?_
  rintro e w' ⟨rfl, rfl⟩
  go_wp2_with fail
  go_at_call 29
  refine hr.mono ?_
  rintro e w3 ⟨v3, rfl, hv3, hB3⟩
  go_wp2
  go_ret
  exact ⟨v3, rfl, hv3, hB3⟩
set_option maxRecDepth 100000 in
set_option maxHeartbeats 1000000 in
theorem Enc1_no (b1 b2 : Nat) (p : Int) (A : Option Addr) (c : Nat) (n : Nat) (hn : n ≤ 100000) (hp : p < 0 ∨ 255 - (n : Int) < p) (w : World) (h1 : w.cell? ⟨b1, 0, none⟩ = some (.int .i64 p)) (h2 : w.cell? ⟨b2, 0, none⟩ = some (.slice A n c)) :
    Calls Try.prog 28 #[.pointer (some ⟨b1, 0, none⟩), .pointer (some ⟨b2, 0, none⟩)] w fun e w' => e = .panicked [{ v := .iface 24 (.int .i64 2), recovered := false }] ∧ Below w.heap.size w w' := by
  have e1 : IntKind.i64.wrap (255 - (n : Int)) = 255 - (n : Int) := IntWalk.i64_in _ (by omega)
  by_cases h0 : p < 0
  · have d1 : decide ((0 : Int) ≤ p) = false := decide_eq_false (by omega)
    clear hp
    go_enter Try.func28, Try.ntmps28
    go_wp2_with fail
    go_at_call 22
    refine (must_no w).mono ?_
    rintro e w' ⟨rfl, rfl⟩
    go_wp2
    exact ⟨rfl, rfl, Below.refl _ _⟩
  · have d1 : decide ((0 : Int) ≤ p) = true := decide_eq_true (by omega)
    have d2 : decide (p ≤ 255 - (n : Int)) = false := decide_eq_false (by omega)
    clear hp
    go_enter Try.func28, Try.ntmps28
    go_wp2_with fail
    go_at_call 22
    refine (must_no w).mono ?_
    rintro e w' ⟨rfl, rfl⟩
    go_wp2
    exact ⟨rfl, rfl, Below.refl _ _⟩
set_option maxRecDepth 100000 in
set_option maxHeartbeats 1000000 in
theorem Encode_yes (dv : Value) (data : List UInt8) (p : Nat) (hp : p + data.length ≤ 255) (w : World) (hS : Sl eB w.heap.size w dv data) :
    Calls Try.prog 12 #[dv, .int .i64 p] w fun e w' => ∃ v, e = .returned (.tuple #[v, .int .i64 0]) ∧ Sl eB w'.heap.size w' v (restL p data) ∧ Below w.heap.size w w' := by
  have hmf : ∀ (fn : Fn) (first cap : Array Value) (w : World), (Instr.makeFunc fn first cap).run Try.prog w = .ok (.func fn first cap) w := fun _ _ _ _ => rfl
  obtain ⟨A, c, rfl⟩ := hS.len
  have hA1 := below_alloc w (.cells #[.slice A data.length c] 22)
  have hA2 := below_alloc (w.alloc (.cells #[.slice A data.length c] 22)) (.cells #[.int .i64 p] 3)
  have hA := below_trans hA1 hA2
  have hb1 := (Boxed.new w 22 (.slice A data.length c)).alloc (.cells #[.int .i64 p] 3)
  have hb2 := Boxed.new (w.alloc (.cells #[.slice A data.length c] 22)) 3 (.int .i64 p)
  rw [World.size_alloc] at hb2
  obtain ⟨w0, hw0⟩ : ∃ w0, (w.alloc (.cells #[.slice A data.length c] 22)).alloc (.cells #[.int .i64 p] 3) = w0 := ⟨_, rfl⟩
  rw [hw0] at hA hb1 hb2
  have hS0 := hS.next hA
  have ht := told_yes (restL p data) 28 #[.pointer (some ⟨w.heap.size + 1, 0, none⟩), .pointer (some ⟨w.heap.size, 0, none⟩)] w0 (enters_of Try.func28 (by kernel_rfl) rfl _)
    (fun w1 h => Enc1_yes (w.heap.size + 1) w.heap.size p A c data hp w1 ((h.cell (p := ⟨w.heap.size + 1, 0, none⟩) hb2.lt).trans hb2.cell) ((h.cell (p := ⟨w.heap.size, 0, none⟩) hb1.lt).trans hb1.cell) (hS0.next h))
  clear hA1 hA2 hb1 hb2
  go_enter Try.func12, Try.ntmps12
  go_wp2_with fail
  go_at_call 20
  refine ht.mono ?_
  rintro e w2 ⟨v2, rfl, hv2, hB2⟩
  go_wp2
  go_ret2
  exact ⟨v2, rfl, hv2, below_trans hA hB2⟩
set_option maxRecDepth 100000 in
set_option maxHeartbeats 1000000 in
theorem Encode_no (A : Option Addr) (n c : Nat) (hn : n ≤ 100000) (p : Int) (hp : p < 0 ∨ 255 - (n : Int) < p) (w : World) :
    Calls Try.prog 12 #[.slice A n c, .int .i64 p] w fun e w' => e = .returned (.tuple #[.slice none 0 0, .int .i64 2]) ∧ Below w.heap.size w w' := by
  have hmf : ∀ (fn : Fn) (first cap : Array Value) (w : World), (Instr.makeFunc fn first cap).run Try.prog w = .ok (.func fn first cap) w := fun _ _ _ _ => rfl
  have hA1 := below_alloc w (.cells #[.slice A n c] 22)
  have hA2 := below_alloc (w.alloc (.cells #[.slice A n c] 22)) (.cells #[.int .i64 p] 3)
  have hA := below_trans hA1 hA2
  have hb1 := (Boxed.new w 22 (.slice A n c)).alloc (.cells #[.int .i64 p] 3)
  have hb2 := Boxed.new (w.alloc (.cells #[.slice A n c] 22)) 3 (.int .i64 p)
  rw [World.size_alloc] at hb2
  obtain ⟨w0, hw0⟩ : ∃ w0, (w.alloc (.cells #[.slice A n c] 22)).alloc (.cells #[.int .i64 p] 3) = w0 := ⟨_, rfl⟩
  rw [hw0] at hA hb1 hb2
  have ht := told_no 2 28 #[.pointer (some ⟨w.heap.size + 1, 0, none⟩), .pointer (some ⟨w.heap.size, 0, none⟩)] w0 (enters_of Try.func28 (by kernel_rfl) rfl _)
    (fun w1 h => Enc1_no (w.heap.size + 1) w.heap.size p A c n hn hp w1 ((h.cell (p := ⟨w.heap.size + 1, 0, none⟩) hb2.lt).trans hb2.cell) ((h.cell (p := ⟨w.heap.size, 0, none⟩) hb1.lt).trans hb1.cell))
  clear hA1 hA2 hb1 hb2 hp
  go_enter Try.func12, Try.ntmps12
  go_wp2_with fail
  go_at_call 20
  refine ht.mono ?_
  rintro e w2 ⟨rfl, hB2⟩
  go_wp2
  go_ret2
  exact ⟨rfl, below_trans hA hB2⟩
set_option maxRecDepth 100000 in
set_option maxHeartbeats 1000000 in
theorem Word_yes (dv : Value) (data : List UInt8) (p : Nat) (hp : p + data.length ≤ 255) (w : World) (hS : Sl eB w.heap.size w dv data) :
    Calls Try.prog 14 #[dv, .int .i64 p] w fun e w' => ∃ v, e = .returned (.tuple #[v, .int .i64 0]) ∧ Own8 w.heap.size w' v (data ++ restL p data) ∧ Below w.heap.size w w' := by
  have hE := Encode_yes dv data p hp w hS
  obtain ⟨A, c, rfl⟩ := hS.len
  have hlr := restL_length p data
  generalize restL p data = R at *
  go_enter Try.func14, Try.ntmps14
  go_wp2_with fail
  go_at_call 12
  refine hE.mono ?_
  rintro e w1 ⟨v1, rfl, hv1, hB1⟩
  obtain ⟨A1, c1, rfl⟩ := hv1.len
  have hS1 := hS.next hB1
  have hAl := below_alloc w1 (.cells #[.slice A data.length c, .slice A1 R.length c1] 22)
  have hr0 := Rowed.new w1 22 #[.slice A data.length c, .slice A1 R.length c1]
  have g0 := hr0.cell 0
  have g1 := hr0.cell 1
  have hlt := hr0.lt
  have g0' : (w1.alloc (.cells #[.slice A data.length c, .slice A1 R.length c1] 22)).cell? ⟨w1.heap.size, 0, none⟩ = some (.slice A data.length c) := g0
  have g1' : (w1.alloc (.cells #[.slice A data.length c, .slice A1 R.length c1] 22)).cell? ⟨w1.heap.size, 1, none⟩ = some (.slice A1 R.length c1) := g1
  have hcc := Concat2_any w1.heap.size A A1 c c1 data R (by omega) (by omega) _ g0' g1' (hS1.next hAl) (hv1.next hAl) hlt
  clear hr0 g0 g1 hlt g0' g1' hE hlr
  go_wp2_with fail
  generalize w1.alloc (.cells #[.slice A data.length c, .slice A1 R.length c1] 22) = w2 at *
  go_at_call 33
  refine hcc.mono ?_
  rintro e w3 ⟨v3, rfl, hv3, hB3⟩
  go_wp2
  go_ret2
  exact ⟨v3, rfl, hv3.mono (by have := hB1.size; have := hAl.size; omega), below_trans (below_trans hB1 hAl) hB3⟩
set_option maxRecDepth 100000 in
set_option maxHeartbeats 1000000 in
theorem Word_no (A : Option Addr) (n c : Nat) (hn : n ≤ 100000) (p : Int) (hp : p < 0 ∨ 255 - (n : Int) < p) (w : World) :
    Calls Try.prog 14 #[.slice A n c, .int .i64 p] w fun e w' => e = .returned (.tuple #[.slice none 0 0, .int .i64 2]) ∧ Below w.heap.size w w' := by
  have hE := Encode_no A n c hn p hp w
  clear hp
  go_enter Try.func14, Try.ntmps14
  go_wp2_with fail
  go_at_call 12
  refine hE.mono ?_
  rintro e w1 ⟨rfl, hB1⟩
  go_wp2
  go_ret2
  exact ⟨rfl, hB1⟩
end Go.Proofs.Ytkldapdebjlfmaa
