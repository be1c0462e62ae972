/- Contract of extra.Find. -/
import Derived.Test.YtpjpfgahjalggaaDoorExE
import Derived.Defers
import Derived.Recover
namespace Go.Proofs.YtpjpfgahjalggaaDoor
open Go.RowKit Go.Shelf
attribute [local go_sem] Oper.semAt_some run_store_func

theorem findE_lt {y : List UInt8} {a b c : Int} {p : Nat} (h : findE y a b c = .ok p) : p < y.length := by
  unfold findE at h
  split at h
  · cases h
  · split at h
    · cases h
    · cases hf : (List.range y.length).find? (hitE y a b c) with
      | none => rw [hf] at h; cases h
      | some q =>
        rw [hf] at h
        cases h
        obtain ⟨-, hq, -⟩ := List.find?_range_eq_some.1 hf
        simpa using hq
set_option maxRecDepth 100000 in
set_option maxHeartbeats 2000000 in
theorem ecatch_idle (p q r : Addr) (w : World) :
    CallsD Tryd.prog 17 #[.pointer (some p), .pointer (some q), .pointer (some r)] .returning w fun e u' w' => e = .returned (.tuple #[]) ∧ u' = .returning ∧ w' = w := by
  refine callsD_of_wpS Tryd.func17 rfl fun c₀ cs hu => ?_
  apply wpS_seq
  apply wpS_region
  simp [wpOpsS, go_sem, recoverD, hu, Tryd.ntmps17, Exit.thenS]
  refine wpS_of_wp ?_
  go_wp2
  cases c₀
  simp_all [bodyPostS, results, Tryd.results17]
set_option maxRecDepth 100000 in
set_option maxHeartbeats 2000000 in
theorem ecatch_take (b1 b2 b3 : Nat) (n : Int) (v1 v2 v3 : Value) (w : World) (h12 : b1 ≠ b2) (h13 : b1 ≠ b3) (h23 : b2 ≠ b3) (c1 : Boxed w b1 22 v1) (c2 : Boxed w b2 3 v2) (c3 : Boxed w b3 26 v3) :
    CallsD Tryd.prog 17 #[.pointer (some ⟨b1, 0, none⟩), .pointer (some ⟨b2, 0, none⟩), .pointer (some ⟨b3, 0, none⟩)] (.panicking (errno n)) w fun e u' w' => e = .returned (.tuple #[]) ∧ u' = .panicking [{ v := .iface 26 (.int .i64 n), recovered := true }] ∧
      w' = ((w.setCell ⟨b1, 0, none⟩ (.slice none 0 0)).setCell ⟨b2, 0, none⟩ (.int .i64 0)).setCell ⟨b3, 0, none⟩ (.int .i64 n) := by
  have hta : ∀ w, (Instr.typeAssert (.iface 26 (.int .i64 n)) 20 26 true).run Tryd.prog w = .ok (.tuple #[.int .i64 n, .bool true]) w := fun _ => by kernel_rfl
  have x1 := c1.cell
  have x2 := c1.frozen
  have d2 : Boxed (w.setCell ⟨b1, 0, none⟩ (.slice none 0 0)) b2 3 v2 := (Below.heap_setCell w ⟨b1, 0, none⟩ _ b2 (fun e => h12 e.symm)).trans c2
  have d3 : Boxed (w.setCell ⟨b1, 0, none⟩ (.slice none 0 0)) b3 26 v3 := (Below.heap_setCell w ⟨b1, 0, none⟩ _ b3 (fun e => h13 e.symm)).trans c3
  have e3 : Boxed ((w.setCell ⟨b1, 0, none⟩ (.slice none 0 0)).setCell ⟨b2, 0, none⟩ (.int .i64 0)) b3 26 v3 := (Below.heap_setCell _ ⟨b2, 0, none⟩ _ b3 (fun e => h23 e.symm)).trans d3
  have y1 := d2.cell
  have y2 := d2.frozen
  have z1 := e3.cell
  have z2 := e3.frozen
  clear c1 c2 c3 d2 d3 e3
  refine callsD_of_wpS Tryd.func17 rfl fun c₀ cs hu => ?_
  apply wpS_seq
  apply wpS_region
  simp [wpOpsS, go_sem, recoverD, hu, Tryd.ntmps17, Exit.thenS]
  refine wpS_of_wp ?_
  go_wp2
  cases c₀
  simp_all [bodyPostS, results, Tryd.results17]
end Go.Proofs.YtpjpfgahjalggaaDoor
