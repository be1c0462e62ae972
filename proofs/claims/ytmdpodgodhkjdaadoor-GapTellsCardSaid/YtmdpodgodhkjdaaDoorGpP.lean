/- Contract of gap.places, with the places of what it holds. -/
import Derived.Test.YtmdpodgodhkjdaaDoorGpD
import Derived.Test.YtmdpodgodhkjdaaDoorRiB
namespace Go.Proofs.YtmdpodgodhkjdaaDoor
open Go.RowKit Go.Shelf
attribute [local go_sem] Oper.semAt_some run_store_func

set_option maxRecDepth 100000 in
set_option maxHeartbeats 1000000 in
theorem placesAt_any (A : Option Addr) (cap : Nat) (y : List UInt8) (c : UInt8) (hreach : y.length ≤ 1000000) (w : World) (hS : Sl eB w.heap.size w (.slice A y.length cap) y) :
    Calls Tryd.prog 41 #[.slice A y.length cap, eB c] w fun e w' => Below w.heap.size w w' ∧ ∃ b1, e = .returned (.func (.func 59) #[] #[.pointer (some ⟨b1, 0, none⟩), .pointer (some ⟨w.heap.size, 0, none⟩), .pointer (some ⟨w.heap.size + 1, 0, none⟩)]) ∧
      w.heap.size + 2 < b1 ∧ b1 < w'.heap.size ∧ w'.cell? ⟨b1, 0, none⟩ = some (.slice (some ⟨w.heap.size + 2, 0, none⟩) y.length y.length) ∧ (∀ i, i < y.length → w'.cell? ⟨w.heap.size + 2, i, none⟩ = some (.bool (riseB y i))) ∧ w'.cell? ⟨w.heap.size, 0, none⟩ = some (.slice A y.length cap) ∧ w'.cell? ⟨w.heap.size + 1, 0, none⟩ = some (eB c) := by
  have hmf : ∀ (fn : Fn) (first cap : Array Value) (w : World), (Instr.makeFunc fn first cap).run Tryd.prog w = .ok (.func fn first cap) w := fun _ _ _ _ => rfl
  have hR := fun w h => RisesAt_any (.slice A y.length cap) y hreach w h
  have hA : Below w.heap.size w ((w.alloc (.cells #[.slice A y.length cap] 22)).alloc (.cells #[eB c] 5)) := ((Below.refl _ w).alloc (Nat.le_refl _) _).alloc (by simp) _
  have hs0 : ((w.alloc (.cells #[.slice A y.length cap] 22)).alloc (.cells #[eB c] 5)).heap.size = w.heap.size + 2 := by simp
  have hb1 := (Boxed.new w 22 (.slice A y.length cap)).alloc (.cells #[eB c] 5)
  have hb2 := Boxed.new (w.alloc (.cells #[.slice A y.length cap] 22)) 5 (eB c)
  rw [World.size_alloc] at hb2
  have hS := hS.next hA
  go_enter Tryd.func41, Tryd.ntmps41
  go_upto_region 1 with fail
  generalize (w.alloc (.cells #[.slice A y.length cap] 22)).alloc (.cells #[.int .u8 c.toNat] 5) = w0 at *
  have k1 := hb1.cell
  go_wp2_with fail
  go_at_call 58
  refine (hR _ hS).mono ?_
  rintro e w1 ⟨hB, rfl, hl1, hv⟩
  have hb1 : Boxed w1 w.heap.size 22 (.slice A y.length cap) := (hB.block _ hb1.lt).trans hb1
  have hb2 : Boxed w1 (w.heap.size + 1) 5 (eB c) := (hB.block _ hb2.lt).trans hb2
  have hA1 := below_alloc w1 (.cells #[.slice (some ⟨w0.heap.size, 0, none⟩) y.length y.length] 69)
  have hbr := Boxed.new w1 69 (.slice (some ⟨w0.heap.size, 0, none⟩) y.length y.length)
  have hb1' := hb1.alloc (.cells #[.slice (some ⟨w0.heap.size, 0, none⟩) y.length y.length] 69)
  have hb2' := hb2.alloc (.cells #[.slice (some ⟨w0.heap.size, 0, none⟩) y.length y.length] 69)
  have hl2 := hbr.lt
  have hv' : ∀ i, i < y.length → (w1.alloc (.cells #[.slice (some ⟨w0.heap.size, 0, none⟩) y.length y.length] 69)).cell? ⟨w0.heap.size, i, none⟩ = some (.bool (riseB y i)) := fun i hi => (hA1.cell (p := ⟨w0.heap.size, i, none⟩) hl1).trans (hv i hi)
  clear hR hS k1 hb1 hb2 hv
  rw [hs0] at hbr hl1 hv' hb1' hb2' hl2 hA1
  go_wp2_with fail
  go_ret
  exact ⟨below_trans hA (below_trans hB hA1), w1.heap.size, rfl, hl1, hl2, hbr.cell, hv', hb1'.cell, hb2'.cell⟩
end Go.Proofs.YtmdpodgodhkjdaaDoor
