/- The law's own wakes. -/
import Derived.Test.YtbkmnpagmpkcjaaDoorBtG
namespace Go.Proofs.YtbkmnpagmpkcjaaDoor
open Go.RowKit Go.Shelf
attribute [local go_sem] Oper.semAt_some

theorem below_alloc (w : World) (o : Obj) : Below w.heap.size w (w.alloc o) := (Below.refl _ w).alloc (Nat.le_refl _) o

set_option maxRecDepth 100000 in
set_option maxHeartbeats 2000000 in
theorem wakes_any (w : World) (hT : Tab w) : Calls Tryd.prog 7 #[] w fun e w' => e = .returned (.bool true) ∧ Below w.heap.size w w' := by
  have kc := fun (w : World) (C : Array Value) (n c : Nat) => Lib.run_convert_bytes_const (P := Tryd.prog) w 24 5 C n c Tryd.underlying24 Tryd.underlying5
  go_enter Tryd.func7, Tryd.ntmps7
  go_wp2_with fail
  go_at_call 9
  have hA0 := below_alloc w (.cells #[.int .u8 1, .int .u8 0, .int .u8 0, .int .u8 1] 5)
  refine (Field_any _ [1, 0, 0, 1] (by simp) _ (Sl.new eB w [1, 0, 0, 1] #[.int .u8 1, .int .u8 0, .int .u8 0, .int .u8 1] _ _ 4 4 rfl (by simp) rfl) (hT.below hA0)).mono ?_
  rintro e w1 ⟨v1, hB1, hor⟩
  obtain ⟨rfl, -, hv1⟩ := hor.resolve_right (fun h => absurd h.2 (by decide))
  clear hor
  rw [show fieldOf [1, 0, 0, 1] = [84, 67, 65, 71] from by decide] at hv1
  have hB1' : Below w.heap.size w w1 := below_trans hA0 hB1
  have hT1 : Tab w1 := hT.below hB1'
  clear hA0 hB1 hT
  go_wp2_with fail
  go_at_call 15
  refine (Number_yes 5 4 (by decide) (by decide) (by decide) _).mono ?_
  rintro e w2 ⟨v2, hB2, rfl, hv2⟩
  rw [show numOf 5 4 = [0, 1, 0, 1] from by decide] at hv2
  have hBw2 : Below w.heap.size w w2 := below_trans hB1' hB2
  have hT2 : Tab w2 := hT1.below hB2
  have hv1' := hv1.next hB2
  clear hB1' hB2 hT1 hv1
  go_wp2_with fail
  go_at_call 10
  have hA2 := below_alloc w2 (.cells #[.int .u8 67] 5 (1, 2))
  refine (Back_any _ [67] (by simp) _ (Sl.new eB w2 [67] #[.int .u8 67] _ _ 1 1 rfl (by simp) rfl) (hT2.below hA2)).mono ?_
  rintro e w3 ⟨v3, hB3, hor⟩
  obtain ⟨rfl, -⟩ := hor.resolve_left (fun h => absurd h.2.1 (by simp [LetterAt, clsOf]))
  clear hor
  have hB3' := below_trans hA2 hB3
  have hBw3 : Below w.heap.size w w3 := below_trans hBw2 hB3'
  have hv1'' := hv1'.next hB3'
  have hv2' := hv2.next hB3'
  clear hA2 hB3 hB3' hBw2 hT2 hv1' hv2
  go_wp2_with fail
  go_at_call 11
  have hA3 := below_alloc w3 (.cells #[.int .u8 84, .int .u8 67, .int .u8 65, .int .u8 71] 5 (4, 5))
  refine (same_is _ _ [84, 67, 65, 71] [84, 67, 65, 71] true (by decide) _ _ (hv1''.next hA3) (Sl.new eB w3 [84, 67, 65, 71] #[.int .u8 84, .int .u8 67, .int .u8 65, .int .u8 71] _ _ 4 4 rfl (by simp) rfl)).mono ?_
  rintro e w' ⟨rfl, rfl⟩
  have hv2'' := hv2'.next hA3
  have hBw4 := below_trans hBw3 hA3
  clear hA3 hBw3 hv1'' hv2'
  generalize w3.alloc _ = w4 at *
  go_wp2_with fail
  go_at_call 11
  have hA4 := below_alloc w4 (.cells #[.int .u8 0, .int .u8 1, .int .u8 0, .int .u8 1] 5)
  refine (same_is _ _ [0, 1, 0, 1] [0, 1, 0, 1] true (by decide) _ _ (hv2''.next hA4) (Sl.new eB w4 [0, 1, 0, 1] #[.int .u8 0, .int .u8 1, .int .u8 0, .int .u8 1] _ _ 4 4 rfl (by simp) rfl)).mono ?_
  rintro e w' ⟨rfl, rfl⟩
  have hBw5 := below_trans hBw4 hA4
  clear hA4 hBw4 hv2''
  generalize w4.alloc _ = w5 at *
  go_wp2_with fail
  go_at_call 17
  refine (Even_any 3 _).mono ?_
  rintro e w' ⟨rfl, rfl⟩
  rw [show evenOf 3 = 4 by rw [evenOf, IntWalk.wrap64_in _ (by omega)]; rfl]
  go_wp2_with fail
  go_at_call 14
  refine (Need_any 8 (by decide) (by decide) _).mono ?_
  rintro e w' ⟨rfl, rfl⟩
  rw [show Lib.bitLen (8 : Int).toNat = 4 by decide]
  go_wp2
  go_ret
  exact ⟨rfl, hBw5⟩
end Go.Proofs.YtbkmnpagmpkcjaaDoor
