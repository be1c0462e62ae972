/- Contract of helixref12.Unpack. -/
import Derived.Test.YtheealkoooiloaaDoorSxC
import Derived.Test.YtheealkoooiloaaDoorSxE
namespace Go.Proofs.YtheealkoooiloaaDoor
open Go.RowKit Go.Shelf
attribute [local go_sem] Oper.semAt_some run_store_func

/-- What Unpack does. -/
abbrev UnRef (x : List UInt8) (n : Int) (w : World) : Ending → World → Prop := fun e w' => Below w.heap.size w w' ∧
      ((∃ a b c : Nat, unG x n = some (a, b, c) ∧ e = .returned (.tuple #[v3 a b c, .int .i64 0])) ∨ (unG x n = none ∧ e = .returned (.tuple #[v3 0 0 0, .int .i64 2])))
set_option maxRecDepth 100000 in
set_option maxHeartbeats 2000000 in
theorem rUnpack_may (A : Option Addr) (c : Nat) (x : List UInt8) (n : Int) (hm : mayB n = false) (w : World) :
    Calls Tryd.prog 14 #[.slice A x.length c, .int .i64 n] w (UnRef x n w) := by
  obtain ⟨hz, hsz⟩ := zero_of_info infoS
  have hc0 : (v3 0 0 0).cells = #[.int .i64 0, .int .i64 0, .int .i64 0] := rfl
  have hbd0 : ∀ w, (Instr.build 24 #[]).run Tryd.prog w = .ok (v3 0 0 0) w := fun _ => by kernel_rfl
  have hmy := refmay_any n
  rw [hm] at hmy
  have Hg : Hid (unG x n = none) := Lib.hid (by rw [unG, if_neg (fun h => by rw [hm] at h; exact absurd h.1 (by simp))])
  have hr0 := Rowed.new w 24 (c3 0 0 0)
  have hA0 := below_alloc w (.cells (c3 0 0 0) 24)
  clear hm
  go_enter Tryd.func14, Tryd.ntmps14
  go_upto_region 1 with fail
  generalize w.alloc (.cells (c3 0 0 0) 24) = w1 at *
  have k0 := hr0.cell 0
  have k1 := hr0.cell 1
  have k2 := hr0.cell 2
  have f0 := hr0.frozen 0
  have f1 := hr0.frozen 1
  have f2 := hr0.frozen 2
  simp at k0 k1 k2
  go_wp2_with (go_at_call 34; refine (hmy _).mono ?_; rintro e w' ⟨rfl, rfl⟩)
  refine bodyPost_ret (v := .tuple #[v3 0 0 0, .int .i64 2]) ?_ rfl ⟨below3 hA0 _ (Nat.le_refl _) _ _ _, .inr ⟨Hg.out, rfl⟩⟩
  exact results_cell_slot (p := 4) (q := 5) rfl _ _ w.heap.size _ _ _ _ rfl (row3 hr0 0 0 0) Tryd.underlying24 rfl (size_c3 0 0 0)
set_option maxRecDepth 100000 in
set_option maxHeartbeats 4000000 in
theorem rUnpack_len (A : Option Addr) (c : Nat) (x : List UInt8) (n : Nat) (h2 : 2 ≤ n) (h1 : n ≤ 1000) (hl : x.length ≠ longN n) (w : World) :
    Calls Tryd.prog 14 #[.slice A x.length c, .int .i64 n] w (UnRef x n w) := by
  obtain ⟨hz, hsz⟩ := zero_of_info infoS
  have hc0 : (v3 0 0 0).cells = #[.int .i64 0, .int .i64 0, .int .i64 0] := rfl
  have hbd0 : ∀ w, (Instr.build 24 #[]).run Tryd.prog w = .ok (v3 0 0 0) w := fun _ => by kernel_rfl
  have hm : mayB n = true := by unfold mayB; rw [decide_eq_true (by omega), decide_eq_true (by omega)]; rfl
  have hmy := refmay_any n
  rw [hm] at hmy
  have hL := rLong_yes n h2 h1
  have Hg : Hid (unG x n = none) := Lib.hid (by rw [unG, if_neg (fun h => hl (by simpa using h.2.1))])
  have hne : ((x.length : Int) != (longN n : Int)) = true := by rw [bne_iff_ne]; omega
  have hr0 := Rowed.new w 24 (c3 0 0 0)
  have hA0 := below_alloc w (.cells (c3 0 0 0) 24)
  clear hm hl
  generalize longN n = L at *
  go_enter Tryd.func14, Tryd.ntmps14
  go_upto_region 1 with fail
  generalize w.alloc (.cells (c3 0 0 0) 24) = w1 at *
  have k0 := hr0.cell 0
  have k1 := hr0.cell 1
  have k2 := hr0.cell 2
  have f0 := hr0.frozen 0
  have f1 := hr0.frozen 1
  have f2 := hr0.frozen 2
  simp at k0 k1 k2
  go_wp2_with (first
    | (go_at_call 34; refine (hmy _).mono ?_; rintro e w' ⟨rfl, rfl⟩)
    | (go_at_call 20; refine (hL _).mono ?_; rintro e w' ⟨rfl, rfl⟩))
  refine bodyPost_ret (v := .tuple #[v3 0 0 0, .int .i64 2]) ?_ rfl ⟨below3 hA0 _ (Nat.le_refl _) _ _ _, .inr ⟨Hg.out, rfl⟩⟩
  exact results_cell_slot (p := 4) (q := 5) rfl _ _ w.heap.size _ _ _ _ rfl (row3 hr0 0 0 0) Tryd.underlying24 rfl (size_c3 0 0 0)
end Go.Proofs.YtheealkoooiloaaDoor
