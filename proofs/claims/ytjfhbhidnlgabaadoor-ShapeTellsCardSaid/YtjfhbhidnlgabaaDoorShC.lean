/- Contracts of the sizes that shape leans on: trits.Long, balance.Width, sums.Long. -/
import Derived.Test.YtjfhbhidnlgabaaDoorShB
import Derived.Shelf.Strconv.Itoa0
import Derived.Shelf.Lay
import Derived.Shelf.LaySoft
namespace Go.Proofs
open Go.Shelf
shelf_lay Lays.n129 Nm 129 at Tryd as YtjfhbhidnlgabaaDoor.lays129
end Go.Proofs
namespace Go.Proofs.YtjfhbhidnlgabaaDoor
open Go.RowKit Go.Shelf
attribute [local go_sem] Oper.semAt_some run_store_func

set_option maxHeartbeats 400000 in
theorem Len_any (x : Int) (h0 : 0 ≤ x) (h1 : x ≤ 18446744073709551615) (w : World) :
    Calls Tryd.prog 48 #[.int .u64 x] w fun e w' => e = .returned (.int .i64 (Lib.bitLen x.toNat)) ∧ w = w' := by
  have hc := fun w => Any.bits_Len64 YtjfhbhidnlgabaaDoor.lays129 x w h0 h1
  have hw : IntKind.u64.wrap x = x := IntWalk.u64_in _ (by omega)
  clear h0 h1
  go_enter Tryd.func48, Tryd.ntmps48
  go_wp2_with (go_at_call 55; refine (hc _).mono ?_; rintro e w' ⟨rfl, rfl⟩)
  go_ret
  exact ⟨rfl, rfl⟩
theorem Len_is (x : Int) (r : Nat) (hr : Lib.bitLen x.toNat = r) (h0 : 0 ≤ x) (h1 : x ≤ 18446744073709551615) (w : World) :
    Calls Tryd.prog 48 #[.int .u64 x] w fun e w' => e = .returned (.int .i64 r) ∧ w = w' := by subst hr; exact Len_any x h0 h1 w

/-- How many bits tell a place. -/
def widthOf (n : Int) : Nat := min (Lib.bitLen (max n 1).toNat + Lib.bitLen (max n 1).toNat % 2) 62
set_option maxRecDepth 100000 in
set_option maxHeartbeats 1000000 in
theorem Width_any (n : Int) (hn : n ≤ 9223372036854775807) (w : World) :
    Calls Tryd.prog 33 #[.int .i64 n] w fun e w' => e = .returned (.int .i64 (widthOf n)) ∧ w = w' := by
  obtain ⟨x, hx⟩ : ∃ x, max n 1 = x := ⟨_, rfl⟩
  have hx1 : 1 ≤ x := by omega
  have hx2 : x ≤ 9223372036854775807 := by omega
  have hlen := fun w => Len_any x (by omega) (by omega) w
  have hb64 : Lib.bitLen x.toNat ≤ 64 := Lib.bitLen_le _ 64 (by omega) (by omega)
  have hw : IntKind.u64.wrap x = x := IntWalk.u64_in _ (by omega)
  have Hw := Lib.hid (show widthOf n = min (Lib.bitLen x.toNat + Lib.bitLen x.toNat % 2) 62 by rw [widthOf, hx])
  generalize Lib.bitLen x.toNat = b at *
  have hm : (b : Int).tmod 2 = ((b % 2 : Nat) : Int) := by rw [Int.tmod_eq_emod_of_nonneg (by omega)]; omega
  go_enter Tryd.func33, Tryd.ntmps33
  go_wp2_with (go_at_call 48; refine (hlen _).mono ?_; rintro e w' ⟨rfl, rfl⟩)
  have hmin : min ((b : Int) + b % 2) 62 = ((min (b + b % 2) 62 : Nat) : Int) := by omega
  go_ret
  exact ⟨by rw [Hw.out, ← hmin]; rfl, rfl⟩
theorem Width_is (n : Int) (r : Nat) (hr : widthOf n = r) (hn : n ≤ 9223372036854775807) (w : World) :
    Calls Tryd.prog 33 #[.int .i64 n] w fun e w' => e = .returned (.int .i64 r) ∧ w = w' := by subst hr; exact Width_any n hn w

/-- The sizes, by the number of a payload. -/
def bodyK (k : Nat) : Int := 26 * (k + 1)
def indexK (k : Nat) : Int := if k < 2 then 6 else 8
def fieldK (k : Nat) : Int := if k = 0 then 16 else if k = 1 then 18 else 20
def innerK (k : Nat) : Int := bodyK k + indexK k

set_option maxRecDepth 100000 in
theorem TLong_is (k : Nat) (hk : k < 5) (w : World) :
    Calls Tryd.prog 30 #[.int .i64 (pay k + 3)] w fun e w' => e = .returned (.int .i64 (bodyK k)) ∧ w = w' := by
  rcases (show k = 0 ∨ k = 1 ∨ k = 2 ∨ k = 3 ∨ k = 4 by omega) with rfl | rfl | rfl | rfl | rfl
  all_goals
    simp only [pay, bodyK, Int.cast_ofNat_Int, Int.reduceMul, Int.reduceAdd]
    go_enter Tryd.func30, Tryd.ntmps30
    go_wp2
    go_ret
    exact ⟨rfl, rfl⟩
theorem BWidth_is (k : Nat) (hk : k < 5) (w : World) :
    Calls Tryd.prog 33 #[.int .i64 (bodyK k)] w fun e w' => e = .returned (.int .i64 (indexK k)) ∧ w = w' := by
  rcases (show k = 0 ∨ k = 1 ∨ k = 2 ∨ k = 3 ∨ k = 4 by omega) with rfl | rfl | rfl | rfl | rfl
  · exact Width_is 26 6 (by decide) (by omega) w
  · exact Width_is 52 6 (by decide) (by omega) w
  · exact Width_is 78 8 (by decide) (by omega) w
  · exact Width_is 104 8 (by decide) (by omega) w
  · exact Width_is 130 8 (by decide) (by omega) w

set_option maxRecDepth 100000 in
theorem need_is (x : Int) (r : Nat) (hr : Lib.bitLen x.toNat = r) (h0 : 0 ≤ x) (h1 : x ≤ 100000) (w : World) :
    Calls Tryd.prog 56 #[.int .i64 x] w fun e w' => e = .returned (.int .i64 r) ∧ w = w' := by
  have hw : IntKind.u64.wrap x = x := IntWalk.u64_in _ (by omega)
  have hL := fun w => Len_is x r hr h0 (by omega) w
  clear hr
  go_enter Tryd.func56, Tryd.ntmps56
  go_wp2_with (go_at_call 48; refine (hL _).mono ?_; rintro e w' ⟨rfl, rfl⟩)
  go_ret
  exact ⟨rfl, rfl⟩
/-- In how many bits sums of words of n letters stand: the 0 ahead, T, S, W. -/
def wideT (n : Nat) : Nat := Lib.bitLen (n - 1)
def wideW (n : Nat) : Nat := Lib.bitLen (6 * n)
set_option maxRecDepth 100000 in
set_option maxHeartbeats 1000000 in
theorem widths_is (n t v : Nat) (ht : wideT n = t) (hv : wideW n = v) (h2 : 2 ≤ n) (h3 : n ≤ 1000) (w : World) :
    Calls Tryd.prog 50 #[.int .i64 n] w fun e w' => e = .returned (.agg #[.int .i64 ((t + 2 + v) % 2 : Nat), .int .i64 t, .int .i64 2, .int .i64 v]) ∧ Below w.heap.size w w' := by
  have e1 : IntKind.i64.wrap ((n : Int) - 1) = ((n - 1 : Nat) : Int) := by rw [IntWalk.i64_in _ (by omega)]; omega
  have e2 : IntKind.i64.wrap (6 * (n : Int)) = ((6 * n : Nat) : Int) := by rw [IntWalk.i64_in _ (by omega)]; omega
  have n1 := fun w => need_is ((n - 1 : Nat) : Int) t (by rw [← ht]; rfl) (by omega) (by omega) w
  have n2 := fun w => need_is ((6 * n : Nat) : Int) v (by rw [← hv]; rfl) (by omega) (by omega) w
  have t64 : t ≤ 64 := by rw [← ht]; exact Lib.bitLen_le _ 64 (by omega) (by omega)
  have v64 : v ≤ 64 := by rw [← hv]; exact Lib.bitLen_le _ 64 (by omega) (by omega)
  clear ht hv
  obtain ⟨z, hz⟩ : ∃ z : Nat, (t + 2 + v) % 2 = z := ⟨_, rfl⟩
  rw [hz]
  have em : ((t : Int) + 2 + v) % 2 = (z : Int) := by omega
  clear hz
  have hbu : ∀ w, (Instr.build 45 #[(0, .int .i64 z), (1, .int .i64 t), (2, .int .i64 2), (3, .int .i64 v)]).run Tryd.prog w = .ok (.agg #[.int .i64 z, .int .i64 t, .int .i64 2, .int .i64 v]) w := fun _ => by kernel_rfl
  go_enter Tryd.func50, Tryd.ntmps50
  go_wp2_with fail
  go_at_call 56
  refine (n1 _).mono ?_
  rintro e w' ⟨rfl, rfl⟩
  go_wp2_with fail
  go_at_call 56
  refine (n2 _).mono ?_
  rintro e w' ⟨rfl, rfl⟩
  clear e1 e2
  go_wp2
  refine bodyPost_ret (v := .agg #[.int .i64 z, .int .i64 t, .int .i64 2, .int .i64 v]) ?_ rfl ⟨rfl, below_alloc _ _⟩
  exact results_cell_row rfl _ _ w.heap.size _ _ _ _ rfl (Rowed.new w 45 #[.int .i64 z, .int .i64 t, .int .i64 2, .int .i64 v]) Tryd.underlying45 rfl (by kernel_rfl)

theorem may_yes (n : Nat) (h2 : 2 ≤ n) (h3 : n ≤ 1000) (w : World) :
    Calls Tryd.prog 49 #[.int .i64 n] w fun e w' => e = .returned (.bool true) ∧ w = w' := by
  have d1 : decide (2 ≤ (n : Int)) = true := decide_eq_true (by omega)
  have d2 : decide ((n : Int) ≤ 1000) = true := decide_eq_true (by omega)
  go_enter Tryd.func49, Tryd.ntmps49
  go_wp2
  go_ret
  exact ⟨rfl, rfl⟩
set_option maxRecDepth 100000 in
set_option maxHeartbeats 1000000 in
theorem SLong_any (n t v : Nat) (ht : wideT n = t) (hv : wideW n = v) (h2 : 2 ≤ n) (h3 : n ≤ 1000) (w : World) :
    Calls Tryd.prog 37 #[.int .i64 n] w fun e w' => e = .returned (.int .i64 ((t + 2 + v) % 2 + (t + 2 + v) : Nat)) ∧ Below w.heap.size w w' := by
  have hm := may_yes n h2 h3
  have hw := fun w => widths_is n t v ht hv h2 h3 w
  have t64 : t ≤ 64 := by rw [← ht]; exact Lib.bitLen_le _ 64 (by omega) (by omega)
  have v64 : v ≤ 64 := by rw [← hv]; exact Lib.bitLen_le _ 64 (by omega) (by omega)
  clear ht hv
  obtain ⟨z, hz⟩ : ∃ z : Nat, (t + 2 + v) % 2 = z := ⟨_, rfl⟩
  rw [hz] at hw ⊢
  have z1 : z ≤ 1 := by omega
  clear hz
  have i0 : ∀ w, (Instr.index 45 (.agg #[.int .i64 z, .int .i64 t, .int .i64 2, .int .i64 v]) (.int .i64 0)).run Tryd.prog w = .ok (.int .i64 z) w := fun _ => by kernel_rfl
  have i1 : ∀ w, (Instr.index 45 (.agg #[.int .i64 z, .int .i64 t, .int .i64 2, .int .i64 v]) (.int .i64 1)).run Tryd.prog w = .ok (.int .i64 t) w := fun _ => by kernel_rfl
  have i2 : ∀ w, (Instr.index 45 (.agg #[.int .i64 z, .int .i64 t, .int .i64 2, .int .i64 v]) (.int .i64 2)).run Tryd.prog w = .ok (.int .i64 2) w := fun _ => by kernel_rfl
  have i3 : ∀ w, (Instr.index 45 (.agg #[.int .i64 z, .int .i64 t, .int .i64 2, .int .i64 v]) (.int .i64 3)).run Tryd.prog w = .ok (.int .i64 v) w := fun _ => by kernel_rfl
  go_enter Tryd.func37, Tryd.ntmps37
  go_wp2_with fail
  go_at_call 49
  refine (hm _).mono ?_
  rintro e w' ⟨rfl, rfl⟩
  go_wp2_with fail
  go_at_call 50
  refine (hw _).mono ?_
  rintro e w1 ⟨rfl, hB⟩
  go_wp2_with fail
  go_loop [3, 11] (fun a i => ∃ k : Nat, k ≤ 4 ∧ i = .int .i64 k ∧ a = .int .i64 (if k = 0 then 0 else if k = 1 then (z : Int) else if k = 2 then (z : Int) + t else if k = 3 then (z : Int) + t + 2 else (z : Int) + t + 2 + v)) (fun _ i => 4 - (intOf i).toNat)
  case atStart => exact ⟨0, by omega, rfl, rfl⟩
  case round =>
    obtain ⟨k, hk, rfl, rfl⟩ := hrel
    rcases (show k = 4 ∨ k = 0 ∨ k = 1 ∨ k = 2 ∨ k = 3 by omega) with rfl | rfl | rfl | rfl | rfl
    · go_wp2
      go_ret
      exact ⟨by congr 2; simp; omega, hB⟩
    · go_wp2
      go_round
      case rel => exact ⟨1, by omega, by go_num, by simp⟩
      case measure => simp [intOf]
    · go_wp2
      go_round
      case rel => exact ⟨2, by omega, by go_num, by simp⟩
      case measure => simp [intOf]
    · go_wp2
      go_round
      case rel => exact ⟨3, by omega, by go_num, by simp⟩
      case measure => simp [intOf]
    · go_wp2
      go_round
      case rel => exact ⟨4, by omega, by go_num, by simp⟩
      case measure => simp [intOf]
theorem BLong_is (k : Nat) (hk : k < 5) (w : World) :
    Calls Tryd.prog 37 #[.int .i64 (innerK k)] w fun e w' => e = .returned (.int .i64 (fieldK k)) ∧ Below w.heap.size w w' := by
  rcases (show k = 0 ∨ k = 1 ∨ k = 2 ∨ k = 3 ∨ k = 4 by omega) with rfl | rfl | rfl | rfl | rfl
  · exact SLong_any 32 5 8 (by decide) (by decide) (by omega) (by omega) w
  · exact SLong_any 58 6 9 (by decide) (by decide) (by omega) (by omega) w
  · exact SLong_any 86 7 10 (by decide) (by decide) (by omega) (by omega) w
  · exact SLong_any 112 7 10 (by decide) (by decide) (by omega) (by omega) w
  · exact SLong_any 138 8 10 (by decide) (by decide) (by omega) (by omega) w
end Go.Proofs.YtjfhbhidnlgabaaDoor
