import Derived.Shelf.Strconv.Itoa0
import Derived.Shelf.Lay
import Derived.Shelf.LaySoft
import Derived.Test.YtkibigbcdlilkaaGreatDoorSwCY
namespace Go.Proofs
open Go.Shelf
shelf_lay Lays.n129 Nm 129 at Tryz as YtkibigbcdlilkaaGreatDoor.lays129
end Go.Proofs
namespace Go.Proofs.YtkibigbcdlilkaaGreatDoor
open Go.RowKit Go.Shelf
attribute [local go_sem] Oper.semAt_some run_store_func
set_option maxHeartbeats 400000 in
theorem Len_any (x : Int) (h0 : 0 ≤ x) (h1 : x ≤ 18446744073709551615) (w : World) :
    Calls Tryz.prog 90 #[.int .u64 x] w fun e w' => e = .returned (.int .i64 (Lib.bitLen x.toNat)) ∧ w = w' := by
  have hc := fun w => Any.bits_Len64 YtkibigbcdlilkaaGreatDoor.lays129 x w h0 h1
  have hw : IntKind.u64.wrap x = x := IntWalk.u64_in _ (by omega)
  clear h0 h1
  go_enter Tryz.func90, Tryz.ntmps90
  go_wp2_with (go_at_call 110; refine (hc _).mono ?_; rintro e w' ⟨rfl, rfl⟩)
  go_ret
  exact ⟨rfl, rfl⟩
theorem need_any (x : Nat) (h1 : x ≤ 100000) (w : World) :
    Calls Tryz.prog 81 #[.int .i64 x] w fun e w' => e = .returned (.int .i64 (Lib.bitLen x)) ∧ w = w' := by
  have hc := fun w => Len_any x (by omega) (by omega) w
  have hw : IntKind.u64.wrap (x : Int) = x := IntWalk.u64_in _ (by omega)
  clear h1
  go_enter Tryz.func81, Tryz.ntmps81
  go_wp2_with (go_at_call 90; refine (hc _).mono ?_; rintro e w' ⟨rfl, rfl⟩)
  go_ret
  exact ⟨rfl, rfl⟩
theorem may_any (k : Int) (w : World) : Calls Tryz.prog 57 #[.int .i64 k] w fun e w' => e = .returned (.bool (mayB k)) ∧ w = w' := callsIn_inProg (may_in k 0 w)
theorem must_ok (w : World) : Calls Tryz.prog 152 #[.bool true] w fun e w' => e = .returned (.tuple #[]) ∧ w = w' := callsIn_inProg (must_yes 0 w)
theorem must_not (w : World) : Calls Tryz.prog 152 #[.bool false] w fun e w' => e = .panicked (errno 2) ∧ w = w' := callsIn_inProg (must_no 0 w)
def tb (n : Nat) : Nat := Lib.bitLen (n - 1)
def wb (n : Nat) : Nat := Lib.bitLen (6 * n)
def zb (n : Nat) : Nat := (tb n + 2 + wb n) % 2
def longN (n : Nat) : Nat := zb n + tb n + 2 + wb n
abbrev v4 (a b c d : Int) : Value := .agg #[.int .i64 a, .int .i64 b, .int .i64 c, .int .i64 d]
theorem tb_le (n : Nat) (h : n ≤ 1000) : tb n ≤ 10 := Lib.bitLen_le _ 10 (by omega) (by omega)
theorem wb_le (n : Nat) (h : n ≤ 1000) : wb n ≤ 13 := Lib.bitLen_le _ 13 (by omega) (by omega)
theorem info4 : (Tryz.prog.info? 80).map (fun i => (i.zero, i.size)) = some (some (v4 0 0 0 0), 4) := by kernel_rfl
set_option maxRecDepth 100000 in
set_option maxHeartbeats 1000000 in
theorem widths_any (n : Nat) (h2 : 2 ≤ n) (h1 : n ≤ 1000) (w : World) :
    Calls Tryz.prog 58 #[.int .i64 n] w fun e w' => e = .returned (v4 (zb n) (tb n) 2 (wb n)) ∧ Below w.heap.size w w' := by
  have ht := fun w => need_any (n - 1) (by omega) w
  have hw := fun w => need_any (6 * n) (by omega) w
  have ht10 := tb_le n h1
  have hw13 := wb_le n h1
  have e1 : IntKind.i64.wrap ((n : Int) - 1) = ((n - 1 : Nat) : Int) := by rw [IntWalk.i64_in _ (by omega)]; omega
  have e2 : IntKind.i64.wrap (6 * (n : Int)) = ((6 * n : Nat) : Int) := by rw [IntWalk.i64_in _ (by omega)]; omega
  have e2' : wrap64 (6 * (n : Int)) = ((6 * n : Nat) : Int) := by rw [IntWalk.wrap64_in _ (by omega)]; omega
  have hz : zb n = (tb n + 2 + wb n) % 2 := rfl
  have htb : Lib.bitLen (n - 1) = tb n := rfl
  have hwb : Lib.bitLen (6 * n) = wb n := rfl
  rw [htb] at ht
  rw [hwb] at hw
  generalize zb n = z at *
  generalize tb n = t at *
  generalize wb n = u at *
  clear htb hwb
  have e3 : IntKind.i64.wrap ((t : Int) + 2) = ((t + 2 : Nat) : Int) := by rw [IntWalk.i64_in _ (by omega)]; omega
  have e4 : IntKind.i64.wrap (((t + 2 : Nat) : Int) + (u : Int)) = ((t + 2 + u : Nat) : Int) := by rw [IntWalk.i64_in _ (by omega)]; omega
  have e5 : ((t + 2 + u : Nat) : Int).tmod 2 = (z : Int) := by rw [Int.tmod_eq_emod_of_nonneg (by omega), hz]; omega
  have hbd : ∀ (a b c d : Int) w, (Instr.build 80 #[(0, .int .i64 a), (1, .int .i64 b), (2, .int .i64 c), (3, .int .i64 d)]).run Tryz.prog w = .ok (v4 a b c d) w := fun _ _ _ _ _ => by kernel_rfl
  have Hz := Lib.hid hz
  clear hz
  obtain ⟨hz0, hsz⟩ := zero_of_info info4
  have hc0 : (v4 0 0 0 0).cells = #[.int .i64 0, .int .i64 0, .int .i64 0, .int .i64 0] := rfl
  have hsr : (Tryz.prog.info? 80).map (·.size) = some (#[Value.int .i64 z, Value.int .i64 t, Value.int .i64 2, Value.int .i64 u] : Array Value).size := by rw [hsz]; rfl
  go_enter Tryz.func58, Tryz.ntmps58
  go_wp2_with fail
  go_at_call 81
  refine (ht _).mono ?_
  rintro e w' ⟨rfl, rfl⟩
  go_wp2_with fail
  go_at_call 81
  refine (hw _).mono ?_
  rintro e w' ⟨rfl, rfl⟩
  go_wp2_with fail
  have hz' : ((t : Int) + 2 + u) % 2 = z := by rw [Hz.out]; omega
  rw [hz']
  refine bodyPost_ret (v := v4 z t 2 u) ?_ rfl ⟨rfl, below_alloc _ _⟩
  exact results_cell_row (p := 2) rfl _ _ w.heap.size _ _ _ _ rfl (Rowed.new w 80 _) Tryz.underlying80 rfl hsr
set_option maxRecDepth 100000 in
set_option maxHeartbeats 1000000 in
theorem Long_yes (n : Nat) (h2 : 2 ≤ n) (h1 : n ≤ 1000) (w : World) :
    Calls Tryz.prog 39 #[.int .i64 n] w fun e w' => e = .returned (.int .i64 (longN n)) ∧ Below w.heap.size w w' := by
  have hm : mayB n = true := by unfold mayB; rw [decide_eq_true (by omega), decide_eq_true (by omega)]; rfl
  have hmy := may_any n
  rw [hm] at hmy
  have hwd := widths_any n h2 h1
  have ht10 := tb_le n h1
  have hw13 := wb_le n h1
  have hz2 : zb n ≤ 1 := by unfold zb; omega
  have Hl := Lib.hid (show longN n = zb n + tb n + 2 + wb n from rfl)
  generalize zb n = z at *
  generalize tb n = t at *
  generalize wb n = u at *
  have i0 : ∀ w, (Instr.index 80 (v4 z t 2 u) (.int .i64 0)).run Tryz.prog w = .ok (.int .i64 z) w := fun _ => by kernel_rfl
  have i1 : ∀ w, (Instr.index 80 (v4 z t 2 u) (.int .i64 1)).run Tryz.prog w = .ok (.int .i64 t) w := fun _ => by kernel_rfl
  have i2 : ∀ w, (Instr.index 80 (v4 z t 2 u) (.int .i64 2)).run Tryz.prog w = .ok (.int .i64 2) w := fun _ => by kernel_rfl
  have i3 : ∀ w, (Instr.index 80 (v4 z t 2 u) (.int .i64 3)).run Tryz.prog w = .ok (.int .i64 u) w := fun _ => by kernel_rfl
  have e1 : IntKind.i64.wrap ((z : Int) + t) = ((z + t : Nat) : Int) := by rw [IntWalk.i64_in _ (by omega)]; omega
  have e2 : IntKind.i64.wrap (((z + t : Nat) : Int) + 2) = ((z + t + 2 : Nat) : Int) := by rw [IntWalk.i64_in _ (by omega)]; omega
  have e3 : IntKind.i64.wrap (((z + t + 2 : Nat) : Int) + u) = ((z + t + 2 + u : Nat) : Int) := by rw [IntWalk.i64_in _ (by omega)]; omega
  have e0 : IntKind.i64.wrap (z : Int) = (z : Int) := IntWalk.i64_in _ (by omega)
  go_enter Tryz.func39, Tryz.ntmps39
  go_wp2_with (first
   | (go_at_call 57; refine (hmy _).mono ?_; rintro e w' ⟨rfl, rfl⟩)
   | (go_at_call 58; refine (hwd _).mono ?_; rintro e w' ⟨rfl, hB⟩))
  refine wp_loop_rounds 6 ?_
  rw [rounds_succ]
  go_wp2
  rw [rounds_succ]
  go_wp2
  rw [rounds_succ]
  go_wp2
  rw [rounds_succ]
  go_wp2
  rw [rounds_succ]
  go_wp2
  have hsum : ((z + t + 2 + u : Nat) : Int) = (z : Int) + t + 2 + u := by omega
  go_ret
  exact ⟨by rw [Hl.out, hsum]; rfl, hB⟩
def rightB (a b c n : Int) : Bool := mayB n && (decide (0 ≤ a) && (decide (a < n) && (decide (0 ≤ b) && (decide (b < 4) && (decide (0 ≤ c) && decide (c ≤ 6 * n))))))
set_option maxRecDepth 100000 in
set_option maxHeartbeats 2000000 in
theorem Right_any (a b c n : Int) (w : World) :
    Calls Tryz.prog 123 #[v3 a b c, .int .i64 n] w fun e w' => e = .returned (.bool (rightB a b c n)) ∧ Below w.heap.size w w' := by
  have hmy := may_any n
  have hcl : (v3 a b c).cells = c3 a b c := rfl
  have hr := Rowed.new w 51 (c3 a b c)
  have hB := below_alloc w (.cells (c3 a b c) 51)
  have k0 := hr.cell 0
  have k1 := hr.cell 1
  have k2 := hr.cell 2
  simp at k0 k1 k2
  have hn : mayB n = true → 2 ≤ n ∧ n ≤ 1000 := by
   intro h
   unfold mayB at h
   rw [Bool.and_eq_true, decide_eq_true_eq, decide_eq_true_eq] at h
   omega
  cases hm : mayB n with
  | false =>
    have Hv := Lib.hid (show rightB a b c n = false by rw [rightB, hm, Bool.false_and])
    rw [hm] at hmy
    go_enter Tryz.func123, Tryz.ntmps123
    go_wp2_with (go_at_call 57; refine (hmy _).mono ?_; rintro e w' ⟨rfl, rfl⟩)
    go_ret
    exact ⟨by rw [Hv.out]; rfl, hB⟩
  | true =>
    obtain ⟨hn2, hn1⟩ := hn hm
    rw [hm] at hmy
    have e6 : IntKind.i64.wrap (6 * n) = 6 * n := IntWalk.i64_in _ (by omega)
    have w6 : wrap64 (6 * n) = 6 * n := IntWalk.wrap64_in _ (by omega)
    cases h0 : decide (0 ≤ a) with
    | false =>
      have Hv := Lib.hid (show rightB a b c n = false by rw [rightB, hm, h0]; simp)
      go_enter Tryz.func123, Tryz.ntmps123
      go_wp2_with (go_at_call 57; refine (hmy _).mono ?_; rintro e w' ⟨rfl, rfl⟩)
      go_ret
      exact ⟨by rw [Hv.out]; rfl, hB⟩
    | true =>
      cases h1 : decide (a < n) with
      | false =>
        have Hv := Lib.hid (show rightB a b c n = false by rw [rightB, hm, h0, h1]; simp)
        go_enter Tryz.func123, Tryz.ntmps123
        go_wp2_with (go_at_call 57; refine (hmy _).mono ?_; rintro e w' ⟨rfl, rfl⟩)
        go_ret
        exact ⟨by rw [Hv.out]; rfl, hB⟩
      | true =>
        cases h2 : decide (0 ≤ b) with
        | false =>
          have Hv := Lib.hid (show rightB a b c n = false by rw [rightB, hm, h0, h1, h2]; simp)
          go_enter Tryz.func123, Tryz.ntmps123
          go_wp2_with (go_at_call 57; refine (hmy _).mono ?_; rintro e w' ⟨rfl, rfl⟩)
          go_ret
          exact ⟨by rw [Hv.out]; rfl, hB⟩
        | true =>
          cases h3 : decide (b < 4) with
          | false =>
            have Hv := Lib.hid (show rightB a b c n = false by rw [rightB, hm, h0, h1, h2, h3]; simp)
            go_enter Tryz.func123, Tryz.ntmps123
            go_wp2_with (go_at_call 57; refine (hmy _).mono ?_; rintro e w' ⟨rfl, rfl⟩)
            go_ret
            exact ⟨by rw [Hv.out]; rfl, hB⟩
          | true =>
            cases h4 : decide (0 ≤ c) with
            | false =>
              have Hv := Lib.hid (show rightB a b c n = false by rw [rightB, hm, h0, h1, h2, h3, h4]; simp)
              go_enter Tryz.func123, Tryz.ntmps123
              go_wp2_with (go_at_call 57; refine (hmy _).mono ?_; rintro e w' ⟨rfl, rfl⟩)
              go_ret
              exact ⟨by rw [Hv.out]; rfl, hB⟩
            | true =>
              cases h5 : decide (c ≤ 6 * n) with
              | false =>
                have Hv := Lib.hid (show rightB a b c n = false by rw [rightB, hm, h0, h1, h2, h3, h4, h5]; simp)
                go_enter Tryz.func123, Tryz.ntmps123
                go_wp2_with (go_at_call 57; refine (hmy _).mono ?_; rintro e w' ⟨rfl, rfl⟩)
                go_ret
                exact ⟨by rw [Hv.out]; rfl, hB⟩
              | true =>
                have Hv := Lib.hid (show rightB a b c n = true by rw [rightB, hm, h0, h1, h2, h3, h4, h5]; rfl)
                go_enter Tryz.func123, Tryz.ntmps123
                go_wp2_with (go_at_call 57; refine (hmy _).mono ?_; rintro e w' ⟨rfl, rfl⟩)
                go_ret
                exact ⟨by rw [Hv.out]; rfl, hB⟩
end Go.Proofs.YtkibigbcdlilkaaGreatDoor
