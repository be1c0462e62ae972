/- The law's own wakes. -/
import Derived.Test.YtnnhijfgbdhmiaaCrC
namespace Go.Proofs.Ytnnhijfgbdhmiaa
open Go.RowKit Go.Shelf
attribute [local go_sem] Oper.semAt_some run_store_func

theorem below_alloc (w : World) (o : Obj) : Below w.heap.size w (w.alloc o) := (Below.refl _ w).alloc (Nat.le_refl _) o
theorem rows2_nil (B : Nat) (W : World) : Rows2 B W (.slice none 0 0) [] := ⟨[], Sl.nil _ _ _, rfl, fun i v bs h _ => by simp at h⟩
theorem Rows2.one {B : Nat} {W : World} {sv v : Value} {bs : List UInt8} (h : Sl (fun v => v) B W sv [v]) (hv : Sl eB B W v bs) : Rows2 B W sv [bs] :=
  ⟨[v], h, rfl, fun i v' bs' h1 h2 => by
    rcases i with _ | i
    · simp at h1 h2; subst h1 h2; exact hv
    · simp at h1⟩
theorem sum_nine : sumW ([[49, 50, 51, 52, 53, 54, 55, 56, 57]] : List (List UInt8)).flatten = 3421780262#32 := by decide +kernel
theorem sum_none : sumW ([] : List (List UInt8)).flatten = 0#32 := by decide +kernel
theorem step_128 : stepW 0#32 128 = 3988292384#32 := by decide +kernel
theorem Sum_is (sv : Value) (bss : List (List UInt8)) (r : Int) (hr : ((sumW bss.flatten).toNat : Int) = r) (hr2 : bss.length ≤ 140737488351232) (hreach : ∀ bs ∈ bss, bs.length ≤ 140737488351232) (w : World) (hS : Rows2 w.heap.size w sv bss) :
    Calls Try.prog 6 #[sv] w fun e W' => e = .returned (.int .u32 r) ∧ Below w.heap.size w W' := by subst hr; exact Sum_any sv bss hr2 hreach w hS
theorem Step_is (c : BitVec 32) (b : UInt8) (r : Int) (hr : ((stepW c b).toNat : Int) = r) (w : World) :
    Calls Try.prog 9 #[wV c, eB b] w fun e w' => e = .returned (.int .u32 r) ∧ w = w' := by subst hr; exact Step_any c b w
theorem tab_0 (w : World) : (Instr.index 33 (.agg (tabAt 256)) (.int .i64 0)).run Try.prog w = .ok (.int .u32 0) w := by kernel_rfl
theorem tab_128 (w : World) : (Instr.index 33 (.agg (tabAt 256)) (.int .i64 128)).run Try.prog w = .ok (.int .u32 3988292384) w := by kernel_rfl

set_option maxRecDepth 100000 in
set_option maxHeartbeats 2000000 in
theorem wakes_any (w : World) : Calls Try.prog 5 #[] w fun e w' => e = .returned (.bool true) ∧ Below w.heap.size w w' := by
  have kc := fun (w : World) (C : Array Value) (n c : Nat) => Lib.run_convert_bytes_const (P := Try.prog) w 22 5 C n c Try.underlying22 Try.underlying5
  have t0 := tab_0
  have t128 := tab_128
  go_enter Try.func5, Try.ntmps5
  go_wp2_with fail
  go_at_call 6
  have hA1 := below_alloc w (.cells #[Value.int IntKind.u8 49, Value.int IntKind.u8 50, Value.int IntKind.u8 51, Value.int IntKind.u8 52, Value.int IntKind.u8 53, Value.int IntKind.u8 54, Value.int IntKind.u8 55, Value.int IntKind.u8 56, Value.int IntKind.u8 57] 5 (9, 10))
  have hS1 := Sl.new eB w [49, 50, 51, 52, 53, 54, 55, 56, 57] #[Value.int IntKind.u8 49, Value.int IntKind.u8 50, Value.int IntKind.u8 51, Value.int IntKind.u8 52, Value.int IntKind.u8 53, Value.int IntKind.u8 54, Value.int IntKind.u8 55, Value.int IntKind.u8 56, Value.int IntKind.u8 57] 5 (9, 10) 9 9 rfl (by simp) rfl
  generalize hwa : w.alloc _ = wa at hA1 hS1
  have hsz : wa.heap.size = w.heap.size + 1 := by rw [← hwa]; simp
  have hS2 := Sl.new (fun v : Value => v) wa [Value.slice (some ⟨w.heap.size, 0, none⟩) 9 9] #[Value.slice (some ⟨w.heap.size, 0, none⟩) 9 9] 22 (0, 0) 1 1 rfl (by simp) rfl
  have hA2 := below_alloc wa (.cells #[Value.slice (some ⟨w.heap.size, 0, none⟩) 9 9] 22)
  have hS1' := hS1.next hA2
  have hBw2 := below_trans hA1 hA2
  rw [hsz] at hS2
  generalize hwb : wa.alloc _ = wb at *
  clear hwa hS1 hA1 hA2 hwb
  refine (Sum_is _ [[49, 50, 51, 52, 53, 54, 55, 56, 57]] 3421780262 (by rw [sum_nine]; rfl) (by simp) (by simp) _ (Rows2.one hS2 hS1')).mono ?_
  rintro e w2 ⟨rfl, hB2⟩
  have hBw3 := below_trans hBw2 hB2
  clear hS2 hS1' hBw2 hB2
  go_wp2_with fail
  go_at_call 6
  refine (Sum_is _ [] 0 (by rw [sum_none]; rfl) (by simp) (by simp) _ (rows2_nil _ _)).mono ?_
  rintro e w3 ⟨rfl, hB3⟩
  have hBw4 := below_trans hBw3 hB3
  clear hBw3 hB3
  go_wp2_with fail
  go_at_call 10
  refine (Table_any _).mono ?_
  rintro e w4 ⟨rfl, hB4⟩
  have hBw5 := below_trans hBw4 hB4
  clear hBw4 hB4
  go_wp2_with fail
  go_at_call 10
  refine (Table_any _).mono ?_
  rintro e w5 ⟨rfl, hB5⟩
  have hBw6 := below_trans hBw5 hB5
  clear hBw5 hB5
  go_wp2_with fail
  go_at_call 9
  refine (Step_is 0#32 128 3988292384 (by rw [step_128]; rfl) _).mono ?_
  rintro e w' ⟨rfl, rfl⟩
  go_wp2
  go_ret
  exact ⟨rfl, hBw6⟩
end Go.Proofs.Ytnnhijfgbdhmiaa
