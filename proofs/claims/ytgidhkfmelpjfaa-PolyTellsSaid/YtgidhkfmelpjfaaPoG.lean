/- Contracts of poly.inverse and of Divide's deferred closure. -/
import Derived.Test.YtgidhkfmelpjfaaPoF
import Derived.Test.YtgidhkfmelpjfaaPoAi
import Derived.RecoverIn
namespace Go.Proofs.Ytgidhkfmelpjfaa
open Go.RowKit Go.Shelf
attribute [local go_sem] Oper.semAt_some run_store_func

theorem inv_one (k : Nat) : mulN (pw k) (pw (restN (-(k : Int)))) = 1 := by
  rw [pw_mul, ← pw_mod]
  have e : (k + restN (-(k : Int))) % 255 = 0 := by unfold restN; omega
  rw [e]; rfl
theorem Inv8 (c : UInt8) (h : c ≠ 0) (w : World) : Calls Try.prog 39 #[eB c] w fun e w' => ∃ d : UInt8, ma c d = 1 ∧ e = .returned (.tuple #[eB d, .int .i64 0]) ∧ Below w.heap.size w w' := by
  have h0 : c.toNat ≠ 0 := fun e => h (b_ext e)
  refine (Inv_any c.toNat c.toNat_lt h0 w).mono ?_
  rintro e w' ⟨k, _, hp, rfl, hB⟩
  have hlt := pw_lt (restN (-(k : Int)))
  refine ⟨UInt8.ofNat (pw (restN (-(k : Int)))), ?_, ?_, hB⟩
  · apply b_ext
    rw [ma_toNat, show (UInt8.ofNat (pw (restN (-(k : Int))))).toNat = pw (restN (-(k : Int))) by simp; omega, ← hp]
    exact inv_one k
  · rw [eB, show (UInt8.ofNat (pw (restN (-(k : Int))))).toNat = pw (restN (-(k : Int))) by simp; omega]
theorem Inv8_none (w : World) : Calls Try.prog 39 #[eB 0] w fun e w' => e = .returned (.tuple #[eB 0, .int .i64 30]) ∧ w' = w := by
  go_enter Try.func39, Try.ntmps39
  go_wp2
  go_ret2
  exact ⟨rfl, rfl⟩

set_option maxRecDepth 100000 in
set_option maxHeartbeats 1000000 in
theorem inverse_yes (sv : Value) (q : List UInt8) (hreach : q.length ≤ 100000) (w : World) (hS : Sl eB w.heap.size w sv q) (hq : 0 < q.length) (hl : C q (q.length - 1) ≠ 0) :
    Calls Try.prog 31 #[sv] w fun e w' => ∃ d : UInt8, ma (C q (q.length - 1)) d = 1 ∧ e = .returned (eB d) ∧ Below w.heap.size w w' := by
  have hlen := length_any sv q (by omega) w.heap.size w hS
  have htl := tl_pos (C q) q.length (q.length - 1) (by omega) hl
  have htl2 := tl_le (C q) q.length
  rw [show tl (C q) q.length = q.length by omega] at hlen
  obtain ⟨A, cap, rfl, hcap, hcs⟩ := hS
  obtain ⟨b, off, rfl, hb, hcell⟩ := hcs (by omega)
  have hcx : w.cell? ⟨b, off + (q.length - 1), none⟩ = some (eB (C q (q.length - 1))) := by rw [C_get q _ (by omega)]; exact hcell _ _ (by simp)
  have hI := fun w => Inv8 _ hl w
  generalize C q (q.length - 1) = c at *
  obtain ⟨m, hm⟩ : ∃ m, q.length = m + 1 := ⟨q.length - 1, by omega⟩
  rw [hm] at hlen hcx ⊢
  have e1 : m + 1 - 1 = m := rfl
  rw [e1] at hcx
  clear hcell hcs htl htl2 hl
  go_enter Try.func31, Try.ntmps31
  go_wp2_with fail
  go_at_call 36
  refine hlen.mono ?_
  rintro e w' ⟨rfl, rfl⟩
  clear hlen
  go_wp2_with fail
  go_at_call 39
  refine (hI _).mono ?_
  rintro e w' ⟨d, hd, rfl, hB⟩
  go_wp2
  go_ret
  exact ⟨d, hd, rfl, hB⟩
set_option maxRecDepth 100000 in
set_option maxHeartbeats 1000000 in
theorem inverse_no (sv : Value) (w : World) (hS : Sl eB w.heap.size w sv []) :
    Calls Try.prog 31 #[sv] w fun e w' => e = .panicked [{ v := .iface 25 (.int .i64 30), recovered := false }] ∧ w' = w := by
  have hlen := length_any sv [] (by simp) w.heap.size w hS
  obtain ⟨A, cap, rfl, hcap, hcs⟩ := hS
  go_enter Try.func31, Try.ntmps31
  go_wp2_with fail
  go_at_call 36
  refine hlen.mono ?_
  rintro e w' ⟨rfl, rfl⟩
  clear hlen
  go_wp2_with fail
  go_at_call 39
  refine (Inv8_none _).mono ?_
  rintro e w' ⟨rfl, rfl⟩
  go_wp2
  exact ⟨rfl, rfl, rfl⟩

set_option maxRecDepth 100000 in
set_option maxHeartbeats 2000000 in
theorem left_idle (n : Nat) (a b c : Addr) (w : World) :
    CallsDIn Fence.wide n Try.prog 30 #[.pointer (some a), .pointer (some b), .pointer (some c)] .returning w fun e u' w' => e = .returned (.tuple #[]) ∧ u' = .returning ∧ w' = w := by
  refine callsDIn_of_wpSIn Try.func30 rfl trivial fun c₀ cs hu => ?_
  apply wpSIn_seq
  apply wpSIn_region
  simp [wpOpsSIn, go_sem, recoverD, hu, Try.ntmps30, Exit.thenS]
  refine wpSIn_of_wpIn rfl ?_
  gi_wp2
  cases c₀
  simp_all [bodyPostS, results, Try.results30]
set_option maxRecDepth 100000 in
set_option maxHeartbeats 2000000 in
theorem left_take (n : Nat) (a b c : Nat) (m : Int) (v0 v1 v2 : Value) (w : World) (hca : w.cell? ⟨a, 0, none⟩ = some v0) (hfa : w.frozen? ⟨a, 0, none⟩ = false)
    (hcb : (w.setCell ⟨a, 0, none⟩ (.slice none 0 0)).cell? ⟨b, 0, none⟩ = some v1) (hfb : (w.setCell ⟨a, 0, none⟩ (.slice none 0 0)).frozen? ⟨b, 0, none⟩ = false)
    (hcc : ((w.setCell ⟨a, 0, none⟩ (.slice none 0 0)).setCell ⟨b, 0, none⟩ (.slice none 0 0)).cell? ⟨c, 0, none⟩ = some v2) (hfc : ((w.setCell ⟨a, 0, none⟩ (.slice none 0 0)).setCell ⟨b, 0, none⟩ (.slice none 0 0)).frozen? ⟨c, 0, none⟩ = false) :
    CallsDIn Fence.wide n Try.prog 30 #[.pointer (some ⟨a, 0, none⟩), .pointer (some ⟨b, 0, none⟩), .pointer (some ⟨c, 0, none⟩)] (.panicking [{ v := .iface 25 (.int .i64 m), recovered := false }]) w fun e u' w' => e = .returned (.tuple #[]) ∧ u' = .panicking [{ v := .iface 25 (.int .i64 m), recovered := true }] ∧
      w' = ((w.setCell ⟨a, 0, none⟩ (.slice none 0 0)).setCell ⟨b, 0, none⟩ (.slice none 0 0)).setCell ⟨c, 0, none⟩ (.int .i64 m) := by
  have hta : ∀ w, (Instr.typeAssert (.iface 25 (.int .i64 m)) 20 25 true).run Try.prog w = .ok (.tuple #[.int .i64 m, .bool true]) w := fun _ => by kernel_rfl
  refine callsDIn_of_wpSIn Try.func30 rfl trivial fun c₀ cs hu => ?_
  apply wpSIn_seq
  apply wpSIn_region
  simp [wpOpsSIn, go_sem, recoverD, hu, Try.ntmps30, Exit.thenS]
  refine wpSIn_of_wpIn rfl ?_
  gi_wp2
  cases c₀
  simp_all [bodyPostS, results, Try.results30]
end Go.Proofs.Ytgidhkfmelpjfaa
