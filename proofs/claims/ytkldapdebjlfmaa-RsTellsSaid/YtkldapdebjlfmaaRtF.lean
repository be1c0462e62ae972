/- Contract of helixref05.Right. -/
import Derived.Test.YtkldapdebjlfmaaRtE
namespace Go.Proofs.Ytkldapdebjlfmaa
open Go.RowKit Go.Shelf
attribute [local go_sem] Oper.semAt_some

set_option maxRecDepth 100000 in
set_option maxHeartbeats 2000000 in
theorem RRight_no (A : Option Addr) (n c : Nat) (p : Int) (h : p < 0 ∨ 255 < p ∨ 255 < n ∨ (n : Int) < p) (w : World) :
    Calls Try.prog 19 #[.slice A n c, .int .i64 p] w fun e w' => e = .returned (.bool false) ∧ Below w.heap.size w w' := by
  have hE := RSyn_no A n c p h w
  clear h
  go_enter Try.func19, Try.ntmps19
  go_wp2_with fail
  go_at_call 17
  refine hE.mono ?_
  rintro e w1 ⟨rfl, hB1⟩
  go_wp2_with fail
  refine wp_loop_rounds 1 ?_
  unfold Code.rounds
  go_wp2
  go_ret
  exact ⟨rfl, hB1⟩

set_option maxRecDepth 100000 in
set_option maxHeartbeats 4000000 in
theorem RRight_yes (wv : Value) (word : List UInt8) (p : Nat) (hp : p ≤ word.length) (hl : word.length ≤ 255) (w : World) (hS : Sl eB w.heap.size w wv word) :
    Calls Try.prog 19 #[wv, .int .i64 p] w fun e w' => e = .returned (.bool ((synL word.reverse p).all (· = 0))) ∧ Below w.heap.size w w' := by
  have hE := RSyn_yes wv word p hp hl w hS
  obtain ⟨A, c, rfl⟩ := hS.len
  have hlS := synL_length word.reverse p
  generalize synL word.reverse p = S at *
  have hpb : p ≤ 255 := by omega
  obtain ⟨o, ho⟩ : ∃ o, S.all (· = 0) = o := ⟨_, rfl⟩
  rw [ho]
  have Ho := Lib.hid ho
  clear hp hl hS ho
  go_enter Try.func19, Try.ntmps19
  go_wp2_with fail
  go_at_call 17
  refine hE.mono ?_
  rintro e w1 ⟨v1, rfl, hv1, hB1⟩
  obtain ⟨A1, c1, e1⟩ := hv1.len
  rw [hlS] at e1
  subst e1
  have HlS := Lib.hid hlS
  clear hE hlS
  go_wp2_with fail
  go_loopw [7] (fun i wr => ∃ k : Nat, k ≤ p ∧ i = .int .i64 k ∧ (∀ j, j < k → C S j = 0) ∧ wr = w1) (fun i _ => p - (intOf i).toNat)
  case atStart => exact ⟨0, Nat.zero_le _, rfl, fun j hj => absurd hj (by omega), rfl⟩
  case round =>
    obtain ⟨k, hk, rfl, hz, rfl⟩ := hrel
    by_cases hlt : k < p
    · have dk : decide ((k : Int) < (p : Int)) = true := decide_eq_true (by omega)
      obtain ⟨b, off, rfl, hb, hcell⟩ := hv1.cells_at (by rw [HlS.out]; omega)
      have ck := hcell k (by rw [HlS.out]; omega)
      have hki : (k : Int) < (p : Int) := by omega
      by_cases hx : C S k = 0
      · have hz2 : ∀ j, j < k + 1 → C S j = 0 := fun j hj => by
          by_cases e : j = k
          · subst e; exact hx
          · exact hz j (by omega)
        rw [hx] at ck
        have ck2 : wr.cell? ⟨b, off + k, none⟩ = some (.int .u8 0) := ck
        clear ck hx hcell hz
        go_wp2
        go_roundw
        case rel => exact ⟨k + 1, by omega, by go_num, hz2, by trivial⟩
        case measure => simp [intOf]; omega
      · have hfa : S.all (· = 0) = false := by
          rw [List.all_eq_false]
          refine ⟨S[k]'(by rw [HlS.out]; omega), List.getElem_mem _, ?_⟩
          rw [C_get S k (by rw [HlS.out]; omega)] at hx
          simpa using hx
        have hx0 := beq_some (C S k) hx
        have hx1 : (((C S k).toNat : Int) != 0) = true := by rw [bne, hx0]; rfl
        have hx2 : ¬ (C S k).toNat = 0 := fun h => hx (UInt8.toNat_inj.1 h)
        obtain rfl : o = false := Ho.out.symm.trans hfa
        generalize C S k = x at *
        clear hx hcell hz hfa Ho
        go_wp2
        go_ret
        exact ⟨rfl, hB1⟩
    · obtain rfl : k = p := by omega
      have hfa : S.all (· = 0) = true := by
        rw [List.all_eq_true]
        intro x hx
        obtain ⟨i, hi, rfl⟩ := List.mem_iff_getElem.1 hx
        have := hz i (by have := HlS.out; omega)
        rw [C_get S i hi] at this
        simpa using this
      have dk : decide ((k : Int) < (k : Int)) = false := decide_eq_false (by omega)
      obtain rfl : o = true := Ho.out.symm.trans hfa
      clear hfa hz Ho
      go_wp2
      go_ret
      exact ⟨rfl, hB1⟩
end Go.Proofs.Ytkldapdebjlfmaa
