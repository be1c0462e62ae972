/- Contract of helixref04.Trim. -/
import Derived.Test.YtkldapdebjlfmaaPoB
namespace Go.Proofs.Ytkldapdebjlfmaa
open Go.RowKit Go.Shelf
attribute [local go_sem] Oper.semAt_some

set_option maxRecDepth 100000 in
set_option maxHeartbeats 2000000 in
theorem RTrim_any (sv : Value) (p : List UInt8) (hreach : p.length ≤ 1000000) (w : World) (hS : Sl eB w.heap.size w sv p) :
    Calls Try.prog 45 #[sv] w fun e w' => ∃ v, e = .returned v ∧ Own8 w.heap.size w' v (tr (C p) p.length) ∧ Below w.heap.size w w' := by
  obtain ⟨A, cap, rfl, hcap, hcs⟩ := id hS
  obtain ⟨i0, hi, hz0, hz1, hz2⟩ := info_parts info_u8
  have hrow := row_made w
  have hB1 := below_alloc w (.cells #[] 5)
  have hS1 := hS.below hB1
  have hTT := take_tr p
  have hl0 := tr_length (C p) p.length
  obtain ⟨q, hq⟩ : ∃ q, tr (C p) p.length = q := ⟨_, rfl⟩
  rw [hq] at hTT hl0
  rw [hq]
  clear hq
  go_enter Try.func45, Try.ntmps45
  go_wp2_with fail
  go_loop [3] (fun i => ∃ k : Nat, k ≤ p.length ∧ i = .int .i64 k ∧ tl (C p) p.length = tl (C p) k) (fun i => (intOf i).toNat)
  case atStart => exact ⟨p.length, Nat.le_refl _, rfl, rfl⟩
  case round =>
    obtain ⟨k, hk, rfl, ht⟩ := hrel
    by_cases h0 : k = 0
    · subst h0
      rw [ht, show tl (C p) 0 = 0 from rfl, List.take_zero] at hTT
      have hS2 := hS1.upto (Nat.zero_le p.length)
      rw [List.take_zero, hTT] at hS2
      rw [ht, show tl (C p) 0 = 0 from rfl] at hl0
      clear ht hTT
      go_wp2_with
        (at_builtin
         refine wpList_append_sl _ rfl (.tmp 18) (.tmp 21) _ rfl w.heap.size 5 i0 (.int .u8 0) 1 Try.underlying22 hi hz0 hz1 hz2 rfl _ 0 [] hrow rfl w.heap.size (.slice A 0 cap) q hS2 rfl (fun _ => rfl) (by unfold maxLen; omega) (by omega) (by simp) ?_
         intro v1 w1 hown1 hg1 hat1
         have hB2 : Below w.heap.size w w1 := hB1.trans (below_grown hrow hg1 (by simp) (Nat.le_refl _)))
      go_ret
      exact ⟨v1, rfl, by simpa [Own8] using hown1, hB2⟩
    · obtain ⟨j, rfl⟩ : ∃ j, k = j + 1 := ⟨k - 1, by omega⟩
      have Ht := Lib.hid ht
      obtain ⟨b, off, rfl, hb, hcell⟩ := hcs (by omega)
      have hcx : w.cell? ⟨b, off + j, none⟩ = some (eB (p[j]'(by omega))) := hcell j _ (by simp)
      have hCj := C_get p j (by omega)
      have d0 : decide (0 < ((j + 1 : Nat) : Int)) = true := decide_eq_true (by omega)
      have e1 : IntKind.i64.wrap (((j + 1 : Nat) : Int) - 1) = (j : Int) := by rw [IntWalk.i64_in _ (by omega)]; omega
      have Htl := Lib.hid (show tl (C p) (j + 1) = if C p j = 0 then tl (C p) j else j + 1 from rfl)
      clear hcell hcs h0
      rw [hCj] at Htl
      generalize hpx : p[j] = x at *
      clear hCj hpx
      by_cases hx : x = 0
      · have hz := beq_zero x hx
        have Hx := Lib.hid hx
        clear hx ht hS1 hS hTT
        go_wp2
        go_round
        case rel => exact ⟨j, by omega, by go_num, by rw [Ht.out, Htl.out, if_pos Hx.out]⟩
        case measure => simp [intOf]
      · have hz := beq_some x hx
        have htj : tl (C p) p.length = j + 1 := by rw [Ht.out, Htl.out, if_neg hx]
        rw [htj] at hTT
        have hS2 := hS1.upto hk
        rw [hTT] at hS2
        rw [htj] at hl0
        clear hx ht hTT Htl Ht htj
        have c1 : ((j + 1 : Nat) : Int) ≤ cap := by omega
        go_wp2_with
          (at_builtin
           refine wpList_append_sl _ rfl (.tmp 18) (.tmp 21) _ rfl w.heap.size 5 i0 (.int .u8 0) 1 Try.underlying22 hi hz0 hz1 hz2 rfl _ 0 [] hrow rfl w.heap.size (.slice (some ⟨b, off, none⟩) (j + 1) cap) q hS2 rfl (fun _ => rfl) (by unfold maxLen; omega) (by omega) (by simp) ?_
           intro v1 w1 hown1 hg1 hat1
           have hB2 : Below w.heap.size w w1 := hB1.trans (below_grown hrow hg1 (by simp) (Nat.le_refl _)))
        go_ret
        exact ⟨v1, rfl, by simpa [Own8] using hown1, hB2⟩
end Go.Proofs.Ytkldapdebjlfmaa
