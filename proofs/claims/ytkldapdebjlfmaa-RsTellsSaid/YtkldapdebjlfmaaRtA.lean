/- Contracts of helixref03.Exp and helixref05.back. -/
import Derived.Test.YtkldapdebjlfmaaRfG
import Derived.Test.YtkldapdebjlfmaaRsO
namespace Go.Proofs.Ytkldapdebjlfmaa
open Go.RowKit Go.Shelf
attribute [local go_sem] Oper.semAt_some

theorem pwU_two (n : Nat) : pwU 2 n = g2 n := by
  induction n with
  | zero => rfl
  | succ n ih =>
    apply UInt8.toNat_inj.1
    rw [pwU, ih, ma_toNat, g2_toNat, g2_toNat, ← pw_mul n 1]
    rfl
set_option maxRecDepth 100000 in
set_option maxHeartbeats 1000000 in
theorem RExp (n : Nat) (hn : n < 255) (w : World) : Calls Try.prog 27 #[.int .i64 n] w fun e w' => e = .returned (eB (g2 n)) ∧ w = w' := by
  have hp := fun w => RPow_any 2 n hn w
  rw [pwU_two] at hp
  go_enter Try.func27, Try.ntmps27
  go_wp2_with (go_at_call 46; refine (hp _).mono ?_; rintro e w' ⟨rfl, rfl⟩)
  go_ret
  exact ⟨rfl, rfl⟩

theorem drop_back (b : List UInt8) (m : Nat) (h : m < b.length) : (b.drop m).reverse = (b.drop (m + 1)).reverse ++ [C b m] := by
  rw [C_get b m h, List.drop_eq_getElem_cons h, List.reverse_cons]
set_option maxRecDepth 100000 in
set_option maxHeartbeats 4000000 in
theorem Back_any (sv : Value) (b : List UInt8) (hb : b.length ≤ 1000) (w : World) (hS : Sl eB w.heap.size w sv b) :
    Calls Try.prog 32 #[sv] w fun e w' => ∃ v, e = .returned v ∧ Own8 w.heap.size w' v b.reverse ∧ Below w.heap.size w w' := by
  obtain ⟨i0, hi, hz0, hz1, hz2⟩ := info_parts info_u8
  obtain ⟨A, c, rfl⟩ := hS.len
  have e0 : IntKind.i64.wrap ((b.length : Int) - 1) = (b.length : Int) - 1 := IntWalk.i64_in _ (by omega)
  have hnil : Own8 w.heap.size w (.slice none 0 0) (b.drop b.length).reverse := by rw [List.drop_length]; exact ⟨rfl, .inl ⟨rfl, rfl⟩⟩
  go_enter Try.func32, Try.ntmps32
  go_wp2_with fail
  obtain ⟨z0, hz⟩ : ∃ z0, (b.length : Int) - 1 = z0 := ⟨_, rfl⟩
  rw [hz]
  go_loopw [3, 4] (fun v i wr => ∃ (m : Nat) (z : Int), m ≤ b.length ∧ z = (m : Int) - 1 ∧ i = .int .i64 z ∧ Own8 w.heap.size wr v (b.drop m).reverse ∧ Below w.heap.size w wr) (fun _ i _ => (intOf i + 1).toNat)
  case atStart => exact ⟨b.length, z0, Nat.le_refl _, hz.symm, rfl, hnil, Below.refl _ _⟩
  case round =>
    clear hz hnil e0
    obtain ⟨m, z, hm, hzm, rfl, hO, hB⟩ := hrel
    cases m with
    | zero =>
      obtain rfl : z = -1 := by omega
      rw [List.drop_zero] at hO
      clear hzm
      go_wp2
      go_ret
      exact ⟨_, rfl, hO, hB⟩
    | succ m =>
      obtain rfl : z = (m : Int) := by omega
      clear hzm
      have hdb := drop_back b m (by omega)
      obtain ⟨bb, off, rfl, hbb, hcell⟩ := hS.cells_at (by omega)
      have ck := (hB.cell (p := ⟨bb, off + m, none⟩) hbb).trans (hcell m (by omega))
      have hmi : (m : Int) < (b.length : Int) := by omega
      have hmi2 : m < b.length := by omega
      have hln : (b.drop (m + 1)).reverse.length ≤ 1000 := by simp; omega
      clear hcell
      generalize C b m = x at *
      have Hdb := Lib.hid hdb
      generalize (b.drop (m + 1)).reverse = L at *
      clear hdb
      have hBa := below_alloc wr (.cells #[eB x] 5)
      have hq := Sl.new eB wr [x] #[eB x] 5 (0, 0) 1 1 rfl (Nat.le_refl _) rfl
      have hO2 := ownGrow hO hBa
      have hB2 := below_trans hB hBa
      have hsz := hB2.size
      go_wp2_with
        (at_builtin
         refine wpList_append_sl _ rfl (.tmp 12) (.tmp 17) _ rfl w.heap.size 5 i0 (.int .u8 0) 1 Try.underlying22 hi hz0 hz1 hz2 rfl _ _ _ hO2 rfl _ _ [x] hq rfl (fun _ => rfl) (by simp; unfold maxLen; omega) (by simp; omega) hsz ?_
         intro v1 w1 hown1 hg1 _
         have hB3 : Below w.heap.size w w1 := hB2.trans (below_grown hO2 hg1 hsz (Nat.le_refl _)))
      have hO3 : Own8 w.heap.size w1 v1 (L ++ [x]) := by unfold Own8; rw [List.map_append, List.length_append]; exact hown1
      clear hown1 hg1 hO2 hB2 hsz hO hB hBa hq ck
      try go_wp2_with fail
      go_roundw
      case rel => exact ⟨m, (m : Int) - 1, by omega, rfl, by go_num, by rw [Hdb.out]; exact hO3, hB3⟩
      case measure => first | (simp [intOf]; done) | (simp [intOf]; omega)
end Go.Proofs.Ytkldapdebjlfmaa
