/- The law's own helpers: same, row. -/
import Derived.Test.YtmdpodgodhkjdaaDoorLtA
import Derived.Test.YtmdpodgodhkjdaaDoorCl
namespace Go.Proofs.YtmdpodgodhkjdaaDoor
open Go.RowKit Go.Shelf
attribute [local go_sem] Oper.semAt_some run_store_func

theorem same_any (sa sb : Value) (a b : List UInt8) (B : Nat) (w : World) (ha : Sl eB B w sa a) (hb : Sl eB B w sb b) :
    Calls Tryd.prog 20 #[sa, sb] w fun e w' => e = .returned (.bool (decide (a = b))) ∧ w = w' := by
  have ra := run_str (P := Tryd.prog) ha 22 9 5 Tryd.underlying22 Tryd.underlying5 Tryd.underlying9
  have rb := run_str (P := Tryd.prog) hb 22 9 5 Tryd.underlying22 Tryd.underlying5 Tryd.underlying9
  obtain ⟨Aa, ca, rfl⟩ := ha.len
  obtain ⟨Ab, cb, rfl⟩ := hb.len
  clear ha hb
  go_enter Tryd.func20, Tryd.ntmps20
  go_wp2
  go_ret
  exact ⟨by rw [← beq_dec]; rfl, rfl⟩
theorem same_eq (sa sb : Value) (a : List UInt8) (B : Nat) (w : World) (ha : Sl eB B w sa a) (hb : Sl eB B w sb a) :
    Calls Tryd.prog 20 #[sa, sb] w fun e w' => e = .returned (.bool true) ∧ w = w' := by
  have h := same_any sa sb a a B w ha hb
  rwa [decide_eq_true (rfl : a = a)] at h
theorem run_acgt (n : Int) (w : World) : (Instr.index 9 (.string ⟨#[65, 67, 71, 84]⟩) (.int .i64 (n % 4))).run Tryd.prog w = .ok (eB (letterOf n)) w := by
  have hn : n % 4 = 0 ∨ n % 4 = 1 ∨ n % 4 = 2 ∨ n % 4 = 3 := by omega
  rcases hn with e | e | e | e
  · have k : (Instr.index 9 (.string ⟨#[65, 67, 71, 84]⟩) (.int .i64 0)).run Tryd.prog w = .ok (.int .u8 65) w := by kernel_rfl
    rw [e, show letterOf n = 65 by simp [letterOf, e, lett]]
    exact k
  · have k : (Instr.index 9 (.string ⟨#[65, 67, 71, 84]⟩) (.int .i64 1)).run Tryd.prog w = .ok (.int .u8 67) w := by kernel_rfl
    rw [e, show letterOf n = 67 by simp [letterOf, e, lett]]
    exact k
  · have k : (Instr.index 9 (.string ⟨#[65, 67, 71, 84]⟩) (.int .i64 2)).run Tryd.prog w = .ok (.int .u8 71) w := by kernel_rfl
    rw [e, show letterOf n = 71 by simp [letterOf, e, lett]]
    exact k
  · have k : (Instr.index 9 (.string ⟨#[65, 67, 71, 84]⟩) (.int .i64 3)).run Tryd.prog w = .ok (.int .u8 84) w := by kernel_rfl
    rw [e, show letterOf n = 84 by simp [letterOf, e, lett]]
    exact k
/-- Numbers as letters. -/
def textL (l : List Int) : List UInt8 := l.map letterOf
theorem textL_length (l : List Int) : (textL l).length = l.length := by simp [textL]
theorem textL_four (l : List Int) : ∀ k, k < (textL l).length → codeOf (atB (textL l) k).toNat ≠ -1 := by
  intro k hk
  rw [textL_length] at hk
  have : atB (textL l) k = letterOf l[k] := by simp [atB, textL, hk]
  rw [this]
  exact letterOf_ok _
theorem textL_snoc (l : List Int) (k : Nat) (h : k < l.length) : textL (l.take (k + 1)) = textL (l.take k) ++ [letterOf l[k]] := by
  rw [List.take_succ_eq_append_getElem h, textL, textL, List.map_append]; rfl
set_option maxRecDepth 100000 in
set_option maxHeartbeats 1000000 in
theorem row_any (sv : Value) (l : List Int) (hreach : l.length ≤ 17592186044416) (w : World) (hS : Sl eI w.heap.size w sv l) :
    Calls Tryd.prog 21 #[sv] w fun e w' => ∃ v, e = .returned v ∧ Own8 w.heap.size w' v (textL l) ∧ Below w.heap.size w w' := by
  obtain ⟨i0, hi, hz0, hz1, hz2⟩ := info_parts info_u8
  obtain ⟨A, cap, rfl, hcap, hcs⟩ := hS
  go_enter Tryd.func21, Tryd.ntmps21
  go_wp2
  go_loopw [3, 4] (fun v i wr => ∃ k : Nat, k ≤ l.length ∧ i = .int .i64 k ∧ wr.ownsRow w.heap.size 5 1 v k ((textL (l.take k)).map eB) ∧ Below w.heap.size w wr) (fun _ i _ => l.length - (intOf i).toNat)
  case atStart => exact ⟨0, Nat.zero_le _, rfl, World.ownsRow_nil _ _ _ _, Below.refl _ _⟩
  case round =>
    obtain ⟨k, hk, rfl, hrow, hB⟩ := hrel
    by_cases hlt : k < l.length
    · obtain ⟨b, off, rfl, hb, hcell⟩ := hcs (by omega)
      have hcx : wr.cell? ⟨b, off + k, none⟩ = some (eI l[k]) := (hB.cell (p := ⟨b, off + k, none⟩) hb).trans (hcell k _ (by simp [hlt]))
      have H := Lib.hid (textL_snoc l k hlt)
      clear hcell hcs
      generalize l[k] = x at *
      have h3 := bits_and3 x
      have hidx := run_acgt x
      have h30 : 0 ≤ x % 4 := by omega
      have h34 : x % 4 < 4 := by omega
      have hm : k + 1 ≤ maxLen := by unfold maxLen; omega
      go_wp2_with (at_builtin; refine wpList_append_own _ rfl _ _ 22 rfl w.heap.size 5 i0 (.int .u8 0) 1 1 Tryd.underlying22 hi hz0 hz1 hz2 rfl (by decide) _ _ _ rfl (hrow.alloc _) ⟨wr.heap.size, 0, none⟩ 1 1 [eB (letterOf x)] rfl rfl (cell_one_new _ _ _) (by simp [Value.oneCell']) hm (by omega) (by have := hB.size; simp; omega) ?_; intro v' w1 hown' hgrow _)
      have hB' : Below w.heap.size w w1 := (hB.alloc hB.size _).trans (below_grown (hrow.alloc _) hgrow (by have := hB.size; simp; omega) (Nat.le_refl _))
      go_roundw
      case rel => exact ⟨k + 1, by omega, by go_num, by rw [H.out]; simpa using hown', hB'⟩
      case measure => simp [intOf]; omega
    · obtain rfl : k = l.length := by omega
      go_wp2
      go_ret
      exact ⟨_, rfl, by simpa [Own8, textL] using hrow, hB⟩
end Go.Proofs.YtmdpodgodhkjdaaDoor
