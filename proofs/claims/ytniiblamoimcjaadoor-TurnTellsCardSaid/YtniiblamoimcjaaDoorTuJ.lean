/- The laws' own helpers: same, letter, trits. -/
import Derived.Test.YtniiblamoimcjaaDoorTuI
namespace Go.Proofs.YtniiblamoimcjaaDoor
open Go.RowKit Go.Shelf
attribute [local go_sem] Oper.semAt_some run_store_func

theorem sl_own {W : World} {base : Nat} {v : Value} {r : List UInt8} (h : W.ownsRow base 5 1 v r.length (r.map eB)) : Sl eB W.heap.size W v r := Sl.of_own h
theorem beq_dec (a b : List UInt8) : (a == b) = decide (a = b) := by
  rw [Bool.eq_iff_iff]; simp
theorem same_any (sa sb : Value) (a b : List UInt8) (B : Nat) (w : World) (ha : Sl eB B w sa a) (hb : Sl eB B w sb b) :
    Calls Tryd.prog 17 #[sa, sb] w fun e w' => e = .returned (.bool (decide (a = b))) ∧ w = w' := by
  have ra := run_str (P := Tryd.prog) ha 22 9 5 Tryd.underlying22 Tryd.underlying5 Tryd.underlying9
  have rb := run_str (P := Tryd.prog) hb 22 9 5 Tryd.underlying22 Tryd.underlying5 Tryd.underlying9
  obtain ⟨Aa, ca, rfl⟩ := ha.len
  obtain ⟨Ab, cb, rfl⟩ := hb.len
  clear ha hb
  go_enter Tryd.func17, Tryd.ntmps17
  go_wp2
  go_ret
  exact ⟨by rw [← beq_dec]; rfl, rfl⟩
theorem same_eq (sa sb : Value) (a : List UInt8) (B : Nat) (w : World) (ha : Sl eB B w sa a) (hb : Sl eB B w sb a) :
    Calls Tryd.prog 17 #[sa, sb] w fun e w' => e = .returned (.bool true) ∧ w = w' := by
  have h := same_any sa sb a a B w ha hb
  rwa [decide_eq_true (rfl : a = a)] at h
theorem run_acgt (n : Int) (w : World) : (Instr.index 9 (.string ⟨#[65, 67, 71, 84]⟩) (.int .i64 (n % 4))).run Tryd.prog w = .ok (eB (letterOf n)) w := by
  have hn : n % 4 = 0 ∨ n % 4 = 1 ∨ n % 4 = 2 ∨ n % 4 = 3 := by omega
  rcases hn with e | e | e | e
  · have k : (Instr.index 9 (.string ⟨#[65, 67, 71, 84]⟩) (.int .i64 0)).run Tryd.prog w = .ok (.int .u8 65) w := by kernel_rfl
    rw [e, show letterOf n = 65 by simp [letterOf, e]]
    exact k
  · have k : (Instr.index 9 (.string ⟨#[65, 67, 71, 84]⟩) (.int .i64 1)).run Tryd.prog w = .ok (.int .u8 67) w := by kernel_rfl
    rw [e, show letterOf n = 67 by simp [letterOf, e]]
    exact k
  · have k : (Instr.index 9 (.string ⟨#[65, 67, 71, 84]⟩) (.int .i64 2)).run Tryd.prog w = .ok (.int .u8 71) w := by kernel_rfl
    rw [e, show letterOf n = 71 by simp [letterOf, e]]
    exact k
  · have k : (Instr.index 9 (.string ⟨#[65, 67, 71, 84]⟩) (.int .i64 3)).run Tryd.prog w = .ok (.int .u8 84) w := by kernel_rfl
    rw [e, show letterOf n = 84 by simp [letterOf, e]]
    exact k
theorem lett_any (n : Int) (w : World) : Calls Tryd.prog 18 #[.int .i64 n] w fun e w' => e = .returned (eB (letterOf n)) ∧ w = w' := by
  have h3 := bits_and3 n
  have hidx := run_acgt n
  have h30 : 0 ≤ n % 4 := by omega
  have h34 : n % 4 < 4 := by omega
  go_enter Tryd.func18, Tryd.ntmps18
  go_wp2
  go_ret
  exact ⟨rfl, rfl⟩
/-- Numbers as trits. -/
def tritOf (x : Int) : UInt8 := if x % 3 = 0 then 0 else if x % 3 = 1 then 1 else 2
def tritsOf (l : List Int) : List UInt8 := l.map tritOf
theorem tritsOf_snoc (l : List Int) (k : Nat) (h : k < l.length) : tritsOf (l.take (k + 1)) = tritsOf (l.take k) ++ [tritOf l[k]] := by
  rw [List.take_succ_eq_append_getElem h, tritsOf, tritsOf, List.map_append]; rfl
theorem tritOf_mod (x : Int) : (wrap64 (x.tmod 3 + 3)).tmod 3 % 256 = ((tritOf x).toNat : Int) := by
  have e : x.tmod 3 = x % 3 ∨ x.tmod 3 = x % 3 - 3 := by
    rw [Int.tmod_eq_emod]
    split <;> simp
  have hw : wrap64 (x.tmod 3 + 3) = x.tmod 3 + 3 := by
    unfold wrap64
    omega
  have h0 : 0 ≤ x.tmod 3 + 3 := by omega
  rw [hw, Int.tmod_eq_emod_of_nonneg h0]
  have e2 : (x.tmod 3 + 3) % 3 % 256 = x % 3 := by omega
  rw [e2]
  unfold tritOf
  split
  · rename_i h; rw [h]; rfl
  · split
    · rename_i h; rw [h]; rfl
    · have : x % 3 = 2 := by omega
      rw [this]; rfl

set_option maxRecDepth 100000 in
set_option maxHeartbeats 1000000 in
theorem trits_any (sv : Value) (l : List Int) (hreach : l.length ≤ 17592186044416) (w : World) (hS : Sl eI w.heap.size w sv l) :
    Calls Tryd.prog 19 #[sv] w fun e w' => ∃ v, e = .returned v ∧ w'.ownsRow w.heap.size 5 1 v l.length ((tritsOf l).map eB) ∧ Below w.heap.size w w' := by
  obtain ⟨i0, hi, hz0, hz1, hz2⟩ := info_parts info_u8
  obtain ⟨A, cap, rfl, hcap, hcs⟩ := hS
  go_enter Tryd.func19, Tryd.ntmps19
  go_wp2
  go_loopw [3, 4] (fun v i wr => ∃ k : Nat, k ≤ l.length ∧ i = .int .i64 k ∧ wr.ownsRow w.heap.size 5 1 v k ((tritsOf (l.take k)).map eB) ∧ Below w.heap.size w wr) (fun _ i _ => l.length - (intOf i).toNat)
  case atStart => exact ⟨0, Nat.zero_le _, rfl, World.ownsRow_nil _ _ _ _, Below.refl _ _⟩
  case round =>
    obtain ⟨k, hk, rfl, hrow, hB⟩ := hrel
    by_cases hlt : k < l.length
    · obtain ⟨b, off, rfl, hb, hcell⟩ := hcs (by omega)
      have hcx : wr.cell? ⟨b, off + k, none⟩ = some (eI l[k]) := (hB.cell (p := ⟨b, off + k, none⟩) hb).trans (hcell k _ (by simp [hlt]))
      have H := Lib.hid (tritsOf_snoc l k hlt)
      clear hcell hcs
      generalize l[k] = x at *
      have h3 := tritOf_mod x
      have hm : k + 1 ≤ maxLen := by unfold maxLen; omega
      go_wp2_with (at_builtin; rw [h3]; refine wpList_append_own _ rfl _ _ 22 rfl w.heap.size 5 i0 (.int .u8 0) 1 1 Tryd.underlying22 hi hz0 hz1 hz2 rfl (by decide) _ _ _ rfl (hrow.alloc _) ⟨wr.heap.size, 0, none⟩ 1 1 [eB (tritOf x)] rfl rfl (cell_one_new _ _ _) (by simp [Value.oneCell']) hm (by omega) (by have := hB.size; simp; omega) ?_; intro v' w1 hown' hgrow _)
      have hB' : Below w.heap.size w w1 := (hB.alloc hB.size _).trans (below_grown (hrow.alloc _) hgrow (by have := hB.size; simp; omega) (Nat.le_refl _))
      go_roundw
      case rel => exact ⟨k + 1, by omega, by go_num, by rw [H.out]; simpa using hown', hB'⟩
      case measure => simp [intOf]; omega
    · obtain rfl : k = l.length := by omega
      go_wp2
      go_ret
      exact ⟨_, rfl, by simpa using hrow, hB⟩
end Go.Proofs.YtniiblamoimcjaaDoor
