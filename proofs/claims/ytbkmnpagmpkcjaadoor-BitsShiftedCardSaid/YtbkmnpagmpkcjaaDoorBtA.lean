/- Contracts of bits' small functions: places, its iterator. -/
import Derived.Test.YtbkmnpagmpkcjaaDoorRows
import Derived.Test.YtbkmnpagmpkcjaaDoorL
namespace Go.Proofs.YtbkmnpagmpkcjaaDoor
open Go.RowKit Go.Shelf
attribute [local go_sem] Oper.semAt_some

/-- The table of classes lies in memory. -/
def Tab (w : World) : Prop :=
  w.cell? ⟨0, 0, none⟩ = some (.int .u8 65) ∧ w.cell? ⟨0, 1, none⟩ = some (.int .u8 84) ∧ w.cell? ⟨0, 2, none⟩ = some (.int .u8 67) ∧ w.cell? ⟨0, 3, none⟩ = some (.int .u8 71)
theorem Tab.lt {w : World} (h : Tab w) : 0 < w.heap.size := World.block_lt_of_cell? w ⟨0, 0, none⟩ h.1
theorem Tab.below' {B : Nat} {w w' : World} (h : Tab w) (hb : Below B w w') (hB : 0 < B) : Tab w' :=
  ⟨(hb.cell (p := ⟨0, 0, none⟩) hB).trans h.1, (hb.cell (p := ⟨0, 1, none⟩) hB).trans h.2.1, (hb.cell (p := ⟨0, 2, none⟩) hB).trans h.2.2.1, (hb.cell (p := ⟨0, 3, none⟩) hB).trans h.2.2.2⟩
theorem Tab.below {w w' : World} (h : Tab w) (hb : Below w.heap.size w w') : Tab w' := h.below' hb h.lt

/-- The letter of a bit at a place. -/
def clsOf (i : Nat) (b : Nat) : UInt8 := if i % 2 = 0 then (if b = 0 then 65 else 84) else (if b = 0 then 67 else 71)
/-- The class of a place, as a value. -/
def clsV (i : Nat) : Value := .agg #[eB (clsOf i 0), eB (clsOf i 1)]

set_option maxHeartbeats 400000 in
theorem places_any (A : Option Addr) (len cap : Nat) (w : World) :
    Calls Tryd.prog 19 #[.slice A len cap] w fun e w' => e = .returned (.func (.func 24) #[] #[.pointer (some ⟨w.heap.size, 0, none⟩)]) ∧ w' = w.alloc (.cells #[.slice A len cap] 24) := by
  go_enter Tryd.func19, Tryd.ntmps19
  go_wp2
  go_ret
  exact ⟨rfl, rfl⟩

set_option maxRecDepth 100000 in
set_option maxHeartbeats 2000000 in
theorem places1_in {α : Type} (f : α → UInt8 × Nat) (xs : List α) (n : Nat) (l Bs n₀ : Nat) (sv : Value) (bs : List UInt8) (hxs : xs.map f = bs.zipIdx) (hreach : bs.length ≤ 140737488351232) (J Jx : List α → World → Prop) (hn₀ : 0 < n₀)
    (hY : ∀ pre x W, J pre W → pre.length < bs.length → YieldAt Fence.wide n Tryd.prog l #[eB (f x).1, clsV (f x).2] W fun e W' =>
      (e = .returned (.bool true) ∧ J (pre ++ [x]) W' ∧ Below n₀ W W') ∨ (e = .returned (.bool false) ∧ Jx (pre ++ [x]) W'))
    (W : World) (hBs : W.cell? ⟨Bs, 0, none⟩ = some sv) (hS : Sl eB n₀ W sv bs) (hT : Tab W) (h0 : J [] W) :
    CallsIn Fence.wide (n + 1) Tryd.prog 24 #[.func (.yield l) #[] #[], .pointer (some ⟨Bs, 0, none⟩)] W fun e W' => (∃ v, e = .returned v) ∧
      ((∃ ys, ys = xs ∧ J ys W') ∨ (∃ pre, pre <+: xs ∧ Jx pre W')) := by
  have hxl : xs.length = bs.length := by have := congrArg List.length hxs; simpa using this
  obtain ⟨A, cap, rfl, hcap, hcs⟩ := hS
  refine callsIn_of_wp Tryd.func24 rfl trivial ?_ rfl
  simp only [Tryd.ntmps24, List.size_toArray, List.length_cons, List.length_nil, Nat.reduceAdd, Nat.reduceSub, Array.replicate_succ, Array.replicate_zero, List.push_toArray, List.append_toArray, List.nil_append, List.cons_append]
  gi_wp2
  gi_loopw [7] (fun i wr => ∃ k : Nat, k ≤ bs.length ∧ i = .int .i64 k ∧ J (xs.take k) wr ∧ Below n₀ W wr)
    (fun i _ => bs.length - (intOf i).toNat)
  case atStart => exact ⟨0, Nat.zero_le _, rfl, h0, Below.refl _ _⟩
  case round =>
    obtain ⟨k, hk, rfl, hJs, hnx⟩ := hrel
    by_cases hlt : k < bs.length
    · obtain ⟨b, off, rfl, hb, hcell⟩ := hcs (by omega)
      have hcx : wr.cell? ⟨b, off + k, none⟩ = some (eB bs[k]) := (hnx.cell (p := ⟨b, off + k, none⟩) hb).trans (hcell k _ (by simp [hlt]))
      obtain ⟨t0, t1, t2, t3⟩ := hT.below' hnx hn₀
      have hfx : f (xs[k]'(by omega)) = (bs[k], k) := by
        have h1 : (xs.map f)[k]'(by simp; omega) = bs.zipIdx[k]'(by simp; omega) := by simp only [hxs]
        simpa using h1
      obtain ⟨fn, tmps, assign, body, hy, hR⟩ := hY _ (xs[k]'(by omega)) wr hJs (by simp; omega)
      have hnext : xs.take k ++ [xs[k]'(by omega)] = xs.take (k + 1) := (List.take_succ_eq_append_getElem (by omega)).symm
      rw [hnext] at hR
      clear hnext
      rw [hfx] at hy
      dsimp only at hy hR
      have hcls : clsV k = if k % 2 = 0 then .agg #[.int .u8 65, .int .u8 84] else .agg #[.int .u8 67, .int .u8 71] := by
        unfold clsV clsOf
        split <;> simp
      have hpre : xs.take (k + 1) <+: xs := List.take_prefix _ _
      have hm := Int.tmod_eq_emod_of_nonneg (a := (k : Int)) (b := 2) (by omega)
      rcases Nat.mod_two_eq_zero_or_one k with hp | hp
      · rw [if_pos hp] at hcls
        rw [hcls] at hy
        have hm2 : (k : Int).tmod 2 = 0 := by omega
        clear hm hcls hp hfx
        gi_wp2
        refine hR.mono ?_
        rintro e W3 (⟨rfl, hJ3, hk3⟩ | ⟨rfl, hJx3⟩)
        · gi_wp2
          go_roundw
          case rel => exact ⟨k + 1, by omega, by simp, hJ3, hnx.trans hk3⟩
          case measure => simp [intOf]; omega
        · gi_wp2
          refine bodyPost_ret (results_none rfl _ _ _) rfl ?_
          exact ⟨⟨_, rfl⟩, .inr ⟨_, hpre, hJx3⟩⟩
      · rw [if_neg (by omega)] at hcls
        rw [hcls] at hy
        have hm2 : (k : Int).tmod 2 = 1 := by omega
        clear hm hcls hp hfx
        gi_wp2
        refine hR.mono ?_
        rintro e W3 (⟨rfl, hJ3, hk3⟩ | ⟨rfl, hJx3⟩)
        · gi_wp2
          go_roundw
          case rel => exact ⟨k + 1, by omega, by simp, hJ3, hnx.trans hk3⟩
          case measure => simp [intOf]; omega
        · gi_wp2
          refine bodyPost_ret (results_none rfl _ _ _) rfl ?_
          exact ⟨⟨_, rfl⟩, .inr ⟨_, hpre, hJx3⟩⟩
    · obtain rfl : k = bs.length := by omega
      gi_wp2
      go_end0
      exact ⟨⟨_, rfl⟩, .inl ⟨_, rfl, by rwa [List.take_of_length_le (by omega)] at hJs⟩⟩

/-- The iterator's contract: all bytes and their places, or the first ones. -/
theorem places_stops {α : Type} (f : α → UInt8 × Nat) (xs : List α) (n : Nat) (Bs n₀ : Nat) (sv : Value) (bs : List UInt8) (hxs : xs.map f = bs.zipIdx) (hreach : bs.length ≤ 140737488351232) (w : World) (hBs : Bs < w.heap.size) (hn₀ : n₀ ≤ w.heap.size) (hl₀ : 0 < n₀)
    (hc : w.cell? ⟨Bs, 0, none⟩ = some sv) (hS : Sl eB n₀ w sv bs) (hT : Tab w) :
    SeqStopsK Fence.wide (n + 1) Tryd.prog 24 #[.pointer (some ⟨Bs, 0, none⟩)] (fun x : α => #[eB (f x).1, clsV (f x).2]) (Below n₀) (fun ys => ys = xs) (fun pre => pre <+: xs) bs.length w := fun l J Jx W hW _ _ hY h0 =>
  places1_in f xs n l Bs n₀ sv bs hxs hreach J Jx hl₀ hY W ((hW.cell (p := ⟨Bs, 0, none⟩) hBs).trans hc) (hS.below (hW.mono hn₀)) (hT.below hW) h0
end Go.Proofs.YtbkmnpagmpkcjaaDoor
