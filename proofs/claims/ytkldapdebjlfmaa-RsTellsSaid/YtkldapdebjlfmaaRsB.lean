/- Contracts of rs.powers and its iterator; of slices.AppendSeq and Collect, of bytes. -/
import Derived.Test.YtkldapdebjlfmaaRsA
namespace Go.Proofs.Ytkldapdebjlfmaa
open Go.RowKit Go.Shelf
attribute [local go_sem] Oper.semAt_some run_store_func

set_option maxHeartbeats 400000 in
theorem powers_any (p : Int) (w : World) : Calls Try.prog 25 #[.int .i64 p] w fun e w' => e = .returned (.func (.func 42) #[] #[.pointer (some ⟨w.heap.size, 0, none⟩)]) ∧ w' = w.alloc (.cells #[.int .i64 p] 3) := by
  go_enter Try.func25, Try.ntmps25
  go_wp2
  go_ret
  exact ⟨rfl, rfl⟩
/-- The first p powers of 2. -/
def pows2 (p : Nat) : List UInt8 := (List.range p).map g2
theorem pows2_length (p : Nat) : (pows2 p).length = p := by simp [pows2]
theorem pows2_succ (p : Nat) : pows2 (p + 1) = pows2 p ++ [g2 p] := by simp [pows2, List.range_succ]
theorem pows2_prefix (k p : Nat) (h : k ≤ p) : pows2 k <+: pows2 p := by
  have : pows2 p = pows2 k ++ ((List.range (p - k)).map (k + ·)).map g2 := by
    conv => lhs; rw [show p = k + (p - k) by omega]
    simp only [pows2, List.range_add, List.map_append]
  rw [this]; exact List.prefix_append _ _
theorem grown_of {w w' : World} (h : Below w.heap.size w w') : w.grownBy w' none := ⟨h.os, h.tape, h.output, h.size, fun k hk _ => h.block k hk⟩

set_option maxRecDepth 100000 in
set_option maxHeartbeats 2000000 in
theorem powers1_in (n : Nat) (l B1 n₀ p : Nat) (hp : p ≤ 255) (J Jx : List UInt8 → World → Prop)
    (hY : ∀ pre x W, J pre W → pre.length < p → YieldAt Fence.wide n Try.prog l #[eB x] W fun e W' =>
      (e = .returned (.bool true) ∧ J (pre ++ [x]) W' ∧ Below n₀ W W') ∨ (e = .returned (.bool false) ∧ Jx (pre ++ [x]) W'))
    (W : World) (h1 : W.cell? ⟨B1, 0, none⟩ = some (.int .i64 p)) (h0 : J [] W) (hn : n₀ ≤ W.heap.size) (hJab : AbidesFrom W.heap.size J) :
    CallsIn Fence.wide (n + 1) Try.prog 42 #[.func (.yield l) #[] #[], .pointer (some ⟨B1, 0, none⟩)] W fun e W' => (∃ v, e = .returned v) ∧
      ((∃ ys, ys = pows2 p ∧ J ys W') ∨ (∃ pre, pre <+: pows2 p ∧ Jx pre W')) := by
  refine callsIn_of_wp Try.func42 rfl trivial ?_ rfl
  simp only [Try.ntmps42, List.size_toArray, List.length_cons, List.length_nil, Nat.reduceAdd, Nat.reduceSub, Array.replicate_succ, Array.replicate_zero, List.push_toArray, List.append_toArray, List.nil_append, List.cons_append]
  gi_wp2
  gi_loopw [5] (fun i wr => ∃ k : Nat, k ≤ p ∧ i = .int .i64 k ∧ J (pows2 k) wr ∧ Below n₀ W wr)
    (fun i _ => p - (intOf i).toNat)
  case atStart => exact ⟨0, Nat.zero_le _, rfl, h0, Below.refl _ _⟩
  case round =>
    obtain ⟨k, hk, rfl, hJs, hnx⟩ := hrel
    by_cases hlt : k < p
    · have hl : decide ((k : Int) < (p : Int)) = true := decide_eq_true (by omega)
      have hex := Exp8 k (by omega) wr
      have hpre := pows2_prefix (k + 1) p (by omega)
      rw [pows2_succ] at hpre
      have Hs := Lib.hid (pows2_succ k)
      gi_wp2_with (refine ⟨trivial, ?_⟩; gi_at_call 43; refine (callsIn_wide.2 hex).mono ?_; rintro e w1 ⟨rfl, hB1⟩)
      have hJ1 : J (pows2 k) w1 := hJab _ _ _ none hJs (grown_of hB1) (fun r e => by cases e)
      have hn1 : Below n₀ W w1 := hnx.trans (hB1.mono (by have := hnx.size; omega))
      obtain ⟨fn, tmps, assign, body, hy, hR⟩ := hY _ (g2 k) w1 hJ1 (by rw [pows2_length]; exact hlt)
      clear hex hB1 hJs hnx
      generalize g2 k = x at *
      gi_wp2
      rw [hy, Oper.uponIn_round]
      refine ⟨fun h => (by cases h), ?_⟩
      refine hR.mono ?_
      rintro e W3 (⟨rfl, hJ3, hk3⟩ | ⟨rfl, hJx3⟩)
      · gi_wp2
        go_roundw
        case rel => exact ⟨k + 1, by omega, by go_num, by rw [Hs.out]; exact hJ3, hn1.trans hk3⟩
        case measure => simp [intOf]; omega
      · gi_wp2
        refine bodyPost_ret (results_none rfl _ _ _) rfl ?_
        exact ⟨⟨_, rfl⟩, .inr ⟨_, hpre, hJx3⟩⟩
    · obtain rfl : k = p := by omega
      have hl : decide ((k : Int) < (k : Int)) = false := decide_eq_false (by omega)
      gi_wp2
      go_end0
      exact ⟨⟨_, rfl⟩, .inl ⟨_, rfl, hJs⟩⟩
theorem powers_stops (n : Nat) (B1 n₀ p : Nat) (hp : p ≤ 255) (w : World) (hn₀ : n₀ ≤ w.heap.size) (h1 : w.cell? ⟨B1, 0, none⟩ = some (.int .i64 p)) :
    SeqStopsK Fence.wide (n + 1) Try.prog 42 #[.pointer (some ⟨B1, 0, none⟩)] (fun x : UInt8 => #[eB x]) (Below n₀) (fun ys => ys = pows2 p) (fun pre => pre <+: pows2 p) p w := fun l J Jx W hW hab _ hY h0 =>
  powers1_in n l B1 n₀ p hp J Jx hY W ((hW.cell (p := ⟨B1, 0, none⟩) (World.block_lt_of_cell? w _ h1)).trans h1) h0 (by have := hW.size; omega) hab
end Go.Proofs.Ytkldapdebjlfmaa
