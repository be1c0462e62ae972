/- Contracts of poly.factors and its iterator. -/
import Derived.Test.YtkldapdebjlfmaaPoB
namespace Go.Proofs.Ytkldapdebjlfmaa
open Go.RowKit Go.Shelf
attribute [local go_sem] Oper.semAt_some run_store_func

set_option maxHeartbeats 400000 in
theorem factors_any (A : Option Addr) (len cap : Nat) (w : World) :
    Calls Try.prog 59 #[.slice A len cap] w fun e w' => e = .returned (.func (.func 64) #[] #[.pointer (some ⟨w.heap.size, 0, none⟩)]) ∧ w' = w.alloc (.cells #[.slice A len cap] 22) := by
  go_enter Try.func59, Try.ntmps59
  go_wp2
  go_ret
  exact ⟨rfl, rfl⟩

/-- The places of the factors that are not nought, among the first k. -/
def nzS (q : List UInt8) : Nat → List (Fin q.length)
  | 0 => []
  | k + 1 => if h : k < q.length then (if q[k] = 0 then nzS q k else nzS q k ++ [⟨k, h⟩]) else nzS q k
theorem nzS_length (q : List UInt8) (k : Nat) : (nzS q k).length ≤ k := by
  induction k with
  | zero => exact Nat.le_refl _
  | succ k ih =>
    simp only [nzS]
    split
    · split
      · omega
      · simp; omega
    · omega
theorem nzS_prefix (q : List UInt8) (k : Nat) : nzS q k <+: nzS q (k + 1) := by
  simp only [nzS]
  split
  · split
    · exact List.prefix_refl _
    · exact List.prefix_append _ _
  · exact List.prefix_refl _
theorem nzS_prefix' (q : List UInt8) (d k : Nat) : nzS q k <+: nzS q (k + d) := by
  induction d with
  | zero => exact List.prefix_refl _
  | succ d ih => exact ih.trans (nzS_prefix q (k + d))
/-- What a factor is told as. -/
abbrev facV (q : List UInt8) (x : Fin q.length) : Array Value := #[.int .i64 (x.val : Nat), eB q[x]]

set_option maxRecDepth 100000 in
set_option maxHeartbeats 2000000 in
theorem factors1_in (n : Nat) (l B1 B n₀ g : Nat) (sv : Value) (q : List UInt8) (hreach : q.length ≤ 140737488355328) (J Jx : List (Fin q.length) → World → Prop)
    (hY : ∀ pre x W, J pre W → pre.length < q.length → YieldAt Fence.wide n Try.prog l (facV q x) W fun e W' =>
      (e = .returned (.bool true) ∧ J (pre ++ [x]) W' ∧ Keep n₀ g W W') ∨ (e = .returned (.bool false) ∧ Jx (pre ++ [x]) W'))
    (W : World) (h1 : W.cell? ⟨B1, 0, none⟩ = some sv) (hS : Sl eB B W sv q) (hBn : B ≤ n₀) (hBg : B ≤ g) (h0 : J [] W) :
    CallsIn Fence.wide (n + 1) Try.prog 64 #[.func (.yield l) #[] #[], .pointer (some ⟨B1, 0, none⟩)] W fun e W' => (∃ v, e = .returned v) ∧
      ((∃ ys, ys = nzS q q.length ∧ J ys W') ∨ (∃ pre, pre <+: nzS q q.length ∧ Jx pre W')) := by
  obtain ⟨A, cap, rfl, hcap, hcs⟩ := hS
  refine callsIn_of_wp Try.func64 rfl trivial ?_ rfl
  simp only [Try.ntmps64, List.size_toArray, List.length_cons, List.length_nil, Nat.reduceAdd, Nat.reduceSub, Array.replicate_succ, Array.replicate_zero, List.push_toArray, List.append_toArray, List.nil_append, List.cons_append]
  gi_wp2
  gi_loopw [7] (fun i wr => ∃ k : Nat, k ≤ q.length ∧ i = .int .i64 k ∧ J (nzS q k) wr ∧ Keep n₀ g W wr)
    (fun i _ => q.length - (intOf i).toNat)
  case atStart => exact ⟨0, Nat.zero_le _, rfl, h0, keep_r _ _ _⟩
  case round =>
    obtain ⟨k, hk, rfl, hJs, hnx⟩ := hrel
    by_cases hlt : k < q.length
    · obtain ⟨b, off, rfl, hb, hcell⟩ := hcs (by omega)
      have hcx : wr.cell? ⟨b, off + k, none⟩ = some (eB q[k]) := (hnx.cell (p := ⟨b, off + k, none⟩) (by show b < _; omega) (by show b ≠ _; omega)).trans (hcell k _ (by simp [hlt]))
      have Hsn := Lib.hid (show nzS q (k + 1) = if q[k] = 0 then nzS q k else nzS q k ++ [⟨k, hlt⟩] by simp only [nzS, dif_pos hlt])
      have hpre : nzS q (k + 1) <+: nzS q q.length := by
        have := nzS_prefix' q (q.length - (k + 1)) (k + 1)
        rwa [show k + 1 + (q.length - (k + 1)) = q.length by omega] at this
      have hlen := nzS_length q k
      have hYk := hY _ ⟨k, hlt⟩ wr hJs (by omega)
      obtain ⟨fn, tmps, assign, body, hy, hR⟩ := hYk
      change (Instr.yield l #[.int .i64 ((k : Nat) : Int), eB q[k]]).run Try.prog wr = _ at hy
      clear hcell hcs
      obtain ⟨x, hx'⟩ : ∃ x, q[k] = x := ⟨_, rfl⟩
      rw [hx'] at hcx hy Hsn
      clear hx'
      by_cases hx : x = 0
      · have hz := beq_zero x hx
        have hz' : ((x.toNat : Int) != 0) = false := by rw [bne, hz]; rfl
        have Hx := Lib.hid hx
        clear hx
        gi_wp2
        repeat (refine ⟨fun f hf => (by cases hf), ?_⟩; gi_wp2)
        go_roundw
        case rel => exact ⟨k + 1, by omega, by go_num, by rw [Hsn.out, if_pos Hx.out]; exact hJs, hnx⟩
        case measure => simp [intOf]; omega
      · have hz := beq_some x hx
        have hz' : ((x.toNat : Int) != 0) = true := by rw [bne, hz]; rfl
        have Hx := Lib.hid hx
        clear hx
        gi_wp2
        refine hR.mono ?_
        rintro e W3 (⟨rfl, hJ3, hk3⟩ | ⟨rfl, hJx3⟩)
        · gi_wp2
          go_roundw
          case rel => exact ⟨k + 1, by omega, by go_num, by rw [Hsn.out, if_neg Hx.out]; exact hJ3, keep_t hnx hk3⟩
          case measure => simp [intOf]; omega
        · gi_wp2
          refine bodyPost_ret (results_none rfl _ _ _) rfl ?_
          exact ⟨⟨_, rfl⟩, .inr ⟨_, hpre, by rw [Hsn.out, if_neg Hx.out]; exact hJx3⟩⟩
    · obtain rfl : k = q.length := by omega
      gi_wp2
      go_end0
      exact ⟨⟨_, rfl⟩, .inl ⟨_, rfl, hJs⟩⟩
theorem factors_stops (n : Nat) (B1 B n₀ g : Nat) (sv : Value) (q : List UInt8) (hreach : q.length ≤ 140737488355328) (w : World) (hBn : B ≤ n₀) (hBg : B ≤ g) (hB : B ≤ w.heap.size) (h1 : w.cell? ⟨B1, 0, none⟩ = some sv) (hS : Sl eB B w sv q) :
    SeqStopsK Fence.wide (n + 1) Try.prog 64 #[.pointer (some ⟨B1, 0, none⟩)] (fun x : Fin q.length => facV q x) (Keep n₀ g) (fun ys => ys = nzS q q.length) (fun pre => pre <+: nzS q q.length) q.length w := fun l J Jx W hW _ _ hY h0 =>
  factors1_in n l B1 B n₀ g sv q hreach J Jx hY W ((hW.cell (p := ⟨B1, 0, none⟩) (World.block_lt_of_cell? w _ h1)).trans h1) (hS.below (hW.mono hB)) hBn hBg h0

/-! ### What the rounds put together -/

/-- A factor put together with g of its place, o places on. -/
def upd (o : Nat) (g : Nat → UInt8) (f : Nat → UInt8) (n : Nat) : Nat → UInt8 := fun k => if k = o + n then f k ^^^ g n else f k
def acc {N : Nat} (o : Nat) (g : Nat → UInt8) (f : Nat → UInt8) (pre : List (Fin N)) : Nat → UInt8 := pre.foldl (fun f x => upd o g f x.val) f
theorem acc_snoc {N : Nat} (o : Nat) (g f : Nat → UInt8) (pre : List (Fin N)) (x : Fin N) : acc o g f (pre ++ [x]) = upd o g (acc o g f pre) x.val := by simp [acc]
/-- All of them: the sum. -/
theorem acc_nz (q : List UInt8) (o : Nat) (g f : Nat → UInt8) (hg : ∀ n (h : n < q.length), q[n] = 0 → g n = 0) (k : Nat) (hk : k ≤ q.length) (j : Nat) :
    acc o g f (nzS q k) j = if o ≤ j ∧ j - o < k then f j ^^^ g (j - o) else f j := by
  induction k with
  | zero => simp [nzS, acc]
  | succ k ih =>
    have hlt : k < q.length := by omega
    have ih := ih (by omega)
    have e : nzS q (k + 1) = if q[k] = 0 then nzS q k else nzS q k ++ [⟨k, hlt⟩] := by simp only [nzS, dif_pos hlt]
    rw [e]
    by_cases hz : q[k] = 0
    · rw [if_pos hz, ih]
      by_cases hj : j = o + k
      · subst hj
        rw [if_neg (by omega), if_pos (by omega), show o + k - o = k by omega, hg k hlt hz, x_zero]
      · by_cases h2 : o ≤ j ∧ j - o < k
        · rw [if_pos h2, if_pos (by omega)]
        · rw [if_neg h2, if_neg (by omega)]
    · rw [if_neg hz, acc_snoc]
      simp only [upd]
      by_cases hj : j = o + k
      · subst hj
        rw [if_pos rfl, ih, if_neg (by omega), if_pos (by omega), show o + k - o = k by omega]
      · rw [if_neg hj, ih]
        by_cases h2 : o ≤ j ∧ j - o < k
        · rw [if_pos h2, if_pos (by omega)]
        · rw [if_neg h2, if_neg (by omega)]
/-- A row of memory that holds the first N factors of f. -/
def cellsF (f : Nat → UInt8) (N : Nat) : Array Value := ((List.range N).map fun i => eB (f i)).toArray
theorem cellsF_size (f : Nat → UInt8) (N : Nat) : (cellsF f N).size = N := by simp [cellsF]
theorem cellsF_get (f : Nat → UInt8) (N j : Nat) (h : j < N) : (cellsF f N)[j]? = some (eB (f j)) := by simp [cellsF, h]
theorem cellsF_set (f : Nat → UInt8) (N j : Nat) (x : UInt8) : (cellsF f N).setIfInBounds j (eB x) = cellsF (fun k => if k = j then x else f k) N := by
  apply Array.ext
  · simp [cellsF]
  · intro i h1 h2
    simp only [Array.size_setIfInBounds, cellsF_size] at h1
    by_cases h : i = j
    · subst h; simp [cellsF]
    · simp [cellsF, h, Ne.symm h]
theorem eB_xor (a b : UInt8) : Value.int .u8 (bits .xor .u8 (a.toNat : Int) (b.toNat : Int)) = eB (a ^^^ b) := by
  rw [u8_xor _ _ a.toNat_lt b.toNat_lt, eB, xor_toNat]
end Go.Proofs.Ytkldapdebjlfmaa
