import Derived.Test.YtcngnjkpnmpcpaaDoorRows
import Derived.Test.YtcngnjkpnmpcpaaDoorLZ
namespace Go.Proofs.YtcngnjkpnmpcpaaDoor
open Go.RowKit Go.Shelf
attribute [local go_sem] Oper.semAt_some
def Tab (w : World) : Prop :=
 w.cell? ⟨0, 0, none⟩ = some (.int .u8 65) ∧ w.cell? ⟨0, 1, none⟩ = some (.int .u8 67) ∧ w.cell? ⟨0, 2, none⟩ = some (.int .u8 71) ∧ w.cell? ⟨0, 3, none⟩ = some (.int .u8 84)
theorem Tab.lt {w : World} (h : Tab w) : 0 < w.heap.size := World.block_lt_of_cell? w ⟨0, 0, none⟩ h.1
theorem Tab.below {w w' : World} (h : Tab w) (hb : Below w.heap.size w w') : Tab w' :=
 ⟨(hb.cell (p := ⟨0, 0, none⟩) h.lt).trans h.1, (hb.cell (p := ⟨0, 1, none⟩) h.lt).trans h.2.1, (hb.cell (p := ⟨0, 2, none⟩) h.lt).trans h.2.2.1, (hb.cell (p := ⟨0, 3, none⟩) h.lt).trans h.2.2.2⟩
theorem Tab.below' {B : Nat} {w w' : World} (h : Tab w) (hb : Below B w w') (hB : 0 < B) : Tab w' :=
 ⟨(hb.cell (p := ⟨0, 0, none⟩) hB).trans h.1, (hb.cell (p := ⟨0, 1, none⟩) hB).trans h.2.1, (hb.cell (p := ⟨0, 2, none⟩) hB).trans h.2.2.1, (hb.cell (p := ⟨0, 3, none⟩) hB).trans h.2.2.2⟩
def codeOf (c : Nat) : Int := if c = 65 then 0 else if c = 67 then 1 else if c = 71 then 2 else if c = 84 then 3 else -1
def letterOf (n : Int) : UInt8 := if n % 4 = 0 then 65 else if n % 4 = 1 then 67 else if n % 4 = 2 then 71 else 84
theorem letterOf_cell {w : World} (hT : Tab w) (n : Int) : w.cell? ⟨0, (n % 4).toNat, none⟩ = some (eB (letterOf n)) := by
 obtain ⟨h0, h1, h2, h3⟩ := hT
 unfold letterOf
 have hn : n % 4 = 0 ∨ n % 4 = 1 ∨ n % 4 = 2 ∨ n % 4 = 3 := by omega
 rcases hn with e | e | e | e <;> rw [e] <;> simp only [eB]
 · exact h0
 · exact h1
 · exact h2
 · exact h3
set_option maxRecDepth 100000 in
set_option maxHeartbeats 400000 in
theorem code_any (c : Nat) (w : World) (hT : Tab w) :
    Calls Tryd.prog 65 #[.int .u8 c] w fun e w' => e = .returned (.int .i64 (codeOf c)) ∧ w = w' := by
  obtain ⟨h0, h1, h2, h3⟩ := hT
  go_enter Tryd.func65, Tryd.ntmps65
  go_wp2
  have i0 : ∀ w, (Instr.index 86 (.agg #[.int .u8 65, .int .u8 67, .int .u8 71, .int .u8 84]) (.int .i64 0)).run Tryd.prog w = .ok (.int .u8 65) w := fun _ => by kernel_rfl
  have i1 : ∀ w, (Instr.index 86 (.agg #[.int .u8 65, .int .u8 67, .int .u8 71, .int .u8 84]) (.int .i64 1)).run Tryd.prog w = .ok (.int .u8 67) w := fun _ => by kernel_rfl
  have i2 : ∀ w, (Instr.index 86 (.agg #[.int .u8 65, .int .u8 67, .int .u8 71, .int .u8 84]) (.int .i64 2)).run Tryd.prog w = .ok (.int .u8 71) w := fun _ => by kernel_rfl
  have i3 : ∀ w, (Instr.index 86 (.agg #[.int .u8 65, .int .u8 67, .int .u8 71, .int .u8 84]) (.int .i64 3)).run Tryd.prog w = .ok (.int .u8 84) w := fun _ => by kernel_rfl
  refine wp_loop_rounds 5 ?_
  rw [rounds_succ]
  go_wp2
  · have h : ((65 : Int) == c) = true := by assumption
    go_ret
    exact ⟨by have : c = 65 := by have := beq_iff_eq.1 h; omega
              subst this; rfl, rfl⟩
  rw [rounds_succ]
  go_wp2
  · have h : ((67 : Int) == c) = true := by assumption
    go_ret
    exact ⟨by have : c = 67 := by have := beq_iff_eq.1 h; omega
              subst this; rfl, rfl⟩
  rw [rounds_succ]
  go_wp2
  · have h : ((71 : Int) == c) = true := by assumption
    go_ret
    exact ⟨by have : c = 71 := by have := beq_iff_eq.1 h; omega
              subst this; rfl, rfl⟩
  rw [rounds_succ]
  go_wp2
  · have h : ((84 : Int) == c) = true := by assumption
    go_ret
    exact ⟨by have : c = 84 := by have := beq_iff_eq.1 h; omega
              subst this; rfl, rfl⟩
  rw [rounds_succ]
  go_wp2
  have g0 : ((65 : Int) == c) = false := by assumption
  have g1 : ((67 : Int) == c) = false := by assumption
  have g2 : ((71 : Int) == c) = false := by assumption
  have g3 : ((84 : Int) == c) = false := by assumption
  go_ret
  refine ⟨?_, rfl⟩
  have e0 : ¬ c = 65 := fun e => by subst e; simp at g0
  have e1 : ¬ c = 67 := fun e => by subst e; simp at g1
  have e2 : ¬ c = 71 := fun e => by subst e; simp at g2
  have e3 : ¬ c = 84 := fun e => by subst e; simp at g3
  simp [codeOf, e0, e1, e2, e3]
set_option maxRecDepth 100000 in
set_option maxHeartbeats 400000 in
theorem letter_any (n : Int) (w : World) (hT : Tab w) :
    Calls Tryd.prog 61 #[.int .i64 n] w fun e w' => e = .returned (eB (letterOf n)) ∧ w = w' := by
  have hc := letterOf_cell hT n
  have hb := bits_and3 n
  have h0 : 0 ≤ n % 4 := by omega
  have h4 : n % 4 < 4 := by omega
  clear hT
  go_enter Tryd.func61, Tryd.ntmps61
  go_wp2
  go_ret
  exact ⟨rfl, rfl⟩
def codesOf (bs : List UInt8) : List Int := bs.map fun b => codeOf b.toNat
set_option maxHeartbeats 400000 in
theorem codes_any (A : Option Addr) (len cap : Nat) (w : World) :
    Calls Tryd.prog 58 #[.slice A len cap] w fun e w' => e = .returned (.func (.func 64) #[] #[.pointer (some ⟨w.heap.size, 0, none⟩)]) ∧ w' = w.alloc (.cells #[.slice A len cap] 39) := by
  go_enter Tryd.func58, Tryd.ntmps58
  go_wp2
  go_ret
  exact ⟨rfl, rfl⟩
set_option maxRecDepth 100000 in
set_option maxHeartbeats 2000000 in
theorem codes1_in (n : Nat) (l Bs n₀ : Nat) (sv : Value) (bs : List UInt8) (hreach : bs.length ≤ 140737488351232) (J Jx : List Int → World → Prop) (hn₀ : 0 < n₀)
    (hY : ∀ pre x W, J pre W → pre.length < bs.length → YieldAt Fence.wide n Tryd.prog l #[.int .i64 x] W fun e W' =>
     (e = .returned (.bool true) ∧ J (pre ++ [x]) W' ∧ Below n₀ W W') ∨ (e = .returned (.bool false) ∧ Jx (pre ++ [x]) W'))
    (W : World) (hBs : W.cell? ⟨Bs, 0, none⟩ = some sv) (hS : Sl eB n₀ W sv bs) (hT : Tab W) (h0 : J [] W) :
    CallsIn Fence.wide (n + 1) Tryd.prog 64 #[.func (.yield l) #[] #[], .pointer (some ⟨Bs, 0, none⟩)] W fun e W' => (∃ v, e = .returned v) ∧
      ((∃ ys, ys = codesOf bs ∧ J ys W') ∨ (∃ pre, pre <+: codesOf bs ∧ Jx pre W')) := by
 obtain ⟨A, cap, rfl, hcap, hcs⟩ := hS
 refine callsIn_of_wp Tryd.func64 rfl trivial ?_ rfl
 simp only [Tryd.ntmps64, List.size_toArray, List.length_cons, List.length_nil, Nat.reduceAdd, Nat.reduceSub, Array.replicate_succ, Array.replicate_zero, List.push_toArray, List.append_toArray, List.nil_append, List.cons_append]
 gi_wp2
 gi_loopw [7] (fun i wr => ∃ k : Nat, k ≤ bs.length ∧ i = .int .i64 k ∧ J (codesOf (bs.take k)) wr ∧ Below n₀ W wr)
  (fun i _ => bs.length - (intOf i).toNat)
 case atStart => exact ⟨0, Nat.zero_le _, rfl, h0, Below.refl _ _⟩
 case round =>
  obtain ⟨k, hk, rfl, hJs, hnx⟩ := hrel
  by_cases hlt : k < bs.length
  · obtain ⟨b, off, rfl, hb, hcell⟩ := hcs (by omega)
    have hcx : wr.cell? ⟨b, off + k, none⟩ = some (eB bs[k]) := (hnx.cell (p := ⟨b, off + k, none⟩) hb).trans (hcell k _ (by simp [hlt]))
    have hT' := hT.below' hnx hn₀
    obtain ⟨fn, tmps, assign, body, hy, hR⟩ := hY _ (codeOf bs[k].toNat) wr hJs (by simp [codesOf]; omega)
    have hnext : codesOf (bs.take k) ++ [codeOf bs[k].toNat] = codesOf (bs.take (k + 1)) := by
     rw [List.take_succ_eq_append_getElem hlt, codesOf, codesOf, List.map_append]; rfl
    rw [hnext] at hR
    clear hnext
    gi_wp2_with (refine ⟨trivial, ?_⟩; gi_at_call 65; refine (callsIn_wide.2 (code_any _ _ hT')).mono ?_; rintro e w' ⟨rfl, rfl⟩)
    refine hR.mono ?_
    rintro e W3 (⟨rfl, hJ3, hk3⟩ | ⟨rfl, hJx3⟩)
    · gi_wp2
      go_roundw
      case rel => exact ⟨k + 1, by omega, by simp, hJ3, hnx.trans hk3⟩
      case measure => simp [intOf]; omega
    · gi_wp2
      refine bodyPost_ret (results_none rfl _ _ _) rfl ?_
      exact ⟨⟨_, rfl⟩, .inr ⟨_, List.IsPrefix.map _ (List.take_prefix _ _), hJx3⟩⟩
  · obtain rfl : k = bs.length := by omega
    gi_wp2
    go_end0
    exact ⟨⟨_, rfl⟩, .inl ⟨_, rfl, by simpa using hJs⟩⟩
theorem codes_stops (n : Nat) (Bs n₀ : Nat) (sv : Value) (bs : List UInt8) (hreach : bs.length ≤ 140737488351232) (w : World) (hBs : Bs < w.heap.size) (hn₀ : n₀ ≤ w.heap.size) (hl₀ : 0 < n₀)
    (hc : w.cell? ⟨Bs, 0, none⟩ = some sv) (hS : Sl eB n₀ w sv bs) (hT : Tab w) :
    SeqStopsK Fence.wide (n + 1) Tryd.prog 64 #[.pointer (some ⟨Bs, 0, none⟩)] (fun x : Int => #[Value.int .i64 x]) (Below n₀) (fun ys => ys = codesOf bs) (fun pre => pre <+: codesOf bs) bs.length w := fun l J Jx W hW _ _ hY h0 =>
 codes1_in n l Bs n₀ sv bs hreach J Jx hl₀ hY W ((hW.cell (p := ⟨Bs, 0, none⟩) hBs).trans hc) (hS.below (hW.mono hn₀)) (hT.below hW) h0
end Go.Proofs.YtcngnjkpnmpcpaaDoor
