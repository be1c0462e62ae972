/- Contracts of bits' small functions: places, its iterator. -/
import Derived.Test.YtnlndaknljbhcaaDoorRows
import Derived.Maps.AppendAt
import Derived.Test.YtnlndaknljbhcaaDoorLZ
namespace Go.Proofs.YtnlndaknljbhcaaDoor
open Go.RowKit Go.Shelf
attribute [local go_sem] Oper.semAt_some

/-- The table of classes lies in memory. -/
def TabB (w : World) : Prop :=
  w.cell? ⟨1, 0, none⟩ = some (.int .u8 65) ∧ w.cell? ⟨1, 1, none⟩ = some (.int .u8 84) ∧ w.cell? ⟨1, 2, none⟩ = some (.int .u8 67) ∧ w.cell? ⟨1, 3, none⟩ = some (.int .u8 71)
theorem TabB.lt {w : World} (h : TabB w) : 1 < w.heap.size := World.block_lt_of_cell? w ⟨1, 0, none⟩ h.1
theorem TabB.below' {B : Nat} {w w' : World} (h : TabB w) (hb : Below B w w') (hB : 1 < B) : TabB w' :=
  ⟨(hb.cell (p := ⟨1, 0, none⟩) hB).trans h.1, (hb.cell (p := ⟨1, 1, none⟩) hB).trans h.2.1, (hb.cell (p := ⟨1, 2, none⟩) hB).trans h.2.2.1, (hb.cell (p := ⟨1, 3, none⟩) hB).trans h.2.2.2⟩
theorem TabB.below {w w' : World} (h : TabB w) (hb : Below w.heap.size w w') : TabB w' := h.below' hb h.lt

/-- The letter of a bit at a place. -/
def clsOf (i : Nat) (b : Nat) : UInt8 := if i % 2 = 0 then (if b = 0 then 65 else 84) else (if b = 0 then 67 else 71)
/-- The class of a place, as a value. -/
def clsV (i : Nat) : Value := .agg #[eB (clsOf i 0), eB (clsOf i 1)]

set_option maxHeartbeats 400000 in
theorem places_any (A : Option Addr) (len cap : Nat) (w : World) :
    Calls Tryd.prog 74 #[.slice A len cap] w fun e w' => e = .returned (.func (.func 82) #[] #[.pointer (some ⟨w.heap.size, 0, none⟩)]) ∧ w' = w.alloc (.cells #[.slice A len cap] 22) := by
  go_enter Tryd.func74, Tryd.ntmps74
  go_wp2
  go_ret
  exact ⟨rfl, rfl⟩

set_option maxRecDepth 100000 in
set_option maxHeartbeats 2000000 in
theorem places1_in {α : Type} (f : α → UInt8 × Nat) (xs : List α) (n : Nat) (l Bs n₀ : Nat) (sv : Value) (bs : List UInt8) (hxs : xs.map f = bs.zipIdx) (hreach : bs.length ≤ 140737488351232) (J Jx : List α → World → Prop) (hn₀ : 1 < n₀)
    (hY : ∀ pre x W, J pre W → pre.length < bs.length → YieldAt Fence.wide n Tryd.prog l #[eB (f x).1, clsV (f x).2] W fun e W' =>
      (e = .returned (.bool true) ∧ J (pre ++ [x]) W' ∧ Below n₀ W W') ∨ (e = .returned (.bool false) ∧ Jx (pre ++ [x]) W'))
    (W : World) (hBs : W.cell? ⟨Bs, 0, none⟩ = some sv) (hS : Sl eB n₀ W sv bs) (hT : TabB W) (h0 : J [] W) :
    CallsIn Fence.wide (n + 1) Tryd.prog 82 #[.func (.yield l) #[] #[], .pointer (some ⟨Bs, 0, none⟩)] W fun e W' => (∃ v, e = .returned v) ∧
      ((∃ ys, ys = xs ∧ J ys W') ∨ (∃ pre, pre <+: xs ∧ Jx pre W')) := by
  have hxl : xs.length = bs.length := by have := congrArg List.length hxs; simpa using this
  obtain ⟨A, cap, rfl, hcap, hcs⟩ := hS
  refine callsIn_of_wp Tryd.func82 rfl trivial ?_ rfl
  simp only [Tryd.ntmps82, List.size_toArray, List.length_cons, List.length_nil, Nat.reduceAdd, Nat.reduceSub, Array.replicate_succ, Array.replicate_zero, List.push_toArray, List.append_toArray, List.nil_append, List.cons_append]
  gi_wp2
  gi_loopw [7] (fun i wr => ∃ k : Nat, k ≤ bs.length ∧ i = .int .i64 k ∧ J (xs.take k) wr ∧ Below n₀ W wr)
    (fun i _ => bs.length - (intOf i).toNat)
  case atStart => exact ⟨0, Nat.zero_le _, rfl, h0, Below.refl _ _⟩
  case round =>
    obtain ⟨k, hk, rfl, hJs, hnx⟩ := hrel
    by_cases hlt : k < bs.length
    · obtain ⟨b, off, rfl, hb, hcell⟩ := hcs (by omega)
      have hcx : wr.cell? ⟨b, off + k, none⟩ = some (eB bs[k]) := (hnx.cell (p := ⟨b, off + k, none⟩) hb).trans (hcell k _ (by simp [hlt]))
      obtain ⟨t0, t1, t2, t3⟩ := hT.below' hnx hn₀
      have hfx : f (xs[k]'(by omega)) = (bs[k], k) := by
        have h1 : (xs.map f)[k]'(by simp; omega) = bs.zipIdx[k]'(by simp; omega) := by simp only [hxs]
        simpa using h1
      obtain ⟨fn, tmps, assign, body, hy, hR⟩ := hY _ (xs[k]'(by omega)) wr hJs (by simp; omega)
      have hnext : xs.take k ++ [xs[k]'(by omega)] = xs.take (k + 1) := (List.take_succ_eq_append_getElem (by omega)).symm
      rw [hnext] at hR
      clear hnext
      rw [hfx] at hy
      dsimp only at hy hR
      have hcls : clsV k = if k % 2 = 0 then .agg #[.int .u8 65, .int .u8 84] else .agg #[.int .u8 67, .int .u8 71] := by
        unfold clsV clsOf
        split <;> simp
      have hpre : xs.take (k + 1) <+: xs := List.take_prefix _ _
      have hm := Int.tmod_eq_emod_of_nonneg (a := (k : Int)) (b := 2) (by omega)
      rcases Nat.mod_two_eq_zero_or_one k with hp | hp
      · rw [if_pos hp] at hcls
        rw [hcls] at hy
        have hm2 : (k : Int).tmod 2 = 0 := by omega
        clear hm hcls hp hfx
        gi_wp2
        refine hR.mono ?_
        rintro e W3 (⟨rfl, hJ3, hk3⟩ | ⟨rfl, hJx3⟩)
        · gi_wp2
          go_roundw
          case rel => exact ⟨k + 1, by omega, by simp, hJ3, hnx.trans hk3⟩
          case measure => simp [intOf]; omega
        · gi_wp2
          refine bodyPost_ret (results_none rfl _ _ _) rfl ?_
          exact ⟨⟨_, rfl⟩, .inr ⟨_, hpre, hJx3⟩⟩
      · rw [if_neg (by omega)] at hcls
        rw [hcls] at hy
        have hm2 : (k : Int).tmod 2 = 1 := by omega
        clear hm hcls hp hfx
        gi_wp2
        refine hR.mono ?_
        rintro e W3 (⟨rfl, hJ3, hk3⟩ | ⟨rfl, hJx3⟩)
        · gi_wp2
          go_roundw
          case rel => exact ⟨k + 1, by omega, by simp, hJ3, hnx.trans hk3⟩
          case measure => simp [intOf]; omega
        · gi_wp2
          refine bodyPost_ret (results_none rfl _ _ _) rfl ?_
          exact ⟨⟨_, rfl⟩, .inr ⟨_, hpre, hJx3⟩⟩
    · obtain rfl : k = bs.length := by omega
      gi_wp2
      go_end0
      exact ⟨⟨_, rfl⟩, .inl ⟨_, rfl, by rwa [List.take_of_length_le (by omega)] at hJs⟩⟩

/-- The iterator's contract: all bytes and their places, or the first ones. -/
theorem places_stops {α : Type} (f : α → UInt8 × Nat) (xs : List α) (n : Nat) (Bs n₀ : Nat) (sv : Value) (bs : List UInt8) (hxs : xs.map f = bs.zipIdx) (hreach : bs.length ≤ 140737488351232) (w : World) (hBs : Bs < w.heap.size) (hn₀ : n₀ ≤ w.heap.size) (hl₀ : 1 < n₀)
    (hc : w.cell? ⟨Bs, 0, none⟩ = some sv) (hS : Sl eB n₀ w sv bs) (hT : TabB w) :
    SeqStopsK Fence.wide (n + 1) Tryd.prog 82 #[.pointer (some ⟨Bs, 0, none⟩)] (fun x : α => #[eB (f x).1, clsV (f x).2]) (Below n₀) (fun ys => ys = xs) (fun pre => pre <+: xs) bs.length w := fun l J Jx W hW _ _ hY h0 =>
  places1_in f xs n l Bs n₀ sv bs hxs hreach J Jx hl₀ hY W ((hW.cell (p := ⟨Bs, 0, none⟩) hBs).trans hc) (hS.below (hW.mono hn₀)) (hT.below hW) h0
end Go.Proofs.YtnlndaknljbhcaaDoor
/- Contract of bits.areBits. -/
namespace Go.Proofs.YtnlndaknljbhcaaDoor
open Go.RowKit Go.Shelf
attribute [local go_sem] Oper.semAt_some

theorem allBits_idx (bs : List UInt8) : (∀ b ∈ bs, b.toNat ≤ 1) ↔ ∀ y ∈ bs.zipIdx, y.1.toNat ≤ 1 := by
  constructor
  · intro h y hy
    exact h y.1 (by have := List.mem_map_of_mem (f := Prod.fst) hy; rwa [List.zipIdx_map_fst] at this)
  · intro h b hb
    rw [← List.zipIdx_map_fst 0 bs] at hb
    obtain ⟨y, hy, rfl⟩ := List.mem_map.1 hb
    exact h y hy

set_option maxRecDepth 100000 in
set_option maxHeartbeats 2000000 in
theorem areBits_any (sv : Value) (bs : List UInt8) (hreach : bs.length ≤ 140737488351232) (w : World) (hS : Sl eB w.heap.size w sv bs) (hT : TabB w) :
    Calls Tryd.prog 73 #[sv] w fun e W' => e = .returned (.bool (decide (∀ b ∈ bs, b.toNat ≤ 1))) ∧ Below w.heap.size w W' := by
  refine (callsIn_wide (n := 5)).1 ?_
  obtain ⟨A, cap, rfl⟩ := hS.len
  refine callsIn_of_wp_marks Tryd.func73 rfl trivial ?_ rfl
  simp only [Tryd.ntmps73, List.size_toArray, List.length_cons, List.length_nil, Nat.reduceAdd, Nat.reduceSub, Array.replicate_succ, Array.replicate_zero, List.push_toArray, List.append_toArray, List.nil_append, List.cons_append]
  gi_wp2_with (refine ⟨trivial, ?_⟩; gi_at_call 74; refine (callsIn_wide.2 (places_any _ _ _ _)).mono ?_; rintro e w' ⟨rfl, rfl⟩)
  obtain ⟨W0, hW0⟩ : ∃ W0, (w.alloc (Obj.cells #[Value.bool false] 4)).alloc (Obj.cells #[Value.slice A bs.length cap] 22) = W0 := ⟨_, rfl⟩
  have hs0 : W0.heap.size = w.heap.size + 2 := by rw [← hW0]; simp
  have hB0 : Below w.heap.size w W0 := by
    rw [← hW0]
    exact ((Below.refl _ w).alloc (Nat.le_refl _) _).alloc (by simp) _
  have b1 : Boxed W0 w.heap.size 4 (.bool false) := by
    rw [← hW0]
    exact (Boxed.new w 4 (.bool false)).alloc _
  have b3 : Boxed W0 (w.heap.size + 1) 22 (.slice A bs.length cap) := by
    rw [← hW0]
    have := Boxed.new (w.alloc (Obj.cells #[Value.bool false] 4)) 22 (Value.slice A bs.length cap)
    simpa only [World.size_alloc] using this
  have hT0 : TabB W0 := hT.below hB0
  rw [hW0]
  refine wpIn_rangeFunc_ownG rfl (by decide) (gf := 82) (lb := #[.pointer (some ⟨w.heap.size + 1, 0, none⟩)]) rfl trivial (enters_of Tryd.func82 (by kernel_rfl) rfl)
    (places_stops id bs.zipIdx 3 (w.heap.size + 1) w.heap.size _ bs (by simp) (by omega) W0 (by omega) (by omega) hT.lt b3.cell (hS.below hB0) hT0) belowK_t (belowK_b (by omega)) (Below.refl _ _) (fun _ => rfl)
    (fun (pre : List (UInt8 × Nat)) W => (Boxed W w.heap.size 4 (.bool false) ∧ ∀ y ∈ pre, y.1.toNat ≤ 1) ∧ Below w.heap.size w W)
    (fun c (pre : List (UInt8 × Nat)) W => (c = .ret ∧ Boxed W w.heap.size 4 (.bool false) ∧ ¬ ∀ y ∈ pre, y.1.toNat ≤ 1) ∧ Below w.heap.size w W)
    (OwnFrom.and (OwnFrom.and (Own.from (boxed_own w.heap.size 4 (fun _ => .bool false)) _) (ownFrom_pure _ (fun (pre : List (UInt8 × Nat)) => ∀ y ∈ pre, y.1.toNat ≤ 1))) (ownFrom_below (Nat.le_refl _) (by omega)))
    (fun c => OwnFrom.and (OwnFrom.and (ownFrom_pure _ (fun _ => c = .ret)) (OwnFrom.and (Own.from (boxed_own w.heap.size 4 (fun _ => .bool false)) _) (ownFrom_pure _ (fun (pre : List (UInt8 × Nat)) => ¬ ∀ y ∈ pre, y.1.toNat ≤ 1)))) (ownFrom_below (Nat.le_refl _) (by omega)))
    ⟨⟨b1, by simp⟩, hB0⟩
    (fun x => { tmps := #[.slice A bs.length cap, undef, .pointer (some ⟨w.heap.size, 0, none⟩), eB x.1, .slice A bs.length cap, .func (.func 82) #[] #[.pointer (some ⟨w.heap.size + 1, 0, none⟩)], eB x.1, clsV x.2, undef, undef], defers := [] }) ?assign ?body ?done ?stop
  case assign =>
    intro l x W K hK
    gi_wp2
    exact hK
  case body =>
    rintro l pre x W ⟨⟨hv, hnot⟩, hB⟩ hlt
    have hc := hv.cell
    have hf := hv.frozen
    obtain ⟨c, at_⟩ := x
    by_cases hx : 1 < c.toNat
    · have hxb : decide ((1 : Int) < c.toNat) = true := decide_eq_true (by omega)
      gi_wp2
      exact ⟨(KeepsOthers.setCell W _ _).from _, ⟨rfl, hv.set _, fun h => by have := h (c, at_) (by simp); simp at this; omega⟩, hB.setCell (p := ⟨w.heap.size, 0, none⟩) (Nat.le_refl _) _⟩
    · have hxb : decide ((1 : Int) < c.toNat) = false := decide_eq_false (by omega)
      gi_wp2
      refine ⟨KeepsFrom.refl _ _, Below.refl _ _, ⟨hv, fun y hy => ?_⟩, hB⟩
      rcases List.mem_append.1 hy with hy | hy
      · exact hnot y hy
      · rw [List.mem_singleton.1 hy]; simp; omega
  case done =>
    rintro D ys W hD rfl ⟨⟨hv, hnot⟩, hB⟩ hK
    have hc := hv.cell
    have hf := hv.frozen
    gi_wp2
    have hK' := (KeepsOthers.setCell W ⟨w.heap.size, 0, none⟩ (.bool true)).same D _ hK rfl
    refine ⟨by simp, .inl ⟨_, _, rfl, run_takeDeferred hK', ?_⟩⟩
    have hc5 := cell_kept (hv.set (.bool true)).cell (grownBy_putObj' _ D (.deferred none)) (fun r e => by cases e; exact ⟨_, hK', rfl⟩)
    refine ⟨.bool true, ?_, by rw [decide_eq_true ((allBits_idx bs).2 hnot)], (hB.setCell (p := ⟨w.heap.size, 0, none⟩) (Nat.le_refl _) _).trans (belowK_b (w := w) (Nat.le_refl _) _ D _ _ (by omega) hK' rfl rfl)⟩
    simp [results, Tryd.f73, go_sem, hc5]
  case stop =>
    rintro D c pre W hD hpre ⟨⟨rfl, hv, hin⟩, hB⟩ hK
    have hc := hv.cell
    gi_wp2
    refine ⟨by simp, .inl ⟨_, _, rfl, run_takeDeferred hK, ?_⟩⟩
    have hc5 := cell_kept hc (grownBy_putObj' _ D (.deferred none)) (fun r e => by cases e; exact ⟨_, hK, rfl⟩)
    have hin' : ¬ ∀ b ∈ bs, b.toNat ≤ 1 := fun h => hin fun y hy => (allBits_idx bs).1 h y (hpre.subset hy)
    refine ⟨.bool false, ?_, by rw [decide_eq_false hin'], hB.trans (belowK_b (w := w) (Nat.le_refl _) _ D _ _ (by omega) hK rfl rfl)⟩
    simp [results, Tryd.f73, go_sem, hc5]

end Go.Proofs.YtnlndaknljbhcaaDoor
