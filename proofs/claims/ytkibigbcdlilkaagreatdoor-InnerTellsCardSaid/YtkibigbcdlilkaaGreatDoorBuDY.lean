import Derived.Test.YtkibigbcdlilkaaGreatDoorRows
import Derived.Maps.AppendAt
import Derived.Test.YtkibigbcdlilkaaGreatDoorMMY
namespace Go.Proofs.YtkibigbcdlilkaaGreatDoor
open Go.RowKit Go.Shelf
attribute [local go_sem] Oper.semAt_some
def TabB (w : World) : Prop :=
 w.cell? ⟨2, 0, none⟩ = some (.int .u8 65) ∧ w.cell? ⟨2, 1, none⟩ = some (.int .u8 84) ∧ w.cell? ⟨2, 2, none⟩ = some (.int .u8 67) ∧ w.cell? ⟨2, 3, none⟩ = some (.int .u8 71)
theorem TabB.lt {w : World} (h : TabB w) : 2 < w.heap.size := World.block_lt_of_cell? w ⟨2, 0, none⟩ h.1
theorem TabB.below' {B : Nat} {w w' : World} (h : TabB w) (hb : Below B w w') (hB : 2 < B) : TabB w' :=
 ⟨(hb.cell (p := ⟨2, 0, none⟩) hB).trans h.1, (hb.cell (p := ⟨2, 1, none⟩) hB).trans h.2.1, (hb.cell (p := ⟨2, 2, none⟩) hB).trans h.2.2.1, (hb.cell (p := ⟨2, 3, none⟩) hB).trans h.2.2.2⟩
theorem TabB.below {w w' : World} (h : TabB w) (hb : Below w.heap.size w w') : TabB w' := h.below' hb h.lt
def clsOf (i : Nat) (b : Nat) : UInt8 := if i % 2 = 0 then (if b = 0 then 65 else 84) else (if b = 0 then 67 else 71)
def clsV (i : Nat) : Value := .agg #[eB (clsOf i 0), eB (clsOf i 1)]
set_option maxHeartbeats 400000 in
theorem places_any (A : Option Addr) (len cap : Nat) (w : World) :
    Calls Tryz.prog 133 #[.slice A len cap] w fun e w' => e = .returned (.func (.func 156) #[] #[.pointer (some ⟨w.heap.size, 0, none⟩)]) ∧ w' = w.alloc (.cells #[.slice A len cap] 22) := by
  go_enter Tryz.func133, Tryz.ntmps133
  go_wp2
  go_ret
  exact ⟨rfl, rfl⟩
set_option maxRecDepth 100000 in
set_option maxHeartbeats 2000000 in
theorem places1_in {α : Type} (f : α → UInt8 × Nat) (xs : List α) (n : Nat) (l Bs n₀ : Nat) (sv : Value) (bs : List UInt8) (hxs : xs.map f = bs.zipIdx) (hreach : bs.length ≤ 140737488351232) (J Jx : List α → World → Prop) (hn₀ : 2 < n₀)
    (hY : ∀ pre x W, J pre W → pre.length < bs.length → YieldAt Fence.wide n Tryz.prog l #[eB (f x).1, clsV (f x).2] W fun e W' =>
     (e = .returned (.bool true) ∧ J (pre ++ [x]) W' ∧ Below n₀ W W') ∨ (e = .returned (.bool false) ∧ Jx (pre ++ [x]) W'))
    (W : World) (hBs : W.cell? ⟨Bs, 0, none⟩ = some sv) (hS : Sl eB n₀ W sv bs) (hT : TabB W) (h0 : J [] W) :
    CallsIn Fence.wide (n + 1) Tryz.prog 156 #[.func (.yield l) #[] #[], .pointer (some ⟨Bs, 0, none⟩)] W fun e W' => (∃ v, e = .returned v) ∧
      ((∃ ys, ys = xs ∧ J ys W') ∨ (∃ pre, pre <+: xs ∧ Jx pre W')) := by
 have hxl : xs.length = bs.length := by have := congrArg List.length hxs; simpa using this
 obtain ⟨A, cap, rfl, hcap, hcs⟩ := hS
 refine callsIn_of_wp Tryz.func156 rfl trivial ?_ rfl
 simp only [Tryz.ntmps156, List.size_toArray, List.length_cons, List.length_nil, Nat.reduceAdd, Nat.reduceSub, Array.replicate_succ, Array.replicate_zero, List.push_toArray, List.append_toArray, List.nil_append, List.cons_append]
 gi_wp2
 gi_loopw [7] (fun i wr => ∃ k : Nat, k ≤ bs.length ∧ i = .int .i64 k ∧ J (xs.take k) wr ∧ Below n₀ W wr)
  (fun i _ => bs.length - (intOf i).toNat)
 case atStart => exact ⟨0, Nat.zero_le _, rfl, h0, Below.refl _ _⟩
 case round =>
  obtain ⟨k, hk, rfl, hJs, hnx⟩ := hrel
  by_cases hlt : k < bs.length
  · obtain ⟨b, off, rfl, hb, hcell⟩ := hcs (by omega)
    have hcx : wr.cell? ⟨b, off + k, none⟩ = some (eB bs[k]) := (hnx.cell (p := ⟨b, off + k, none⟩) hb).trans (hcell k _ (by simp [hlt]))
    obtain ⟨t0, t1, t2, t3⟩ := hT.below' hnx hn₀
    have hfx : f (xs[k]'(by omega)) = (bs[k], k) := by
     have h1 : (xs.map f)[k]'(by simp; omega) = bs.zipIdx[k]'(by simp; omega) := by simp only [hxs]
     simpa using h1
    obtain ⟨fn, tmps, assign, body, hy, hR⟩ := hY _ (xs[k]'(by omega)) wr hJs (by simp; omega)
    have hnext : xs.take k ++ [xs[k]'(by omega)] = xs.take (k + 1) := (List.take_succ_eq_append_getElem (by omega)).symm
    rw [hnext] at hR
    clear hnext
    rw [hfx] at hy
    dsimp only at hy hR
    have hcls : clsV k = if k % 2 = 0 then .agg #[.int .u8 65, .int .u8 84] else .agg #[.int .u8 67, .int .u8 71] := by
     unfold clsV clsOf
     split <;> simp
    have hpre : xs.take (k + 1) <+: xs := List.take_prefix _ _
    have hm := Int.tmod_eq_emod_of_nonneg (a := (k : Int)) (b := 2) (by omega)
    rcases Nat.mod_two_eq_zero_or_one k with hp | hp
    · rw [if_pos hp] at hcls
      rw [hcls] at hy
      have hm2 : (k : Int).tmod 2 = 0 := by omega
      clear hm hcls hp hfx
      gi_wp2
      refine hR.mono ?_
      rintro e W3 (⟨rfl, hJ3, hk3⟩ | ⟨rfl, hJx3⟩)
      · gi_wp2
        go_roundw
        case rel => exact ⟨k + 1, by omega, by simp, hJ3, hnx.trans hk3⟩
        case measure => simp [intOf]; omega
      · gi_wp2
        refine bodyPost_ret (results_none rfl _ _ _) rfl ?_
        exact ⟨⟨_, rfl⟩, .inr ⟨_, hpre, hJx3⟩⟩
    · rw [if_neg (by omega)] at hcls
      rw [hcls] at hy
      have hm2 : (k : Int).tmod 2 = 1 := by omega
      clear hm hcls hp hfx
      gi_wp2
      refine hR.mono ?_
      rintro e W3 (⟨rfl, hJ3, hk3⟩ | ⟨rfl, hJx3⟩)
      · gi_wp2
        go_roundw
        case rel => exact ⟨k + 1, by omega, by simp, hJ3, hnx.trans hk3⟩
        case measure => simp [intOf]; omega
      · gi_wp2
        refine bodyPost_ret (results_none rfl _ _ _) rfl ?_
        exact ⟨⟨_, rfl⟩, .inr ⟨_, hpre, hJx3⟩⟩
  · obtain rfl : k = bs.length := by omega
    gi_wp2
    go_end0
    exact ⟨⟨_, rfl⟩, .inl ⟨_, rfl, by rwa [List.take_of_length_le (by omega)] at hJs⟩⟩
theorem places_stops {α : Type} (f : α → UInt8 × Nat) (xs : List α) (n : Nat) (Bs n₀ : Nat) (sv : Value) (bs : List UInt8) (hxs : xs.map f = bs.zipIdx) (hreach : bs.length ≤ 140737488351232) (w : World) (hBs : Bs < w.heap.size) (hn₀ : n₀ ≤ w.heap.size) (hl₀ : 2 < n₀)
    (hc : w.cell? ⟨Bs, 0, none⟩ = some sv) (hS : Sl eB n₀ w sv bs) (hT : TabB w) :
    SeqStopsK Fence.wide (n + 1) Tryz.prog 156 #[.pointer (some ⟨Bs, 0, none⟩)] (fun x : α => #[eB (f x).1, clsV (f x).2]) (Below n₀) (fun ys => ys = xs) (fun pre => pre <+: xs) bs.length w := fun l J Jx W hW _ _ hY h0 =>
 places1_in f xs n l Bs n₀ sv bs hxs hreach J Jx hl₀ hY W ((hW.cell (p := ⟨Bs, 0, none⟩) hBs).trans hc) (hS.below (hW.mono hn₀)) (hT.below hW) h0
end Go.Proofs.YtkibigbcdlilkaaGreatDoor
namespace Go.Proofs.YtkibigbcdlilkaaGreatDoor
open Go.RowKit Go.Shelf
attribute [local go_sem] Oper.semAt_some
theorem allBits_idx (bs : List UInt8) : (∀ b ∈ bs, b.toNat ≤ 1) ↔ ∀ y ∈ bs.zipIdx, y.1.toNat ≤ 1 := by
 constructor
 · intro h y hy
   exact h y.1 (by have := List.mem_map_of_mem (f := Prod.fst) hy; rwa [List.zipIdx_map_fst] at this)
 · intro h b hb
   rw [← List.zipIdx_map_fst 0 bs] at hb
   obtain ⟨y, hy, rfl⟩ := List.mem_map.1 hb
   exact h y hy
set_option maxRecDepth 100000 in
set_option maxHeartbeats 2000000 in
theorem areBits_any (sv : Value) (bs : List UInt8) (hreach : bs.length ≤ 140737488351232) (w : World) (hS : Sl eB w.heap.size w sv bs) (hT : TabB w) :
    Calls Tryz.prog 154 #[sv] w fun e W' => e = .returned (.bool (decide (∀ b ∈ bs, b.toNat ≤ 1))) ∧ Below w.heap.size w W' := by
  refine (callsIn_wide (n := 5)).1 ?_
  obtain ⟨A, cap, rfl⟩ := hS.len
  refine callsIn_of_wp_marks Tryz.func154 rfl trivial ?_ rfl
  simp only [Tryz.ntmps154, List.size_toArray, List.length_cons, List.length_nil, Nat.reduceAdd, Nat.reduceSub, Array.replicate_succ, Array.replicate_zero, List.push_toArray, List.append_toArray, List.nil_append, List.cons_append]
  gi_wp2_with (refine ⟨trivial, ?_⟩; gi_at_call 133; refine (callsIn_wide.2 (places_any _ _ _ _)).mono ?_; rintro e w' ⟨rfl, rfl⟩)
  obtain ⟨W0, hW0⟩ : ∃ W0, (w.alloc (Obj.cells #[Value.bool false] 4)).alloc (Obj.cells #[Value.slice A bs.length cap] 22) = W0 := ⟨_, rfl⟩
  have hs0 : W0.heap.size = w.heap.size + 2 := by rw [← hW0]; simp
  have hB0 : Below w.heap.size w W0 := by
   rw [← hW0]
   exact ((Below.refl _ w).alloc (Nat.le_refl _) _).alloc (by simp) _
  have b1 : Boxed W0 w.heap.size 4 (.bool false) := by
   rw [← hW0]
   exact (Boxed.new w 4 (.bool false)).alloc _
  have b3 : Boxed W0 (w.heap.size + 1) 22 (.slice A bs.length cap) := by
   rw [← hW0]
   have := Boxed.new (w.alloc (Obj.cells #[Value.bool false] 4)) 22 (Value.slice A bs.length cap)
   simpa only [World.size_alloc] using this
  have hT0 : TabB W0 := hT.below hB0
  rw [hW0]
  refine wpIn_rangeFunc_ownG rfl (by decide) (gf := 156) (lb := #[.pointer (some ⟨w.heap.size + 1, 0, none⟩)]) rfl trivial (enters_of Tryz.func156 (by kernel_rfl) rfl)
   (places_stops id bs.zipIdx 3 (w.heap.size + 1) w.heap.size _ bs (by simp) (by omega) W0 (by omega) (by omega) hT.lt b3.cell (hS.below hB0) hT0) belowK_t (belowK_b (by omega)) (Below.refl _ _) (fun _ => rfl)
   (fun (pre : List (UInt8 × Nat)) W => (Boxed W w.heap.size 4 (.bool false) ∧ ∀ y ∈ pre, y.1.toNat ≤ 1) ∧ Below w.heap.size w W)
   (fun c (pre : List (UInt8 × Nat)) W => (c = .ret ∧ Boxed W w.heap.size 4 (.bool false) ∧ ¬ ∀ y ∈ pre, y.1.toNat ≤ 1) ∧ Below w.heap.size w W)
   (OwnFrom.and (OwnFrom.and (Own.from (boxed_own w.heap.size 4 (fun _ => .bool false)) _) (ownFrom_pure _ (fun (pre : List (UInt8 × Nat)) => ∀ y ∈ pre, y.1.toNat ≤ 1))) (ownFrom_below (Nat.le_refl _) (by omega)))
   (fun c => OwnFrom.and (OwnFrom.and (ownFrom_pure _ (fun _ => c = .ret)) (OwnFrom.and (Own.from (boxed_own w.heap.size 4 (fun _ => .bool false)) _) (ownFrom_pure _ (fun (pre : List (UInt8 × Nat)) => ¬ ∀ y ∈ pre, y.1.toNat ≤ 1)))) (ownFrom_below (Nat.le_refl _) (by omega)))
   ⟨⟨b1, by simp⟩, hB0⟩
   (fun x => { tmps := #[.slice A bs.length cap, undef, .pointer (some ⟨w.heap.size, 0, none⟩), eB x.1, .slice A bs.length cap, .func (.func 156) #[] #[.pointer (some ⟨w.heap.size + 1, 0, none⟩)], eB x.1, clsV x.2, undef, undef], defers := [] }) ?assign ?body ?done ?stop
  case assign =>
   intro l x W K hK
   gi_wp2
   exact hK
  case body =>
   rintro l pre x W ⟨⟨hv, hnot⟩, hB⟩ hlt
   have hc := hv.cell
   have hf := hv.frozen
   obtain ⟨c, at_⟩ := x
   by_cases hx : 1 < c.toNat
   · have hxb : decide ((1 : Int) < c.toNat) = true := decide_eq_true (by omega)
     gi_wp2
     exact ⟨(KeepsOthers.setCell W _ _).from _, ⟨rfl, hv.set _, fun h => by have := h (c, at_) (by simp); simp at this; omega⟩, hB.setCell (p := ⟨w.heap.size, 0, none⟩) (Nat.le_refl _) _⟩
   · have hxb : decide ((1 : Int) < c.toNat) = false := decide_eq_false (by omega)
     gi_wp2
     refine ⟨KeepsFrom.refl _ _, Below.refl _ _, ⟨hv, fun y hy => ?_⟩, hB⟩
     rcases List.mem_append.1 hy with hy | hy
     · exact hnot y hy
     · rw [List.mem_singleton.1 hy]; simp; omega
  case done =>
   rintro D ys W hD rfl ⟨⟨hv, hnot⟩, hB⟩ hK
   have hc := hv.cell
   have hf := hv.frozen
   gi_wp2
   have hK' := (KeepsOthers.setCell W ⟨w.heap.size, 0, none⟩ (.bool true)).same D _ hK rfl
   refine ⟨by simp, .inl ⟨_, _, rfl, run_takeDeferred hK', ?_⟩⟩
   have hc5 := cell_kept (hv.set (.bool true)).cell (grownBy_putObj' _ D (.deferred none)) (fun r e => by cases e; exact ⟨_, hK', rfl⟩)
   refine ⟨.bool true, ?_, by rw [decide_eq_true ((allBits_idx bs).2 hnot)], (hB.setCell (p := ⟨w.heap.size, 0, none⟩) (Nat.le_refl _) _).trans (belowK_b (w := w) (Nat.le_refl _) _ D _ _ (by omega) hK' rfl rfl)⟩
   simp [results, Tryz.f154, go_sem, hc5]
  case stop =>
   rintro D c pre W hD hpre ⟨⟨rfl, hv, hin⟩, hB⟩ hK
   have hc := hv.cell
   gi_wp2
   refine ⟨by simp, .inl ⟨_, _, rfl, run_takeDeferred hK, ?_⟩⟩
   have hc5 := cell_kept hc (grownBy_putObj' _ D (.deferred none)) (fun r e => by cases e; exact ⟨_, hK, rfl⟩)
   have hin' : ¬ ∀ b ∈ bs, b.toNat ≤ 1 := fun h => hin fun y hy => (allBits_idx bs).1 h y (hpre.subset hy)
   refine ⟨.bool false, ?_, by rw [decide_eq_false hin'], hB.trans (belowK_b (w := w) (Nat.le_refl _) _ D _ _ (by omega) hK rfl rfl)⟩
   simp [results, Tryz.f154, go_sem, hc5]
end Go.Proofs.YtkibigbcdlilkaaGreatDoor
namespace Go.Proofs.YtkibigbcdlilkaaGreatDoor
open Go.RowKit Go.Shelf
attribute [local go_sem] Oper.semAt_some
theorem info_u8 : (Tryz.prog.info? 5).map (fun i => (i.zero, i.size, i.bytes)) = some (some (.int .u8 0), 1, 1) := by kernel_rfl
def fieldOf (bs : List UInt8) : List UInt8 := bs.zipIdx.map fun y => clsOf y.2 y.1.toNat
theorem fieldOf_length (bs : List UInt8) : (fieldOf bs).length = bs.length := by simp [fieldOf]
abbrev BitAt := {y : UInt8 × Nat // y.1.toNat ≤ 1}
def Boxed2 (W : World) (B : Nat) (t : TypeId) (u v : Value) : Prop := W.heap[B]? = some (.cells #[u, v] t (0, 0))
theorem Boxed2.lt {W : World} {B : Nat} {t : TypeId} {u v : Value} (h : Boxed2 W B t u v) : B < W.heap.size := (Array.getElem?_eq_some_iff.1 h).1
theorem Boxed2.cell0 {W : World} {B : Nat} {t : TypeId} {u v : Value} (h : Boxed2 W B t u v) : W.cell? ⟨B, 0, none⟩ = some u := by simp [World.cell?, show W.heap[B]? = _ from h]
theorem Boxed2.cell1 {W : World} {B : Nat} {t : TypeId} {u v : Value} (h : Boxed2 W B t u v) : W.cell? ⟨B, 1, none⟩ = some v := by simp [World.cell?, show W.heap[B]? = _ from h]
set_option maxRecDepth 100000 in
set_option maxHeartbeats 2000000 in
theorem Field_any (sv : Value) (bs : List UInt8) (hreach : bs.length ≤ 17592186044416) (w : World) (hS : Sl eB w.heap.size w sv bs) (hT : TabB w) :
    Calls Tryz.prog 131 #[sv] w fun e W' => ∃ v, Below w.heap.size w W' ∧
      ((e = .returned (.tuple #[v, .int .i64 0]) ∧ (∀ b ∈ bs, b.toNat ≤ 1) ∧ Sl eB W'.heap.size W' v (fieldOf bs) ∧ ∀ k, v.ownBlock = some k → w.heap.size ≤ k) ∨
       (e = .returned (.tuple #[.slice none 0 0, .int .i64 2]) ∧ ¬ ∀ b ∈ bs, b.toNat ≤ 1)) := by
  refine (callsIn_wide (n := 5)).1 ?_
  obtain ⟨i0, hi, hz0, hz1, hz2⟩ := info_parts info_u8
  obtain ⟨A, cap, rfl⟩ := hS.len
  refine callsIn_of_wp_marks Tryz.func131 rfl trivial ?_ rfl
  simp only [Tryz.ntmps131, List.size_toArray, List.length_cons, List.length_nil, Nat.reduceAdd, Nat.reduceSub, Array.replicate_succ, Array.replicate_zero, List.push_toArray, List.append_toArray, List.nil_append, List.cons_append]
  gi_wp2_with fail
  refine ⟨trivial, ?_⟩
  gi_at_call 154
  refine (callsIn_wide.2 (areBits_any _ bs (by omega) _ hS hT)).mono ?_
  rintro e w1 ⟨rfl, hB1⟩
  by_cases hall : ∀ b ∈ bs, b.toNat ≤ 1
  · have hd : decide (∀ b ∈ bs, b.toNat ≤ 1) = true := decide_eq_true hall
    rw [hd]
    have hT1 : TabB w1 := hT.below hB1
    have hS1 := hS.next hB1
    have hsz1 : w.heap.size ≤ w1.heap.size := hB1.size
    obtain ⟨C, hCs, hmk⟩ : ∃ C : Array Value, C.size = bs.length ∧ ∀ w, (Instr.makeSlice 22 (.int .i64 0) (.int .i64 (bs.length : Int))).run Tryz.prog w = .ok (.slice (some ⟨w.heap.size, 0, none⟩) 0 bs.length) (w.alloc (.cells C 5)) := by
     refine ⟨madeCells (Value.cells (.int .u8 0)) (bs.length * i0.size), by simp [madeCells, hz1, Value.cells], fun w => ?_⟩
     have := run_make w 22 5 i0 (.int .u8 0) Tryz.underlying22 hi hz0 .i64 .i64 0 (bs.length : Int) (by omega) (by omega) (by rw [hz2]; omega) (by omega)
     simpa using this
    gi_wp2_with (refine ⟨trivial, ?_⟩; gi_at_call 133; refine (callsIn_wide.2 (places_any _ _ _ _)).mono ?_; rintro e w' ⟨rfl, rfl⟩)
    obtain ⟨W0, hW0⟩ : ∃ W0, ((w1.alloc (Obj.cells C 5)).alloc (Obj.cells #[Value.slice (some { block := w1.heap.size, off := 0 }) 0 bs.length] 22)).alloc (Obj.cells #[Value.slice A bs.length cap] 22) = W0 := ⟨_, rfl⟩
    have hs0 : W0.heap.size = w1.heap.size + 3 := by rw [← hW0]; simp
    have hB10 : Below w1.heap.size w1 W0 := by
     rw [← hW0]
     exact (((Below.refl _ w1).alloc (Nat.le_refl _) _).alloc (by simp) _).alloc (by simp; omega) _
    have hrow0 : W0.ownsRow w1.heap.size 5 1 (.slice (some ⟨w1.heap.size, 0, none⟩) 0 bs.length) 0 [] := by
     rw [← hW0]
     exact ((World.ownsRow_made w1 C bs.length (Nat.le_refl _) (by unfold maxLen; omega) (by omega)).alloc _).alloc _
    have b1 : Boxed W0 (w1.heap.size + 1) 22 (.slice (some ⟨w1.heap.size, 0, none⟩) 0 bs.length) := by
     rw [← hW0]
     have := (Boxed.new (w1.alloc (Obj.cells C 5)) 22 (Value.slice (some { block := w1.heap.size, off := 0 }) 0 bs.length)).alloc (Obj.cells #[Value.slice A bs.length cap] 22)
     simpa only [World.size_alloc] using this
    have b3 : Boxed W0 (w1.heap.size + 1 + 1) 22 (.slice A bs.length cap) := by
     rw [← hW0]
     have := Boxed.new ((w1.alloc (Obj.cells C 5)).alloc (Obj.cells #[Value.slice (some { block := w1.heap.size, off := 0 }) 0 bs.length] 22)) 22 (Value.slice A bs.length cap)
     simpa only [World.size_alloc] using this
    have hT0 : TabB W0 := hT1.below hB10
    rw [hW0]
    obtain ⟨xs, hxs⟩ : ∃ xs : List BitAt, xs.map Subtype.val = bs.zipIdx := ⟨bs.zipIdx.attachWith _ ((allBits_idx bs).1 hall), List.attachWith_map_subtype_val ..⟩
    refine wpIn_rangeFunc_ownH rfl (by decide) (gf := 156) (lb := #[.pointer (some ⟨w1.heap.size + 1 + 1, 0, none⟩)]) rfl trivial (enters_of Tryz.func156 (by kernel_rfl) rfl)
     (places_stops Subtype.val xs 3 (w1.heap.size + 1 + 1) w1.heap.size _ bs hxs (by omega) W0 (by omega) (by omega) hT1.lt b3.cell (hS1.below hB10) hT0) belowK_t (belowK_b (by omega)) (Below.refl _ _) (fun _ => rfl)
     (fun (pre : List BitAt) W => (∃ v, Boxed W (w1.heap.size + 1) 22 v ∧ W.ownsRow w1.heap.size 5 1 v pre.length ((pre.map fun x => clsOf x.1.2 x.1.1.toNat).map eB) ∧ True) ∧ Below w1.heap.size w1 W)
     (fun _ _ _ => False)
     (OwnFrom.and (Own.from (holdsRow_own w1.heap.size (w1.heap.size + 1) 22 5 1 (fun (pre : List BitAt) => pre.length) (fun (pre : List BitAt) => (pre.map fun x => clsOf x.1.2 x.1.1.toNat).map eB) (fun _ _ => True)) _) (ownFrom_below (Nat.le_refl _) (by omega)))
     (fun _ _ _ _ _ hs _ _ => hs)
     ⟨⟨_, b1, hrow0, trivial⟩, hB10⟩
     (fun x a' W => ∃ p, Boxed2 W p 136 (eB (clsOf x.1.2 0)) (eB (clsOf x.1.2 1)) ∧ a' = { tmps := #[.slice A bs.length cap, undef, .slice none 0 0, .int .i64 0, .pointer (some ⟨w1.heap.size + 1, 0, none⟩), eB x.1.1, .pointer (some ⟨p, 0, none⟩), .slice A bs.length cap, .bool true, .bool false, .slice A bs.length cap, .int .i64 bs.length, .slice (some ⟨w1.heap.size, 0, none⟩) 0 bs.length, .slice A bs.length cap, .func (.func 156) #[] #[.pointer (some ⟨w1.heap.size + 1 + 1, 0, none⟩)], eB x.1.1, clsV x.1.2, undef, undef, undef, undef, undef, undef, undef], defers := [] })
     ?hAx ?assign ?body ?done ?stop
    case hAx =>
     intro x a' s X Y row hs hg hrow
     obtain ⟨p, hp, e⟩ := hs
     exact ⟨p, (hg.block p hp.lt (fun e' => by obtain ⟨_, o, ho, hc⟩ := hrow p e'.symm; rw [show X.heap[p]? = _ from hp] at ho; cases ho; cases hc)).trans hp, e⟩
    case assign =>
     intro l pre x W K hI hK
     simp only [clsV] at hK ⊢
     gi_wp2
     obtain ⟨⟨v, hv, hrow, -⟩, hB⟩ := hI
     exact hK _ _ ((KeepsOthers.alloc _ _).from _) ((Below.refl _ W).alloc hB.size _) ⟨⟨v, hv.alloc _, hrow.alloc _, trivial⟩, hB.alloc hB.size _⟩ ⟨W.heap.size, World.alloc_heap_new W _, rfl⟩
    case body =>
     rintro l pre ⟨⟨c, at_⟩, hc01⟩ a' W - - ⟨⟨v, hv, hrow, -⟩, hB⟩ ⟨p, hp, rfl⟩ hlt
     dsimp only at hc01 hp ⊢
     have hm1 : pre.length + 1 ≤ maxLen := by unfold maxLen; omega
     have hcc : c = 0 ∨ c = 1 := by
      rcases (show c.toNat = 0 ∨ c.toNat = 1 by omega) with h | h
      · exact .inl (UInt8.toNat_inj.1 h)
      · exact .inr (UInt8.toNat_inj.1 h)
     obtain ⟨bit, hbit⟩ : ∃ bit, c.toNat = bit := ⟨_, rfl⟩
     gi_wp2_with fail
     refine wpIn_region_paths (by kernel_rfl) [[0, 1, 2, 3, 4, 5, 6], [1, 0, 2, 3, 4, 5, 6], [1, 2, 0, 3, 4, 5, 6], [1, 2, 3, 0, 4, 5, 6], [1, 2, 3, 4, 0, 5, 6]] (by kernel_rfl) ?_
     obtain ⟨Wd, hWd⟩ : ∃ Wd, W.drew = Wd := ⟨_, rfl⟩
     have hkd : KeepsOthers W Wd := by rw [← hWd]; exact KeepsOthers.drew _
     have hbd : Below w1.heap.size W Wd := by rw [← hWd]; exact (Below.refl _ _).drew
     have hvd : Boxed Wd (w1.heap.size + 1) 22 v := by rw [← hWd]; exact hv
     have hpd : Boxed2 Wd p 136 (eB (clsOf at_ 0)) (eB (clsOf at_ 1)) := by rw [← hWd]; exact hp
     have hrowd : Wd.ownsRow w1.heap.size 5 1 v pre.length ((pre.map fun x => clsOf x.1.2 x.1.1.toNat).map eB) := by rw [← hWd]; exact hrow
     have hBd : Below w1.heap.size w1 Wd := hB.trans hbd
     have hcd := hvd.cell
     have hfd := hvd.frozen
     have hld : w1.heap.size + 1 < Wd.heap.size := hvd.lt
     rw [hWd]
     clear hWd hrow hv hB hp
     simp only [EachPath, and_true, pick_cons, pick_nil, Option.toList_some, List.cons_append, List.nil_append, List.getElem?_cons_zero, List.getElem?_cons_succ]
     rcases hcc with rfl | rfl
     · have hq : Wd.cell? ⟨p, 0, none⟩ = some (eB (clsOf at_ 0)) := hpd.cell0
       generalize hu : clsOf at_ 0 = u at *
       have Hu := Lib.hid hu
       clear hu
       have hcd2 : (Wd.alloc (.cells #[eB u] 5)).cell? ⟨w1.heap.size + 1, 0, none⟩ = some v := (hvd.alloc _).cell
       clear hpd
       simp only [eB, show ((0 : UInt8).toNat : Int) = 0 from rfl]
       refine ⟨?_, ?_, ?_, ?_, ?_⟩
       all_goals
        gi_wp2_with (gi_at_builtin; refine wpListIn_append_own _ rfl _ _ 22 rfl w1.heap.size 5 i0 (.int .u8 0) 1 1 Tryz.underlying22 hi hz0 hz1 hz2 rfl (by decide) _ _ _ rfl (hrowd.alloc _) ⟨Wd.heap.size, 0, none⟩ 1 1 [eB u] rfl rfl (cell_one_new _ _ _) (by simp [Value.oneCell']) hm1 (by omega) (by have := hBd.size; simp; omega) ?_; intro v' w2 hown' hgrow _; obtain ⟨g', cap', rfl⟩ := ownsRow_succ hown'; obtain ⟨hv1', hv2', hr2, hk2, hbl2⟩ := hvd.appended (by decide) hrowd hBd.size (Nat.le_succ _) hown' hgrow; have hc1 := hv1'.cell; have hf1 := hv1'.frozen)
        exact ⟨(hkd.trans hk2).from _, hbd.trans hbl2, ⟨_, hv2', by simpa [Hu.out] using hr2, trivial⟩, hBd.trans hbl2⟩
     · have hq : Wd.cell? ⟨p, 1, none⟩ = some (eB (clsOf at_ 1)) := hpd.cell1
       generalize hu : clsOf at_ 1 = u at *
       have Hu := Lib.hid hu
       clear hu
       have hcd2 : (Wd.alloc (.cells #[eB u] 5)).cell? ⟨w1.heap.size + 1, 0, none⟩ = some v := (hvd.alloc _).cell
       clear hpd
       simp only [eB, show ((1 : UInt8).toNat : Int) = 1 from rfl]
       refine ⟨?_, ?_, ?_, ?_, ?_⟩
       all_goals
        gi_wp2_with (gi_at_builtin; refine wpListIn_append_own _ rfl _ _ 22 rfl w1.heap.size 5 i0 (.int .u8 0) 1 1 Tryz.underlying22 hi hz0 hz1 hz2 rfl (by decide) _ _ _ rfl (hrowd.alloc _) ⟨Wd.heap.size, 0, none⟩ 1 1 [eB u] rfl rfl (cell_one_new _ _ _) (by simp [Value.oneCell']) hm1 (by omega) (by have := hBd.size; simp; omega) ?_; intro v' w2 hown' hgrow _; obtain ⟨g', cap', rfl⟩ := ownsRow_succ hown'; obtain ⟨hv1', hv2', hr2, hk2, hbl2⟩ := hvd.appended (by decide) hrowd hBd.size (Nat.le_succ _) hown' hgrow; have hc1 := hv1'.cell; have hf1 := hv1'.frozen)
        exact ⟨(hkd.trans hk2).from _, hbd.trans hbl2, ⟨_, hv2', by simpa [Hu.out] using hr2, trivial⟩, hBd.trans hbl2⟩
    case done =>
     rintro D ys W hD rfl ⟨⟨v, hv, hrow, -⟩, hB⟩ hK
     have hc := hv.cell
     gi_wp2
     refine ⟨by simp, .inl ⟨_, _, rfl, run_takeDeferred hK, ?_⟩⟩
     refine ⟨_, results_tmp2 rfl _ _ _, v, below_trans hB1 (hB.trans (belowK_b (w := w1) (Nat.le_refl _) _ D _ _ (by omega) hK rfl rfl)), .inl ⟨rfl, hall, ?_⟩⟩
     have hlist : ys.map (fun x => clsOf x.1.2 x.1.1.toNat) = fieldOf bs := by
      rw [fieldOf, ← hxs, List.map_map]; rfl
     rw [← hlist]
     exact ⟨Sl.of_own (ownsRow_putObj hrow _ hK rfl), fun k hk => Nat.le_trans hsz1 (own_base hrow k hk)⟩
    case stop =>
     rintro D c pre W _ _ h _
     exact h.elim
  · have hd : decide (∀ b ∈ bs, b.toNat ≤ 1) = false := decide_eq_false hall
    rw [hd]
    gi_wp2
    exact ⟨_, results_tmp2 rfl _ _ _, .slice none 0 0, hB1, .inr ⟨rfl, hall⟩⟩
end Go.Proofs.YtkibigbcdlilkaaGreatDoor
namespace Go.Proofs.YtkibigbcdlilkaaGreatDoor
open Go.RowKit Go.Shelf
attribute [local go_sem] Oper.semAt_some
def LetterAt (y : UInt8 × Nat) : Prop := y.1 = clsOf y.2 0 ∨ y.1 = clsOf y.2 1
def bitB (y : UInt8 × Nat) : UInt8 := if y.1 = clsOf y.2 0 then 0 else 1
theorem clsOf_ne (i : Nat) : clsOf i 0 ≠ clsOf i 1 := by
 unfold clsOf
 split <;> decide
theorem u8_beq_false {x y : UInt8} (h : x ≠ y) : ((x.toNat : Int) == (y.toNat : Int)) = false := by
 rw [beq_eq_false_iff_ne]
 intro e
 apply h
 apply UInt8.toNat_inj.1
 omega
set_option maxRecDepth 100000 in
set_option maxHeartbeats 2000000 in
theorem Back_any (sv : Value) (bs : List UInt8) (hreach : bs.length ≤ 17592186044416) (w : World) (hS : Sl eB w.heap.size w sv bs) (hT : TabB w) :
    Calls Tryz.prog 111 #[sv] w fun e W' => ∃ v, Below w.heap.size w W' ∧
      ((e = .returned (.tuple #[v, .int .i64 0]) ∧ (∀ y ∈ bs.zipIdx, LetterAt y) ∧ Sl eB W'.heap.size W' v (bs.zipIdx.map bitB)) ∨
       (e = .returned (.tuple #[.slice none 0 0, .int .i64 10]) ∧ ¬ ∀ y ∈ bs.zipIdx, LetterAt y)) := by
  refine (callsIn_wide (n := 5)).1 ?_
  obtain ⟨i0, hi, hz0, hz1, hz2⟩ := info_parts info_u8
  obtain ⟨A, cap, rfl⟩ := hS.len
  refine callsIn_of_wp_marks Tryz.func111 rfl trivial ?_ rfl
  simp only [Tryz.ntmps111, List.size_toArray, List.length_cons, List.length_nil, Nat.reduceAdd, Nat.reduceSub, Array.replicate_succ, Array.replicate_zero, List.push_toArray, List.append_toArray, List.nil_append, List.cons_append]
  obtain ⟨C, hCs, hmk⟩ : ∃ C : Array Value, C.size = bs.length ∧ ∀ w, (Instr.makeSlice 22 (.int .i64 0) (.int .i64 (bs.length : Int))).run Tryz.prog w = .ok (.slice (some ⟨w.heap.size, 0, none⟩) 0 bs.length) (w.alloc (.cells C 5)) := by
   refine ⟨madeCells (Value.cells (.int .u8 0)) (bs.length * i0.size), by simp [madeCells, hz1, Value.cells], fun w => ?_⟩
   have := run_make w 22 5 i0 (.int .u8 0) Tryz.underlying22 hi hz0 .i64 .i64 0 (bs.length : Int) (by omega) (by omega) (by rw [hz2]; omega) (by omega)
   simpa using this
  gi_wp2_with fail
  apply wpIn_scope_straight
  gi_wp2_with fail
  apply wpIn_label
  gi_wp2_with (refine ⟨trivial, ?_⟩; gi_at_call 133; refine (callsIn_wide.2 (places_any _ _ _ _)).mono ?_; rintro e w' ⟨rfl, rfl⟩)
  obtain ⟨W0, hW0⟩ : ∃ W0, ((((w.alloc (Obj.cells #[Value.slice none 0 0] 22)).alloc (Obj.cells #[Value.int IntKind.i64 0] 24)).alloc (Obj.cells C 5)).alloc (Obj.cells #[Value.slice (some { block := w.heap.size + 1 + 1, off := 0 }) 0 bs.length] 22)).alloc (Obj.cells #[Value.slice A bs.length cap] 22) = W0 := ⟨_, rfl⟩
  have hs0 : W0.heap.size = w.heap.size + 5 := by rw [← hW0]; simp
  have hB0 : Below w.heap.size w W0 := by
   rw [← hW0]
   exact (((((Below.refl _ w).alloc (Nat.le_refl _) _).alloc (by simp) _).alloc (by simp; omega) _).alloc (by simp; omega) _).alloc (by simp; omega) _
  have hT0 : TabB W0 := hT.below hB0
  have hrow0 : W0.ownsRow (w.heap.size + 1 + 1) 5 1 (Value.slice (some { block := w.heap.size + 1 + 1, off := 0 }) 0 bs.length) 0 [] := by
   rw [← hW0]
   have h0 : (((w.alloc (Obj.cells #[Value.slice none 0 0] 22)).alloc (Obj.cells #[Value.int IntKind.i64 0] 24)).alloc (Obj.cells C 5)).ownsRow ((w.alloc (Obj.cells #[Value.slice none 0 0] 22)).alloc (Obj.cells #[Value.int IntKind.i64 0] 24)).heap.size 5 1 (.slice (some ⟨((w.alloc (Obj.cells #[Value.slice none 0 0] 22)).alloc (Obj.cells #[Value.int IntKind.i64 0] 24)).heap.size, 0, none⟩) 0 bs.length) 0 [] := World.ownsRow_made _ C bs.length (Nat.le_refl _) (by unfold maxLen; omega) (by omega)
   have := (h0.alloc (Obj.cells #[Value.slice (some { block := w.heap.size + 1 + 1, off := 0 }) 0 bs.length] 22)).alloc (Obj.cells #[Value.slice A bs.length cap] 22)
   simpa only [World.size_alloc] using this
  have b1 : Boxed W0 w.heap.size 22 (.slice none 0 0) := by
   rw [← hW0]
   exact ((((Boxed.new w 22 (Value.slice none 0 0)).alloc _).alloc _).alloc _).alloc _
  have b2 : Boxed W0 (w.heap.size + 1) 24 (.int .i64 0) := by
   rw [← hW0]
   have := (((Boxed.new (w.alloc (Obj.cells #[Value.slice none 0 0] 22)) 24 (Value.int IntKind.i64 0)).alloc (Obj.cells C 5)).alloc (Obj.cells #[Value.slice (some { block := w.heap.size + 1 + 1, off := 0 }) 0 bs.length] 22)).alloc (Obj.cells #[Value.slice A bs.length cap] 22)
   simpa only [World.size_alloc] using this
  have b4 : Boxed W0 (w.heap.size + 1 + 1 + 1) 22 (Value.slice (some { block := w.heap.size + 1 + 1, off := 0 }) 0 bs.length) := by
   rw [← hW0]
   have := (Boxed.new (((w.alloc (Obj.cells #[Value.slice none 0 0] 22)).alloc (Obj.cells #[Value.int IntKind.i64 0] 24)).alloc (Obj.cells C 5)) 22 (Value.slice (some { block := w.heap.size + 1 + 1, off := 0 }) 0 bs.length)).alloc (Obj.cells #[Value.slice A bs.length cap] 22)
   simpa only [World.size_alloc] using this
  have b5 : Boxed W0 (w.heap.size + 1 + 1 + 1 + 1) 22 (Value.slice A bs.length cap) := by
   rw [← hW0]
   have := Boxed.new ((((w.alloc (Obj.cells #[Value.slice none 0 0] 22)).alloc (Obj.cells #[Value.int IntKind.i64 0] 24)).alloc (Obj.cells C 5)).alloc (Obj.cells #[Value.slice (some { block := w.heap.size + 1 + 1, off := 0 }) 0 bs.length] 22)) 22 (Value.slice A bs.length cap)
   simpa only [World.size_alloc] using this
  rw [hW0]
  refine wpIn_rangeFunc_ownH rfl (by decide) (gf := 156) (lb := #[.pointer (some ⟨w.heap.size + 1 + 1 + 1 + 1, 0, none⟩)]) rfl trivial (enters_of Tryz.func156 (by kernel_rfl) rfl)
   (places_stops id bs.zipIdx 3 (w.heap.size + 1 + 1 + 1 + 1) w.heap.size _ bs (by simp) (by omega) W0 (by omega) (by omega) hT.lt b5.cell (hS.below hB0) hT0) belowK_t (belowK_b (by omega)) (Below.refl _ _) (fun _ => rfl)
   (fun (pre : List (UInt8 × Nat)) W => ((∃ v, Boxed W (w.heap.size + 1 + 1 + 1) 22 v ∧ W.ownsRow (w.heap.size + 1 + 1) 5 1 v pre.length ((pre.map bitB).map eB) ∧ True) ∧ Boxed W w.heap.size 22 (.slice none 0 0) ∧ Boxed W (w.heap.size + 1) 24 (.int .i64 0) ∧ (∀ y ∈ pre, LetterAt y)) ∧ Below w.heap.size w W)
   (fun c (pre : List (UInt8 × Nat)) W => (c = .ret ∧ Boxed W w.heap.size 22 (.slice none 0 0) ∧ Boxed W (w.heap.size + 1) 24 (.int .i64 10) ∧ ¬ ∀ y ∈ pre, LetterAt y) ∧ Below w.heap.size w W)
   (OwnFrom.and (OwnFrom.and (Own.from (holdsRow_own (w.heap.size + 1 + 1) (w.heap.size + 1 + 1 + 1) 22 5 1 (fun (pre : List (UInt8 × Nat)) => pre.length) (fun (pre : List (UInt8 × Nat)) => (pre.map bitB).map eB) (fun _ _ => True)) _) (OwnFrom.and (Own.from (boxed_own w.heap.size 22 (fun _ => .slice none 0 0)) _) (OwnFrom.and (Own.from (boxed_own (w.heap.size + 1) 24 (fun _ => .int .i64 0)) _) (ownFrom_pure _ (fun (pre : List (UInt8 × Nat)) => ∀ y ∈ pre, LetterAt y))))) (ownFrom_below (Nat.le_refl _) (by omega)))
   (fun c => OwnFrom.and (OwnFrom.and (ownFrom_pure _ (fun _ => c = .ret)) (OwnFrom.and (Own.from (boxed_own w.heap.size 22 (fun _ => .slice none 0 0)) _) (OwnFrom.and (Own.from (boxed_own (w.heap.size + 1) 24 (fun _ => .int .i64 10)) _) (ownFrom_pure _ (fun (pre : List (UInt8 × Nat)) => ¬ ∀ y ∈ pre, LetterAt y))))) (ownFrom_below (Nat.le_refl _) (by omega)))
   ⟨⟨⟨_, b4, hrow0, trivial⟩, b1, b2, by simp⟩, hB0⟩
   (fun x a' W => ∃ p, Boxed2 W p 136 (eB (clsOf x.2 0)) (eB (clsOf x.2 1)) ∧ a' = { tmps := #[.slice A bs.length cap, undef, .pointer (some ⟨w.heap.size, 0, none⟩), .pointer (some ⟨w.heap.size + 1, 0, none⟩), .pointer (some ⟨w.heap.size + 1 + 1 + 1, 0, none⟩), eB x.1, .pointer (some ⟨p, 0, none⟩), undef, undef, .slice A bs.length cap, .int .i64 bs.length, .slice (some ⟨w.heap.size + 1 + 1, 0, none⟩) 0 bs.length, .slice A bs.length cap, .func (.func 156) #[] #[.pointer (some ⟨w.heap.size + 1 + 1 + 1 + 1, 0, none⟩)], eB x.1, clsV x.2, undef, undef, undef, undef, undef, undef, undef, undef, undef, undef, undef, undef, undef, undef, undef], defers := [] })
   ?hAx ?assign ?body ?done ?stop
  case hAx =>
   intro x a' s X Y row hs hg hrow
   obtain ⟨p, hp, e⟩ := hs
   exact ⟨p, (hg.block p hp.lt (fun e' => by obtain ⟨_, o, ho, hc⟩ := hrow p e'.symm; rw [show X.heap[p]? = _ from hp] at ho; cases ho; cases hc)).trans hp, e⟩
  case assign =>
   intro l pre x W K hI hK
   simp only [clsV] at hK ⊢
   gi_wp2
   obtain ⟨⟨⟨v, hv, hrow, -⟩, hb1, hb2, hok⟩, hB⟩ := hI
   exact hK _ _ ((KeepsOthers.alloc _ _).from _) ((Below.refl _ W).alloc hB.size _) ⟨⟨⟨v, hv.alloc _, hrow.alloc _, trivial⟩, hb1.alloc _, hb2.alloc _, hok⟩, hB.alloc hB.size _⟩ ⟨W.heap.size, World.alloc_heap_new W _, rfl⟩
  case body =>
   rintro l pre ⟨c, at_⟩ a' W - - ⟨⟨⟨v, hv, hrow, -⟩, hb1, hb2, hok⟩, hB⟩ ⟨p, hp, rfl⟩ hlt
   dsimp only at hp ⊢
   have hc0 := hp.cell0
   have hc1 := hp.cell1
   have hm1 : pre.length + 1 ≤ maxLen := by unfold maxLen; omega
   have hcv := hv.cell
   have hfv := hv.frozen
   have hne := clsOf_ne at_
   have hsz : w.heap.size + 1 + 1 ≤ W.heap.size := by have := hv.lt; omega
   have hix : ∀ (u v : Value) (w : World), (Instr.index 136 (.agg #[u, v]) (.int .i64 0)).run Tryz.prog w = .ok u w ∧ (Instr.index 136 (.agg #[u, v]) (.int .i64 1)).run Tryz.prog w = .ok v w := fun u v w => ⟨by kernel_rfl, by kernel_rfl⟩
   have hix0 := fun w => (hix (eB (clsOf at_ 0)) (eB (clsOf at_ 1)) w).1
   have hix1 := fun w => (hix (eB (clsOf at_ 0)) (eB (clsOf at_ 1)) w).2
   gi_wp2_with fail
   by_cases h0 : c = clsOf at_ 0
   · have HB := Lib.hid (show bitB (c, at_) = 0 by simp [bitB, h0])
     have HL := Lib.hid (show LetterAt (c, at_) from .inl h0)
     have he : ((c.toNat : Int) == ((clsOf at_ 0).toNat : Int)) = true := by rw [h0]; simp
     clear h0 hne hix
     refine wpIn_loop_rounds 3 ?_
     rw [roundsIn_succ]
     gi_wp2_with (gi_at_builtin; refine wpListIn_append_own _ rfl _ _ 22 rfl (w.heap.size + 1 + 1) 5 i0 (.int .u8 0) 1 1 Tryz.underlying22 hi hz0 hz1 hz2 rfl (by decide) _ _ _ rfl (hrow.alloc _) ⟨W.heap.size, 0, none⟩ 1 1 [.int .u8 0] rfl rfl (cell_one_new _ _ _) (by simp [Value.oneCell']) hm1 (by omega) (by have := hB.size; simp; omega) ?_; intro v' w2 hown' hgrow _; obtain ⟨g', cap', rfl⟩ := ownsRow_succ hown'; obtain ⟨hv1', hv2', hr2, hk2, hbl2⟩ := hv.appended (by decide) hrow hsz (Nat.le_succ _) hown' hgrow; have hcw1 := hv1'.cell; have hfw1 := hv1'.frozen)
     refine ⟨hk2.from _, hbl2.mono (by omega), ⟨⟨_, hv2', by simpa [HB.out, show eB 0 = .int .u8 0 from rfl, show eB 1 = .int .u8 1 from rfl] using hr2, trivial⟩, ?_, ?_, ?_⟩, hB.trans (hbl2.mono (by omega))⟩
     · exact (((hb1.alloc _).kept hgrow ((hb1.alloc (.cells #[.int .u8 0] 5)).not_row (by decide) (hrow.alloc (.cells #[.int .u8 0] 5)))).other (by omega) _)
     · exact (((hb2.alloc _).kept hgrow ((hb2.alloc (.cells #[.int .u8 0] 5)).not_row (by decide) (hrow.alloc (.cells #[.int .u8 0] 5)))).other (by omega) _)
     · intro y hy
       rcases List.mem_append.1 hy with hy | hy
       · exact hok y hy
       · rw [List.mem_singleton.1 hy]; exact HL.out
   · have hb0 := u8_beq_false h0
     by_cases h1 : c = clsOf at_ 1
     · have HB := Lib.hid (show bitB (c, at_) = 1 by simp [bitB, h0])
       have HL := Lib.hid (show LetterAt (c, at_) from .inr h1)
       have he : ((c.toNat : Int) == ((clsOf at_ 1).toNat : Int)) = true := by rw [h1]; simp
       clear h0 h1 hne hix
       refine wpIn_loop_rounds 3 ?_
       rw [roundsIn_succ]
       gi_wp2_with fail
       rw [roundsIn_succ]
       gi_wp2_with (gi_at_builtin; refine wpListIn_append_own _ rfl _ _ 22 rfl (w.heap.size + 1 + 1) 5 i0 (.int .u8 0) 1 1 Tryz.underlying22 hi hz0 hz1 hz2 rfl (by decide) _ _ _ rfl (hrow.alloc _) ⟨W.heap.size, 0, none⟩ 1 1 [.int .u8 1] rfl rfl (cell_one_new _ _ _) (by simp [Value.oneCell']) hm1 (by omega) (by have := hB.size; simp; omega) ?_; intro v' w2 hown' hgrow _; obtain ⟨g', cap', rfl⟩ := ownsRow_succ hown'; obtain ⟨hv1', hv2', hr2, hk2, hbl2⟩ := hv.appended (by decide) hrow hsz (Nat.le_succ _) hown' hgrow; have hcw1 := hv1'.cell; have hfw1 := hv1'.frozen)
       refine ⟨hk2.from _, hbl2.mono (by omega), ⟨⟨_, hv2', by simpa [HB.out, show eB 0 = .int .u8 0 from rfl, show eB 1 = .int .u8 1 from rfl] using hr2, trivial⟩, ?_, ?_, ?_⟩, hB.trans (hbl2.mono (by omega))⟩
       · exact (((hb1.alloc _).kept hgrow ((hb1.alloc (.cells #[.int .u8 1] 5)).not_row (by decide) (hrow.alloc (.cells #[.int .u8 1] 5)))).other (by omega) _)
       · exact (((hb2.alloc _).kept hgrow ((hb2.alloc (.cells #[.int .u8 1] 5)).not_row (by decide) (hrow.alloc (.cells #[.int .u8 1] 5)))).other (by omega) _)
       · intro y hy
         rcases List.mem_append.1 hy with hy | hy
         · exact hok y hy
         · rw [List.mem_singleton.1 hy]; exact HL.out
     · have hb1' := u8_beq_false h1
       have HN := Lib.hid (show ¬ LetterAt (c, at_) from fun h => h.elim h0 h1)
       clear h0 h1 hne hix
       have hcr1 := hb1.cell
       have hfr1 := hb1.frozen
       have hcr2 := hb2.cell
       have hfr2 := hb2.frozen
       refine wpIn_loop_rounds 3 ?_
       rw [roundsIn_succ]
       gi_wp2_with fail
       rw [roundsIn_succ]
       gi_wp2_with fail
       rw [roundsIn_succ]
       gi_wp2_with fail
       refine ⟨((KeepsOthers.setCell W _ _).trans (KeepsOthers.setCell _ _ _)).from _, ⟨rfl, ?_, ?_, ?_⟩, ?_⟩
       · exact (hb1.set _).other (by omega) _
       · exact (hb2.other (by omega) _).set _
       · exact fun h => HN.out (h (c, at_) (by simp))
       · exact (hB.setCell (p := ⟨w.heap.size, 0, none⟩) (by simp) _).setCell (p := ⟨w.heap.size + 1, 0, none⟩) (by simp) _
  case done =>
   rintro D ys W hD rfl ⟨⟨⟨v, hv, hrow, -⟩, hb1, hb2, hok⟩, hB⟩ hK
   have hc := hv.cell
   have hc1 := hb1.cell
   have hf1 := hb1.frozen
   have hc2 := hb2.cell
   have hf2 := hb2.frozen
   have hlv := hv.lt
   obtain ⟨Av, cv, ev⟩ := (Sl.of_own (enc := eB) (xs := bs.zipIdx.map bitB) hrow).len
   obtain rfl : v = .slice Av bs.length cv := by simpa using ev
   clear ev
   gi_wp2
   rw [Exit.noGoto_ret]
   have hK' := ((KeepsOthers.setCell W ⟨w.heap.size, 0, none⟩ (.slice Av bs.length cv)).trans (KeepsOthers.setCell _ ⟨w.heap.size + 1, 0, none⟩ (.int .i64 0))).same D _ hK rfl
   have hrow1 := hrow.kept (grownBy_setCell' W w.heap.size (.slice Av bs.length cv)) (.inr (hb1.not_row (by decide) hrow).symm)
   have hrow2 := hrow1.kept (grownBy_setCell' _ (w.heap.size + 1) (.int .i64 0)) (.inr ((hb2.other (by omega) (.slice Av bs.length cv)).not_row (by decide) hrow1).symm)
   refine ⟨by simp, .inl ⟨_, _, rfl, run_takeDeferred hK', ?_⟩⟩
   have hr1 : Boxed ((W.setCell ⟨w.heap.size, 0, none⟩ (.slice Av bs.length cv)).setCell ⟨w.heap.size + 1, 0, none⟩ (.int .i64 0)) w.heap.size 22 (.slice Av bs.length cv) := (hb1.set _).other (by omega) _
   have hr2 : Boxed ((W.setCell ⟨w.heap.size, 0, none⟩ (.slice Av bs.length cv)).setCell ⟨w.heap.size + 1, 0, none⟩ (.int .i64 0)) (w.heap.size + 1) 24 (.int .i64 0) := (hb2.other (by omega) _).set _
   have hc5 := cell_kept hr1.cell (grownBy_putObj' _ D (.deferred none)) (fun r e => by cases e; exact ⟨_, hK', rfl⟩)
   have hc6 := cell_kept hr2.cell (grownBy_putObj' _ D (.deferred none)) (fun r e => by cases e; exact ⟨_, hK', rfl⟩)
   refine ⟨.tuple #[(.slice Av bs.length cv), .int .i64 0], ?_, (.slice Av bs.length cv), ((hB.setCell (p := ⟨w.heap.size, 0, none⟩) (by simp) _).setCell (p := ⟨w.heap.size + 1, 0, none⟩) (by simp) _).trans (belowK_b (w := w) (Nat.le_refl _) _ D _ _ (by omega) hK' rfl rfl), .inl ⟨rfl, hok, ?_⟩⟩
   · simp [results, Tryz.f111, go_sem, hc5, hc6]
   · exact Sl.of_own (ownsRow_putObj hrow2 _ hK' rfl)
  case stop =>
   rintro D c pre W hD hpre ⟨⟨rfl, hb1, hb2, hin⟩, hB⟩ hK
   gi_wp2
   refine ⟨by simp, .inl ⟨_, _, rfl, run_takeDeferred hK, ?_⟩⟩
   have hc5 := cell_kept hb1.cell (grownBy_putObj' _ D (.deferred none)) (fun r e => by cases e; exact ⟨_, hK, rfl⟩)
   have hc6 := cell_kept hb2.cell (grownBy_putObj' _ D (.deferred none)) (fun r e => by cases e; exact ⟨_, hK, rfl⟩)
   refine ⟨.tuple #[.slice none 0 0, .int .i64 10], ?_, .slice none 0 0, hB.trans (belowK_b (w := w) (Nat.le_refl _) _ D _ _ (by omega) hK rfl rfl), .inr ⟨rfl, fun h => hin fun y hy => h y (hpre.subset hy)⟩⟩
   simp [results, Tryz.f111, go_sem, hc5, hc6]
end Go.Proofs.YtkibigbcdlilkaaGreatDoor
