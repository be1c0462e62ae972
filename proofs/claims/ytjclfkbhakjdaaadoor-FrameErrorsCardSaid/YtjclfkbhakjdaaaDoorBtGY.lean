import Derived.StillTailTactics
import Derived.Test.YtjclfkbhakjdaaaDoorBtEY
namespace Go.Proofs.YtjclfkbhakjdaaaDoor.Bt
open Go.RowKit Go.Shelf
attribute [local go_sem] Oper.semAt_some
theorem bits_and1u (n : Nat) : bits .and .u64 (n : Int) 1 = ((n % 2 : Nat) : Int) := by
 have h : (BitVec.ofInt IntKind.u64.bits (n : Int) &&& BitVec.ofInt IntKind.u64.bits 1).toNat = n % 2 := by
  have e : (BitVec.ofInt IntKind.u64.bits 1).toNat = 2 ^ 1 - 1 := by decide
  rw [BitVec.toNat_and, e, Nat.and_two_pow_sub_one_eq_mod, BitVec.toNat_ofInt]
  show ((n : Int) % (2 ^ 64 : Nat)).toNat % 2 = _
  omega
 unfold bits
 simp only [h]
 have h2 : n % 2 < 2 := Nat.mod_lt _ (by omega)
 generalize n % 2 = z at *
 clear h
 rcases (show z = 0 ∨ z = 1 by omega) with rfl | rfl <;> rfl
def bitAt (x : Nat) (k : Nat) : UInt8 := UInt8.ofNat (x / 2 ^ k % 2)
set_option maxRecDepth 100000 in
set_option maxHeartbeats 2000000 in
theorem put_any (x : Nat) (many i : Nat) (bx bm bb g : Nat) (v0 : Value) (_hx : x < 18446744073709551616) (hm : many ≤ 64) (hi : i < many) (w : World)
    (hcx : w.cell? ⟨bx, 0, none⟩ = some (.int .u64 x)) (hcm : w.cell? ⟨bm, 0, none⟩ = some (.int .i64 many)) (hcb : w.cell? ⟨bb, 0, none⟩ = some (.slice (some ⟨g, 0, none⟩) many many))
    (hg : w.cell? ⟨g, i, none⟩ = some v0) (hf : w.frozen? ⟨g, i, none⟩ = false) :
    Calls Tryd.prog 56 #[.int .i64 i, .pointer (some ⟨bx, 0, none⟩), .pointer (some ⟨bm, 0, none⟩), .pointer (some ⟨bb, 0, none⟩)] w fun e w' => ∃ nq, (∃ v, e = .returned v) ∧ w' = (w.drewN nq).setCell ⟨g, i, none⟩ (eB (bitAt x (many - 1 - i))) := by
 obtain ⟨k, hk⟩ : ∃ k : Nat, many - 1 - i = k := ⟨_, rfl⟩
 have e1 : IntKind.i64.wrap ((many : Int) - 1) = ((many - 1 : Nat) : Int) := by rw [IntWalk.i64_in _ (by omega)]; omega
 have e2 : IntKind.i64.wrap (((many - 1 : Nat) : Int) - i) = (k : Int) := by rw [IntWalk.i64_in _ (by omega)]; omega
 have hk64 : k < 64 := by omega
 have hiz : (i : Int) < many := by omega
 rw [hk]
 generalize many - 1 = m1 at *
 clear hk
 go_enter Tryd.func56, Tryd.ntmps56
 go_still_tail 11, (by kernel_rfl)
 change wpList _ _ _ _ _ w.drew
 obtain ⟨w2, hw2⟩ : ∃ w2, w.drew = w2 := ⟨_, rfl⟩
 have dx : w2.cell? ⟨bx, 0, none⟩ = some (.int .u64 x) := by rw [← hw2]; exact hcx
 have dm : w2.cell? ⟨bm, 0, none⟩ = some (.int .i64 many) := by rw [← hw2]; exact hcm
 have db : w2.cell? ⟨bb, 0, none⟩ = some (.slice (some ⟨g, 0, none⟩) many many) := by rw [← hw2]; exact hcb
 have dg : w2.cell? ⟨g, i, none⟩ = some v0 := by rw [← hw2]; exact hg
 have df : w2.frozen? ⟨g, i, none⟩ = false := by rw [← hw2]; exact hf
 rw [hw2]
 clear hcx hcm hcb hg hf
 go_wp2_with fail
 have hv : (Value.int IntKind.u8 (bits BinOp.and IntKind.u64 ((x : Int) / 2 ^ k) 1 % 256)) = eB (bitAt x k) := by
  rw [show ((x : Int) / 2 ^ k) = ((x / 2 ^ k : Nat) : Int) by norm_cast, bits_and1u, bitAt, eB]
  have : x / 2 ^ k % 2 < 2 := Nat.mod_lt _ (by omega)
  generalize x / 2 ^ k % 2 = z at *
  have hz : (UInt8.ofNat z).toNat = z := by simp; omega
  rw [hz]
  congr 1
  omega
 rw [hv]
 go_end0
 exact ⟨1, ⟨_, rfl⟩, by rw [← hw2]; rfl⟩
end Go.Proofs.YtjclfkbhakjdaaaDoor.Bt
namespace Go.Proofs.YtjclfkbhakjdaaaDoor.Bt
open Go.RowKit Go.Shelf
attribute [local go_sem] Oper.semAt_some
def Rowed (W : World) (g : Nat) (t : TypeId) (cs : Array Value) : Prop := W.heap[g]? = some (.cells cs t (0, 0))
theorem Rowed.lt {W : World} {g : Nat} {t : TypeId} {cs : Array Value} (h : Rowed W g t cs) : g < W.heap.size := (Array.getElem?_eq_some_iff.1 h).1
theorem Rowed.cell {W : World} {g : Nat} {t : TypeId} {cs : Array Value} (h : Rowed W g t cs) (j : Nat) : W.cell? ⟨g, j, none⟩ = cs[j]? := by simp [World.cell?, show W.heap[g]? = _ from h]
theorem Rowed.frozen {W : World} {g : Nat} {t : TypeId} {cs : Array Value} (h : Rowed W g t cs) (j : Nat) : W.frozen? ⟨g, j, none⟩ = false := by simp [World.frozen?, show W.heap[g]? = _ from h]
theorem Rowed.set {W : World} {g : Nat} {t : TypeId} {cs : Array Value} (j : Nat) (v : Value) (h : Rowed W g t cs) : Rowed (W.setCell ⟨g, j, none⟩ v) g t (cs.setIfInBounds j v) := by
 obtain ⟨hlt, hk⟩ := Array.getElem?_eq_some_iff.1 h
 show (W.heap.modify g _)[g]? = _
 rw [Array.getElem?_eq_getElem (by rw [Array.size_modify]; exact hlt), Array.getElem_modify_self, hk]
 rfl
theorem grownBy_setCellAt (W : World) (b j : Nat) (v : Value) : W.grownBy (W.setCell ⟨b, j, none⟩ v) (some b) :=
 ⟨rfl, rfl, rfl, (KeepsWalks.setCell W _ v).size, fun k _ hk => Below.heap_setCell _ _ _ k (fun e => hk (by rw [e]))⟩
def numAt (x m k : Nat) : Array Value := ((List.range m).map fun j => if j < k then eB (bitAt x (m - 1 - j)) else .int .u8 0).toArray
def numOf (x m : Nat) : List UInt8 := (List.range m).map fun j => bitAt x (m - 1 - j)
theorem numAt_size (x m k : Nat) : (numAt x m k).size = m := by simp [numAt]
theorem numAt_set (x m k : Nat) (_h : k < m) : (numAt x m k).setIfInBounds k (eB (bitAt x (m - 1 - k))) = numAt x m (k + 1) := by
 apply Array.ext
 · simp [numAt]
 · intro j h1 h2
   simp only [numAt_size] at h2
   rw [Array.getElem_setIfInBounds (by simpa [numAt_size] using h2)]
   simp only [numAt, List.getElem_toArray, List.getElem_map, List.getElem_range]
   by_cases hj : k = j
   · subst hj; simp
   · rw [if_neg hj]
     by_cases h3 : j < k
     · rw [if_pos h3, if_pos (by omega)]
     · rw [if_neg h3, if_neg (by omega)]
theorem numAt_all (x m : Nat) : numAt x m m = ((numOf x m).map eB).toArray := by
 simp only [numAt, numOf, List.map_map]
 congr 1
 apply List.map_congr_left
 intro j hj
 simp only [List.mem_range] at hj
 rw [if_pos hj]
 rfl
theorem need_quiet (x : Int) (h0 : 0 ≤ x) (h1 : x ≤ 18446744073709551615) (w : World) :
    Calls Tryd.prog 55 #[.int .u64 x] w fun e w' => e = .returned (.int .i64 (Lib.bitLen x.toNat)) ∧ w' = w := (Need_any x h0 h1 w).mono fun _ _ h => ⟨h.1, h.2.symm⟩
set_option maxRecDepth 100000 in
set_option maxHeartbeats 2000000 in
theorem Number_yes (x m : Nat) (hx : x < 18446744073709551616) (hm : m ≤ 64) (hl : Lib.bitLen x ≤ m) (w : World) :
    Calls Tryd.prog 37 #[.int .u64 x, .int .i64 m] w fun e W' => ∃ v, Below w.heap.size w W' ∧ e = .returned (.tuple #[v, .int .i64 0]) ∧ Sl eB W'.heap.size W' v (numOf x m) := by
  obtain ⟨i0, hi, hz0, hz1, hz2⟩ := info_parts info_u8
  have hneed := fun w => need_quiet (x : Int) (by omega) (by omega) w
  simp only [Int.toNat_natCast] at hneed
  have d1 : decide ((m : Int) < 0) = false := decide_eq_false (by omega)
  have d2 : decide ((64 : Int) < m) = false := decide_eq_false (by omega)
  have d3 : decide ((m : Int) < Lib.bitLen x) = false := decide_eq_false (by omega)
  have d4 : decide (m < Lib.bitLen x) = false := decide_eq_false (by omega)
  have hmk : ∀ w, (Instr.makeSlice 24 (.int .i64 (m : Int)) (.int .i64 (m : Int))).run Tryd.prog w = .ok (.slice (some ⟨w.heap.size, 0, none⟩) m m) (w.alloc (.cells (numAt x m 0) 5)) := by
   intro w
   have h1 := run_make w 24 5 i0 (.int .u8 0) Tryd.underlying24 hi hz0 .i64 .i64 (m : Int) (m : Int) (by omega) (by omega) (by rw [hz2]; omega) (by omega)
   have h2 : madeCells (Value.int .u8 0).cells ((m : Int).toNat * i0.size) = numAt x m 0 := by
    rw [hz1]
    apply Array.ext
    · simp [madeCells, numAt, Value.cells]
    · intro j _ _
      simp [madeCells, numAt, Value.cells, Nat.mod_one]
   rw [h2] at h1
   simpa using h1
  go_enter Tryd.func37, Tryd.ntmps37
  go_wp2_with fail
  obtain ⟨W0, hW0⟩ : ∃ W0, (w.alloc (Obj.cells #[Value.int IntKind.u64 x] 65)).alloc (Obj.cells #[Value.int IntKind.i64 m] 3) = W0 := ⟨_, rfl⟩
  have hB0 : Below w.heap.size w W0 := by rw [← hW0]; exact ((Below.refl _ w).alloc (Nat.le_refl _) _).alloc (by simp) _
  have hs0 : W0.heap.size = w.heap.size + 2 := by rw [← hW0]; simp
  have b1 : Boxed W0 w.heap.size 65 (.int .u64 x) := by rw [← hW0]; exact (Boxed.new w 65 (.int .u64 x)).alloc _
  have b2 : Boxed W0 (w.heap.size + 1) 3 (.int .i64 m) := by
   rw [← hW0]
   have := Boxed.new (w.alloc (Obj.cells #[Value.int IntKind.u64 x] 65)) 3 (.int .i64 m)
   simpa only [World.size_alloc] using this
  rw [hW0]
  clear hW0
  have c1 := b1.cell
  have c2 := b2.cell
  go_quiet ((go_at_call 55; exact Calls.quiet_of_same (hneed _)))
  obtain ⟨W1, hW1⟩ : ∃ W1, W0.drewN nq = W1 := ⟨_, rfl⟩
  have hB1 : Below w.heap.size w W1 := by rw [← hW1]; exact hB0.trans (below_drewN _ _)
  have hs1 : W1.heap.size = w.heap.size + 2 := by rw [← hW1]; exact hs0
  have b1 : Boxed W1 w.heap.size 65 (.int .u64 x) := by rw [← hW1]; exact b1
  have b2 : Boxed W1 (w.heap.size + 1) 3 (.int .i64 m) := by rw [← hW1]; exact b2
  rw [hW1]
  clear hW1 hB0 hs0
  have c1 := b1.cell
  have c2 := b2.cell
  go_wp2_with fail
  obtain ⟨W2, hW2⟩ : ∃ W2, (W1.alloc (Obj.cells (numAt x m 0) 5)).alloc (Obj.cells #[Value.slice (some { block := w.heap.size + 2, off := 0 }) m m] 24) = W2 := ⟨_, rfl⟩
  have hB2 : Below w.heap.size w W2 := by rw [← hW2]; exact (hB1.alloc (by omega) _).alloc (by simp; omega) _
  have b1 : Boxed W2 w.heap.size 65 (.int .u64 x) := by rw [← hW2]; exact (b1.alloc _).alloc _
  have b2 : Boxed W2 (w.heap.size + 1) 3 (.int .i64 m) := by rw [← hW2]; exact (b2.alloc _).alloc _
  have b3 : Boxed W2 (w.heap.size + 2 + 1) 24 (Value.slice (some { block := w.heap.size + 2, off := 0 }) m m) := by
   rw [← hW2]
   have := Boxed.new (W1.alloc (Obj.cells (numAt x m 0) 5)) 24 (Value.slice (some { block := w.heap.size + 2, off := 0 }) m m)
   rw [World.size_alloc, hs1] at this
   exact this
  have b4 : Rowed W2 (w.heap.size + 2) 5 (numAt x m 0) := by
   rw [← hW2]
   have h0 : (W1.alloc (Obj.cells (numAt x m 0) 5)).heap[W1.heap.size]? = some (.cells (numAt x m 0) 5 (0, 0)) := World.alloc_heap_new W1 _
   rw [hs1] at h0
   exact (Below.heap_alloc _ _ _ (by simp; omega)).trans h0
  rw [hW2]
  clear hW2 c1 c2 hB1 hmk hneed
  go_loopw [26] (fun i wr => ∃ k : Nat, k ≤ m ∧ i = .int .i64 k ∧ Below w.heap.size w wr ∧ Boxed wr w.heap.size 65 (.int .u64 x) ∧ Boxed wr (w.heap.size + 1) 3 (.int .i64 m) ∧ Boxed wr (w.heap.size + 2 + 1) 24 (Value.slice (some { block := w.heap.size + 2, off := 0 }) m m) ∧ Rowed wr (w.heap.size + 2) 5 (numAt x m k)) (fun i _ => m - (intOf i).toNat)
  case atStart => exact ⟨0, Nat.zero_le _, rfl, hB2, b1, b2, b3, b4⟩
  case round =>
   obtain ⟨k, hk, rfl, hB, r1, r2, r3, r4⟩ := hrel
   clear b1 b2 b3 b4 hB2
   by_cases hlt : k < m
   · have cg := r4.cell k
     rw [show (numAt x m k)[k]? = some (.int .u8 0) by simp [numAt, hlt]] at cg
     have fg := r4.frozen k
     go_wp2_with (go_at_call 56; refine (put_any x m k w.heap.size (w.heap.size + 1) (w.heap.size + 2 + 1) (w.heap.size + 2) _ hx hm hlt _ r1.cell r2.cell r3.cell cg fg).mono ?_; rintro e w' ⟨nq, ⟨v, rfl⟩, rfl⟩)
     go_roundw
     case rel =>
      refine ⟨k + 1, by omega, by go_num, (hB.trans (below_drewN wr nq)).setCell (p := ⟨w.heap.size + 2, k, none⟩) (by simp) (eB (bitAt x (m - 1 - k))), ?_, ?_, ?_, ?_⟩
      · exact Boxed.kept (W := wr.drewN nq) r1 (grownBy_setCellAt (wr.drewN nq) (w.heap.size + 2) k _) (by simp)
      · exact Boxed.kept (W := wr.drewN nq) r2 (grownBy_setCellAt (wr.drewN nq) (w.heap.size + 2) k _) (by simp)
      · exact Boxed.kept (W := wr.drewN nq) r3 (grownBy_setCellAt (wr.drewN nq) (w.heap.size + 2) k _) (by simp)
      · rw [← numAt_set x m k hlt]
        exact Rowed.set (W := wr.drewN nq) k _ r4
     case measure => simp [intOf]; omega
   · obtain rfl : k = m := by omega
     have c3 := r3.cell
     go_wp2
     go_ret2
     refine ⟨.slice (some ⟨w.heap.size + 2, 0, none⟩) k k, hB, rfl, ?_⟩
     have hln : (numOf x k).length = k := by simp [numOf]
     refine ⟨some ⟨w.heap.size + 2, 0, none⟩, k, by rw [hln], by omega, fun _ => ⟨w.heap.size + 2, 0, rfl, r4.lt, fun j y hy => ?_⟩⟩
     rw [Nat.zero_add, r4.cell, numAt_all]
     simp [hy]
end Go.Proofs.YtjclfkbhakjdaaaDoor.Bt
