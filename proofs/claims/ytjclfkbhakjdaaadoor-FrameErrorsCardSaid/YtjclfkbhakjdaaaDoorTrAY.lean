import Derived.LoopTactic
import Derived.Test.YtjclfkbhakjdaaaDoorRows
import Derived.Test.YtjclfkbhakjdaaaDoorRIY
namespace Go.Proofs.YtjclfkbhakjdaaaDoor.Tr
open Go.RowKit Go.Shelf
attribute [local go_sem] Oper.semAt_some inProg_round inProg_depth
def z26 : Array Value := (List.replicate 26 (Value.int .u8 0)).toArray
theorem info26 : (Tryd.prog.info? 70).map (fun i => (i.zero, i.size)) = some (some (.agg z26), 26) := by kernel_rfl
def nb (L : List UInt8) : Nat → Nat
  | 0 => 0
  | k + 1 => nb L k * 256 + (C8 L k).toNat
where C8 (L : List UInt8) (k : Nat) : UInt8 := (L[k]?).getD 0
theorem nb_lt (L : List UInt8) (k : Nat) : nb L k < 256 ^ k := by
 induction k with
 | zero => simp [nb]
 | succ k ih =>
   have := (nb.C8 L k).toNat_lt
   rw [nb, Nat.pow_succ]
   omega
set_option maxRecDepth 100000 in
theorem at5 (b0 b1 b2 b3 b4 : UInt8) (k : Nat) (hk : k < 5) (w : World) : (Instr.index 72 (.agg #[eB b0, eB b1, eB b2, eB b3, eB b4]) (.int .i64 (k : Nat))).run Tryd.prog w = .ok (eB (nb.C8 [b0, b1, b2, b3, b4] k)) w := by
 rcases (show k = 0 ∨ k = 1 ∨ k = 2 ∨ k = 3 ∨ k = 4 by omega) with rfl | rfl | rfl | rfl | rfl <;> rfl
theorem or8 (m : Nat) (c : UInt8) (h : m < 4294967296) : bits .or .u64 ((m : Int) * 256) (IntKind.u64.wrap (c.toNat : Int)) = ((m * 256 + c.toNat : Nat) : Int) := by
 have hc := c.toNat_lt
 rw [IntWalk.u64_in _ (by omega)]
 have h1 : (BitVec.ofInt IntKind.u64.bits ((m : Int) * 256) ||| BitVec.ofInt IntKind.u64.bits (c.toNat : Int)).toNat = m * 256 + c.toNat := by
  rw [BitVec.toNat_or, BitVec.toNat_ofInt, BitVec.toNat_ofInt]
  have e1 : (((m : Int) * 256) % ((2 ^ IntKind.u64.bits : Nat) : Int)).toNat = 2 ^ 8 * m := by
   show (((m : Int) * 256) % ((2 ^ 64 : Nat) : Int)).toNat = _
   omega
  have e2 : ((c.toNat : Int) % ((2 ^ IntKind.u64.bits : Nat) : Int)).toNat = c.toNat := by
   show ((c.toNat : Int) % ((2 ^ 64 : Nat) : Int)).toNat = _
   omega
  rw [e1, e2, ← Nat.two_pow_add_eq_or_of_lt (i := 8) (b := c.toNat) (by omega) m]
  omega
 unfold bits
 simp only [h1]
 exact IntWalk.u64_in _ (by omega)
def tr3 (x : Nat) (k : Nat) : Array Value := ((List.range 26).map fun j => if 26 - k ≤ j then Value.int .u8 ((x / 3 ^ (25 - j) % 3 : Nat) : Int) else .int .u8 0).toArray
theorem tr3_size (x k : Nat) : (tr3 x k).size = 26 := by simp [tr3]
theorem tr3_zero (x : Nat) : tr3 x 0 = z26 := by
 apply Array.ext
 · simp [tr3, z26]
 · intro j h1 h2
   have : j < 26 := by simpa [tr3] using h1
   simp only [tr3, z26, List.getElem_toArray, List.getElem_map, List.getElem_range, List.getElem_replicate]
   rw [if_neg (by omega)]
theorem tr3_at (x k : Nat) (h : k < 26) : (tr3 x k)[25 - k]? = some (.int .u8 0) := by
 rw [Array.getElem?_eq_getElem (by rw [tr3_size]; omega)]
 simp only [tr3, List.getElem_toArray, List.getElem_map, List.getElem_range]
 rw [if_neg (by omega)]
theorem tr3_one (x k : Nat) : (tr3 x k).all (·.oneCell') = true := by
 rw [Array.all_eq_true']
 intro v hv
 simp only [tr3, List.mem_toArray, List.mem_map] at hv
 obtain ⟨j, _, rfl⟩ := hv
 split <;> rfl
theorem tr3_set (x k : Nat) (h : k < 26) : (tr3 x k).setIfInBounds (25 - k) (.int .u8 ((x / 3 ^ k % 3 : Nat) : Int)) = tr3 x (k + 1) := by
 apply Array.ext
 · simp [tr3]
 · intro j h1 h2
   have hj26 : j < 26 := by simpa [tr3] using h2
   rw [Array.getElem_setIfInBounds (by simpa [tr3] using hj26)]
   simp only [tr3, List.getElem_toArray, List.getElem_map, List.getElem_range]
   by_cases hj : 25 - k = j
   · subst hj
     rw [if_pos rfl, if_pos (by omega), show 25 - (25 - k) = k by omega]
   · rw [if_neg hj]
     by_cases h3 : 26 - k ≤ j
     · rw [if_pos h3, if_pos (by omega)]
     · rw [if_neg h3, if_neg (by omega)]
set_option maxRecDepth 100000 in
set_option maxHeartbeats 2000000 in
theorem Five_in (b0 b1 b2 b3 b4 : UInt8) (n : Nat) (w : World) :
    CallsIn (Fence.inProg Tryd.prog) n Tryd.prog 50 #[.agg #[eB b0, eB b1, eB b2, eB b3, eB b4]] w fun e w' => e = .returned (.agg (tr3 (nb [b0, b1, b2, b3, b4] 5) 26)) ∧ Below w.heap.size w w' := by
  obtain ⟨hz, hsz⟩ := zero_of_info info26
  have hc0 : (Value.agg z26).cells = z26 := rfl
  have hc1 : (Value.agg #[eB b0, eB b1, eB b2, eB b3, eB b4]).cells = #[eB b0, eB b1, eB b2, eB b3, eB b4] := rfl
  refine callsIn_of_wp Tryd.func50 rfl ⟨_, Tryd.func50⟩ ?_ rfl
  simp only [Tryd.ntmps50, List.size_toArray, List.length_cons, List.length_nil, Nat.reduceAdd, Nat.reduceSub, Array.replicate_succ, Array.replicate_zero, List.push_toArray, List.append_toArray, List.nil_append, List.cons_append]
  gi_wp2_with fail
  have hB : Below w.heap.size w ((w.alloc (.cells #[eB b0, eB b1, eB b2, eB b3, eB b4] 72)).alloc (.cells z26 70)) := ((Below.refl _ w).alloc (Nat.le_refl _) _).alloc (by simp) _
  have hr2 : Rowed ((w.alloc (.cells #[eB b0, eB b1, eB b2, eB b3, eB b4] 72)).alloc (.cells z26 70)) (w.heap.size + 1) 70 z26 := by
   have := Rowed.new (w.alloc (.cells #[eB b0, eB b1, eB b2, eB b3, eB b4] 72)) 70 z26
   rwa [World.size_alloc] at this
  generalize (w.alloc (.cells #[eB b0, eB b1, eB b2, eB b3, eB b4] 72)).alloc (.cells z26 70) = w1 at *
  gi_loopw [3, 9] (fun z i wr => ∃ k : Nat, k ≤ 5 ∧ i = .int .i64 k ∧ z = .int .u64 (nb [b0, b1, b2, b3, b4] k : Nat) ∧ wr = w1) (fun _ i _ => 5 - (intOf i).toNat)
  case atStart => exact ⟨0, Nat.zero_le _, rfl, rfl, rfl⟩
  case round =>
   obtain ⟨k, hk, rfl, rfl, rfl⟩ := hrel
   by_cases hlt : k < 5
   · have hix := at5 b0 b1 b2 b3 b4 k hlt
     have hnb := nb_lt [b0, b1, b2, b3, b4] k
     have hpw : 256 ^ k ≤ 256 ^ 4 := Nat.pow_le_pow_right (by omega) (by omega)
     have hn5 : nb [b0, b1, b2, b3, b4] k < 4294967296 := by omega
     have Hs := Lib.hid (show nb [b0, b1, b2, b3, b4] (k + 1) = nb [b0, b1, b2, b3, b4] k * 256 + (nb.C8 [b0, b1, b2, b3, b4] k).toNat from rfl)
     generalize nb [b0, b1, b2, b3, b4] k = m at *
     generalize nb.C8 [b0, b1, b2, b3, b4] k = c at *
     clear hnb hpw
     gi_wp2_with fail
     rw [or8 m c hn5]
     refine ⟨⟨k + 1, by omega, by go_num, by rw [Hs.out], trivial⟩, ?_⟩
     simp [intOf]
     omega
   · obtain rfl : k = 5 := by omega
     have hx5 := nb_lt [b0, b1, b2, b3, b4] 5
     generalize hxe : nb [b0, b1, b2, b3, b4] 5 = x at *
     have Hxe := Lib.hid hxe
     clear hxe
     clear hk hlt hc1
     gi_wp2_with fail
     have hB2 : Below w.heap.size w (wr.alloc (.cells z26 70)) := hB.alloc (hB.size) _
     have hs1 : w.heap.size + 2 ≤ wr.heap.size := by have := hr2.lt; omega
     have hr3 : Rowed (wr.alloc (.cells z26 70)) wr.heap.size 70 (tr3 x 0) := by rw [tr3_zero]; exact Rowed.new wr _ _
     have hr4 : Rowed (wr.alloc (.cells z26 70)) (w.heap.size + 1) 70 z26 := hr2.alloc _
     generalize hg : wr.heap.size = g at *
     generalize wr.alloc (.cells z26 70) = w2 at *
     clear hg hB hr2
     gi_loopw [3, 18] (fun z i wr => ∃ k : Nat, k ≤ 26 ∧ i = .int .i64 k ∧ z = .int .u64 (x / 3 ^ k : Nat) ∧ Rowed wr g 70 (tr3 x k) ∧ Rowed wr (w.heap.size + 1) 70 z26 ∧ Below w.heap.size w wr) (fun _ i _ => 26 - (intOf i).toNat)
     case atStart => exact ⟨0, Nat.zero_le _, rfl, by rw [Nat.pow_zero, Nat.div_one], hr3, hr4, hB2⟩
     case round =>
      clear hr3 hr4 hB2
      obtain ⟨k, hk, rfl, rfl, h3, h4, hB⟩ := hrel
      by_cases hlt : k < 26
      · have dk : decide ((k : Int) < 26) = true := decide_eq_true (by omega)
        have e1 : IntKind.i64.wrap (25 - (k : Int)) = ((25 - k : Nat) : Int) := by rw [IntWalk.i64_in _ (by omega)]; omega
        have ck := h3.cell (25 - k)
        have fk := h3.frozen (25 - k)
        have hset := h3.set (25 - k) (.int .u8 ((x / 3 ^ k % 3 : Nat) : Int))
        rw [tr3_set x k hlt] at hset
        rw [tr3_at x k hlt] at ck
        have hnext : x / 3 ^ (k + 1) = x / 3 ^ k / 3 := by rw [Nat.pow_succ, Nat.div_div_eq_div_mul]
        have hxk : x / 3 ^ k < 1099511627776 := Nat.lt_of_le_of_lt (Nat.div_le_self _ _) hx5
        have Hn := Lib.hid hnext
        clear hnext
        generalize x / 3 ^ k = y at *
        have i1 : ((25 - k : Nat) : Int) < 26 := by omega
        gi_wp2_with fail
        rw [show (y : Int) % 3 = ((y % 3 : Nat) : Int) by omega, show (y : Int) / 3 = ((y / 3 : Nat) : Int) by omega]
        refine ⟨⟨k + 1, by omega, by go_num, by rw [Hn.out], hset, h4.other g (25 - k) _ (by omega), hB.setCell (p := ⟨g, 25 - k, none⟩) (by show _ ≤ g; omega) _⟩, ?_⟩
        simp [intOf]
        omega
      · obtain rfl : k = 26 := by omega
        have hsr : (Tryd.prog.info? 70).map (·.size) = some (tr3 x 26).size := by rw [hsz, tr3_size]
        gi_wp2_with (first
         | (refine wpListIn_load_row rfl 70 (.tmp 6) rfl g rfl _ (tr3 x 26) _ _ h3 Tryd.underlying70 rfl hsr ?_)
         | (refine wpListIn_store_row rfl 70 (.tmp 2) (.tmp 30) rfl (w.heap.size + 1) (tr3 x 26) rfl rfl _ z26 h4 hsr (by rw [tr3_size]; rfl) (tr3_one x 26) ?_))
        have hrow := setRow_heap wr (w.heap.size + 1) z26 (tr3 x 26) _ _ h4
        have hB3 : Below w.heap.size w (wr.setRow (w.heap.size + 1) (tr3 x 26)) :=
         hB.trans ⟨rfl, rfl, rfl, by simp, fun k hk => setRow_other wr (w.heap.size + 1) k _ (by omega)⟩
        refine bodyPost_ret (v := .agg (tr3 x 26)) ?_ rfl ⟨by rw [Hxe.out], hB3⟩
        exact results_cell_row rfl _ _ (w.heap.size + 1) _ _ _ _ rfl hrow Tryd.underlying70 rfl hsr
end Go.Proofs.YtjclfkbhakjdaaaDoor.Tr
