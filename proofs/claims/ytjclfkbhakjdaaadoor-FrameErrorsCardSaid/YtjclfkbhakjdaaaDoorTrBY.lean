import Derived.Test.YtjclfkbhakjdaaaDoorTrAY
namespace Go.Proofs.YtjclfkbhakjdaaaDoor.Tr
open Go.RowKit Go.Shelf
attribute [local go_sem] Oper.semAt_some inProg_round inProg_depth
theorem atRow (t : TypeId) (m : Nat) (e : TypeId) (kd : IntKind) (ht : Tryd.prog.underlying t = some (.array m e)) (hu : Tryd.prog.underlying e = some (.int kd)) (he : (Tryd.prog.info? e).map (·.size) = some 1) (L : List UInt8) (k : Nat) (hl : L.length = m) (hk : k < m) (w : World) : (Instr.index t (.agg (L.map eB).toArray) (.int .i64 (k : Nat))).run Tryd.prog w = .ok (eB (nb.C8 L k)) w := by
 cases hq : Tryd.prog.info? e with
 | none => rw [hq] at he; cases he
 | some i =>
   have hs : i.size = 1 := by rw [hq] at he; simpa using he
   have hk2 : k < L.length := by omega
   unfold Instr.index
   simp [asIntOf, Sem.run_bind, run_underlying ht, run_underlying hu, isAgg, Result.andThen, hk, hk2, sizeOf, typeInfo, hq, hs, part, nb.C8]
def nt3 (L : List UInt8) : Nat → Nat
  | 0 => 0
  | k + 1 => nt3 L k * 3 + (nb.C8 L k).toNat
theorem nt3_lt (L : List UInt8) (k : Nat) (h : ∀ j, j < k → (nb.C8 L j).toNat ≤ 2) : nt3 L k < 3 ^ k := by
 induction k with
 | zero => simp [nt3]
 | succ k ih =>
   have h1 := ih fun j hj => h j (by omega)
   have h2 := h k (by omega)
   rw [nt3, Nat.pow_succ]
   omega
def z5 : Array Value := (List.replicate 5 (Value.int .u8 0)).toArray
def by5 (x : Nat) (k : Nat) : Array Value := ((List.range 5).map fun j => if 5 - k ≤ j then Value.int .u8 ((x / 256 ^ (4 - j) % 256 : Nat) : Int) else .int .u8 0).toArray
theorem by5_size (x k : Nat) : (by5 x k).size = 5 := by simp [by5]
theorem by5_zero (x : Nat) : by5 x 0 = z5 := by
 apply Array.ext
 · simp [by5, z5]
 · intro j h1 h2
   have : j < 5 := by simpa [by5] using h1
   simp only [by5, z5, List.getElem_toArray, List.getElem_map, List.getElem_range, List.getElem_replicate]
   rw [if_neg (by omega)]
theorem by5_at (x k : Nat) (h : k < 5) : (by5 x k)[4 - k]? = some (.int .u8 0) := by
 rw [Array.getElem?_eq_getElem (by rw [by5_size]; omega)]
 simp only [by5, List.getElem_toArray, List.getElem_map, List.getElem_range]
 rw [if_neg (by omega)]
theorem by5_one (x k : Nat) : (by5 x k).all (·.oneCell') = true := by
 rw [Array.all_eq_true']
 intro v hv
 simp only [by5, List.mem_toArray, List.mem_map] at hv
 obtain ⟨j, _, rfl⟩ := hv
 split <;> rfl
theorem by5_set (x k : Nat) (h : k < 5) : (by5 x k).setIfInBounds (4 - k) (.int .u8 ((x / 256 ^ k % 256 : Nat) : Int)) = by5 x (k + 1) := by
 apply Array.ext
 · simp [by5]
 · intro j h1 h2
   have hj5 : j < 5 := by simpa [by5] using h2
   rw [Array.getElem_setIfInBounds (by simpa [by5] using hj5)]
   simp only [by5, List.getElem_toArray, List.getElem_map, List.getElem_range]
   by_cases hj : 4 - k = j
   · subst hj
     rw [if_pos rfl, if_pos (by omega), show 4 - (4 - k) = k by omega]
   · rw [if_neg hj]
     by_cases h3 : 5 - k ≤ j
     · rw [if_pos h3, if_pos (by omega)]
     · rw [if_neg h3, if_neg (by omega)]
theorem info5 : (Tryd.prog.info? 72).map (fun i => (i.zero, i.size)) = some (some (.agg z5), 5) := by kernel_rfl
theorem size1 : (Tryd.prog.info? 5).map (·.size) = some 1 := by kernel_rfl
abbrev errno (n : Int) : List PanicEntry := [{ v := .iface 28 (.int .i64 n), recovered := false }]
set_option maxRecDepth 1000000 in
set_option maxHeartbeats 4000000 in
theorem back_in (L : List UInt8) (hl : L.length = 26) (n : Nat) (w : World) :
    CallsIn (Fence.inProg Tryd.prog) n Tryd.prog 90 #[.agg (L.map eB).toArray] w fun e w' => Below w.heap.size w w' ∧
      (((∃ j, j < 26 ∧ 2 < (nb.C8 L j).toNat) ∧ e = .panicked (errno 2)) ∨ ((∀ j, j < 26 → (nb.C8 L j).toNat ≤ 2) ∧ ((1099511627776 ≤ nt3 L 26 ∧ e = .panicked (errno 80)) ∨ (nt3 L 26 < 1099511627776 ∧ e = .returned (.agg (by5 (nt3 L 26) 5)))))) := by
  obtain ⟨hz, hsz⟩ := zero_of_info info5
  have hc0 : (Value.agg z5).cells = z5 := rfl
  have hcl : (Value.agg (L.map eB).toArray).cells = (L.map eB).toArray := rfl
  have hls : (L.map eB).toArray.size = 26 := by simp [hl]
  have hix := atRow 70 26 5 .u8 Tryd.underlying70 Tryd.underlying5 size1 L
  generalize hcs : (L.map eB).toArray = cs at *
  clear hcs
  have hB : Below w.heap.size w ((w.alloc (.cells cs 70)).alloc (.cells z5 72)) := ((Below.refl _ w).alloc (Nat.le_refl _) _).alloc (by simp) _
  have hr1 : Rowed (w.alloc (.cells cs 70)) w.heap.size 70 cs := Rowed.new w _ _
  have hr1' : Rowed ((w.alloc (.cells cs 70)).alloc (.cells z5 72)) w.heap.size 70 cs := hr1.alloc _
  have hr2 : Rowed ((w.alloc (.cells cs 70)).alloc (.cells z5 72)) (w.heap.size + 1) 72 z5 := by
   have := Rowed.new (w.alloc (.cells cs 70)) 72 z5
   rwa [World.size_alloc] at this
  have hsr : (Tryd.prog.info? 70).map (·.size) = some cs.size := by rw [hls]; kernel_rfl
  refine callsIn_of_wp Tryd.func90 rfl ⟨_, Tryd.func90⟩ ?_ rfl
  simp only [Tryd.ntmps90, List.size_toArray, List.length_cons, List.length_nil, Nat.reduceAdd, Nat.reduceSub, Array.replicate_succ, Array.replicate_zero, List.push_toArray, List.append_toArray, List.nil_append, List.cons_append]
  gi_wp2_with (refine wpListIn_load_row rfl 70 (.tmp 1) rfl w.heap.size rfl _ cs _ _ hr1' Tryd.underlying70 rfl hsr ?_)
  generalize (w.alloc (.cells cs 70)).alloc (.cells z5 72) = w1 at *
  clear hr1 hr1'
  gi_loopw [3, 9] (fun z i wr => ∃ k : Nat, k ≤ 26 ∧ i = .int .i64 k ∧ z = .int .u64 (nt3 L k : Nat) ∧ (∀ j, j < k → (nb.C8 L j).toNat ≤ 2) ∧ wr = w1) (fun _ i _ => 26 - (intOf i).toNat)
  case atStart => exact ⟨0, Nat.zero_le _, rfl, rfl, fun j hj => absurd hj (by omega), rfl⟩
  case round =>
   obtain ⟨k, hk, rfl, rfl, hle, rfl⟩ := hrel
   by_cases hlt : k < 26
   · have hi := hix k hl hlt
     clear hix
     have hnb := nt3_lt L k hle
     have hpw : 3 ^ k ≤ 3 ^ 25 := Nat.pow_le_pow_right (by omega) (by omega)
     have hn5 : nt3 L k < 1000000000000 := by omega
     have Hs := Lib.hid (show nt3 L (k + 1) = nt3 L k * 3 + (nb.C8 L k).toNat from rfl)
     generalize nt3 L k = m at *
     by_cases hc : 2 < (nb.C8 L k).toNat
     · have d1 : decide ((2 : Int) < ((nb.C8 L k).toNat : Int)) = true := decide_eq_true (by omega)
       have Hc := Lib.hid (show ∃ j, j < 26 ∧ 2 < (nb.C8 L j).toNat from ⟨k, hlt, hc⟩)
       generalize nb.C8 L k = c at *
       clear hnb hpw
       gi_wp2_with fail
       exact ⟨rfl, hB, .inl ⟨Hc.out, rfl⟩⟩
     · have d1 : decide ((2 : Int) < ((nb.C8 L k).toNat : Int)) = false := decide_eq_false (by omega)
       have hle2 : ∀ j, j < k + 1 → (nb.C8 L j).toNat ≤ 2 := fun j hj => by
        by_cases e : j = k
        · subst e; omega
        · exact hle j (by omega)
       have Hl := Lib.hid hle2
       generalize nb.C8 L k = c at *
       clear hnb hpw hle hle2
       gi_wp2_with fail
       refine ⟨⟨k + 1, by omega, by go_num, by rw [Hs.out]; go_num, Hl.out, trivial⟩, ?_⟩
       simp [intOf]
       omega
   · obtain rfl : k = 26 := by omega
     clear hix hlt hk hcl hls hsr
     have hx5 := nt3_lt L 26 hle
     have Hl := Lib.hid hle
     clear hle
     generalize hxe : nt3 L 26 = x at *
     have Hxe := Lib.hid hxe
     clear hxe
     by_cases hbig : 1099511627776 ≤ x
     · have d2 : decide ((1099511627776 : Int) ≤ (x : Int)) = true := decide_eq_true (by omega)
       have Hb := Lib.hid hbig
       gi_wp2_with fail
       exact ⟨rfl, hB, .inr ⟨Hl.out, .inl ⟨by rw [Hxe.out]; exact Hb.out, rfl⟩⟩⟩
     · have d2 : decide ((1099511627776 : Int) ≤ (x : Int)) = false := decide_eq_false (by omega)
       have Hb := Lib.hid (show x < 1099511627776 by omega)
       gi_wp2_with fail
       have hB2 : Below w.heap.size w (wr.alloc (.cells z5 72)) := hB.alloc (hB.size) _
       have hs1 : w.heap.size + 2 ≤ wr.heap.size := by have := hr2.lt; omega
       have hr3 : Rowed (wr.alloc (.cells z5 72)) wr.heap.size 72 (by5 x 0) := by rw [by5_zero]; exact Rowed.new wr _ _
       have hr4 : Rowed (wr.alloc (.cells z5 72)) (w.heap.size + 1) 72 z5 := hr2.alloc _
       generalize hg : wr.heap.size = g at *
       generalize wr.alloc (.cells z5 72) = w2 at *
       clear hg hB hr2 hbig d2
       gi_loopw [3, 24] (fun z i wr => ∃ k : Nat, k ≤ 5 ∧ i = .int .i64 k ∧ z = .int .u64 (x / 256 ^ k : Nat) ∧ Rowed wr g 72 (by5 x k) ∧ Rowed wr (w.heap.size + 1) 72 z5 ∧ Below w.heap.size w wr) (fun _ i _ => 5 - (intOf i).toNat)
       case atStart => exact ⟨0, Nat.zero_le _, rfl, by rw [Nat.pow_zero, Nat.div_one], hr3, hr4, hB2⟩
       case round =>
        clear hr3 hr4 hB2
        obtain ⟨k, hk, rfl, rfl, h3, h4, hB⟩ := hrel
        by_cases hlt : k < 5
        · have dk : decide ((k : Int) < 5) = true := decide_eq_true (by omega)
          have e1 : IntKind.i64.wrap (4 - (k : Int)) = ((4 - k : Nat) : Int) := by rw [IntWalk.i64_in _ (by omega)]; omega
          have ck := h3.cell (4 - k)
          have fk := h3.frozen (4 - k)
          have hset := h3.set (4 - k) (.int .u8 ((x / 256 ^ k % 256 : Nat) : Int))
          rw [by5_set x k hlt] at hset
          rw [by5_at x k hlt] at ck
          have hnext : x / 256 ^ (k + 1) = x / 256 ^ k / 256 := by rw [Nat.pow_succ, Nat.div_div_eq_div_mul]
          have hxk : x / 256 ^ k < 1099511627776 := Nat.lt_of_le_of_lt (Nat.div_le_self _ _) Hb.out
          have Hn := Lib.hid hnext
          clear hnext
          generalize x / 256 ^ k = y at *
          have i1 : ((4 - k : Nat) : Int) < 5 := by omega
          gi_wp2_with fail
          rw [show (y : Int) % 256 = ((y % 256 : Nat) : Int) by omega, show (y : Int) / 256 = ((y / 256 : Nat) : Int) by omega]
          refine ⟨⟨k + 1, by omega, by go_num, by rw [Hn.out], hset, h4.other g (4 - k) _ (by omega), hB.setCell (p := ⟨g, 4 - k, none⟩) (by show _ ≤ g; omega) _⟩, ?_⟩
          simp [intOf]
          omega
        · obtain rfl : k = 5 := by omega
          have hsr : (Tryd.prog.info? 72).map (·.size) = some (by5 x 5).size := by rw [hsz, by5_size]
          gi_wp2_with (first
           | (refine wpListIn_load_row rfl 72 (.tmp 6) rfl g rfl _ (by5 x 5) _ _ h3 Tryd.underlying72 rfl hsr ?_)
           | (refine wpListIn_store_row rfl 72 (.tmp 2) (.tmp 35) rfl (w.heap.size + 1) (by5 x 5) rfl rfl _ z5 h4 hsr (by rw [by5_size]; rfl) (by5_one x 5) ?_))
          have hrow := setRow_heap wr (w.heap.size + 1) z5 (by5 x 5) _ _ h4
          have hB3 : Below w.heap.size w (wr.setRow (w.heap.size + 1) (by5 x 5)) :=
           hB.trans ⟨rfl, rfl, rfl, by simp, fun k hk => setRow_other wr (w.heap.size + 1) k _ (by omega)⟩
          refine bodyPost_ret (v := .agg (by5 x 5)) ?_ rfl ⟨hB3, .inr ⟨Hl.out, .inr ⟨by rw [Hxe.out]; exact Hb.out, by rw [Hxe.out]⟩⟩⟩
          exact results_cell_row rfl _ _ (w.heap.size + 1) _ _ _ _ rfl hrow Tryd.underlying72 rfl hsr
end Go.Proofs.YtjclfkbhakjdaaaDoor.Tr
