/- Contracts of crc's small functions: Step, Four. -/
import Derived.Test.YtnnhijfgbdhmiaaRows
import Derived.Test.YtnnhijfgbdhmiaaW32
import Derived.Test.YtnnhijfgbdhmiaaR
namespace Go.Proofs.Ytnnhijfgbdhmiaa
open Go.RowKit Go.Shelf
attribute [local go_sem] Oper.semAt_some

theorem byteW_val (b : UInt8) : IntKind.u32.wrap (b.toNat : Int) = ((byteW b).toNat : Int) := by
  have hb := b.toNat_lt
  rw [IntWalk.u32_in _ (by omega), byteW, BitVec.toNat_ofNat, Nat.mod_eq_of_lt (by omega)]
theorem and1_val (x : BitVec 32) : bits .and .u32 (x.toNat : Int) 1 = if x.getLsbD 0 then 1 else 0 := by
  have h := w32_and x 1#32
  rw [show (((1#32 : BitVec 32).toNat : Nat) : Int) = 1 from rfl] at h
  rw [h]
  have : (x &&& 1#32) = if x.getLsbD 0 then 1#32 else 0#32 := by
    ext i hi
    rcases i with _ | i
    · cases hx : x.getLsbD 0 <;> simp_all [BitVec.getLsbD_eq_getElem]
    · cases hx : x.getLsbD 0 <;> simp
  rw [this]
  cases x.getLsbD 0 <;> rfl
theorem shr1_val (x : BitVec 32) : (x.toNat : Int) / (2 : Int) = ((x >>> 1).toNat : Int) := by
  rw [BitVec.toNat_ushiftRight, Nat.shiftRight_eq_div_pow]
  omega

set_option maxRecDepth 100000 in
set_option maxHeartbeats 2000000 in
theorem Step_any (c : BitVec 32) (b : UInt8) (w : World) :
    Calls Try.prog 9 #[wV c, eB b] w fun e w' => e = .returned (wV (stepW c b)) ∧ w = w' := by
  have hb := byteW_val b
  have hx := w32_xor c (byteW b)
  go_enter Try.func9, Try.ntmps9
  go_wp2_with fail
  go_loopw [0, 10] (fun z i wr => ∃ k : Nat, k ≤ 8 ∧ i = .int .i64 k ∧ z = wV (halves k (c ^^^ byteW b)) ∧ wr = w) (fun _ i _ => 8 - (intOf i).toNat)
  case atStart => exact ⟨0, Nat.zero_le _, rfl, rfl, rfl⟩
  case round =>
    obtain ⟨k, hk, rfl, rfl, rfl⟩ := hrel
    by_cases hlt : k < 8
    · have hl : decide ((k : Int) < 8) = true := decide_eq_true (by omega)
      have ha := and1_val (halves k (c ^^^ byteW b))
      have hh : halves (k + 1) (c ^^^ byteW b) = half (halves k (c ^^^ byteW b)) := rfl
      rw [half] at hh
      have Hh := Lib.hid hh
      clear hh
      generalize halves k (c ^^^ byteW b) = y at *
      cases hy : y.getLsbD 0
      · rw [hy] at ha Hh
        rw [if_neg (by decide)] at ha
        have Hy := Lib.hid (show Value.int .u32 ((y.toNat : Int) / 2) = wV (halves (k + 1) (c ^^^ byteW b)) by rw [Hh.out, shr1_val, if_neg (by decide), BitVec.xor_zero])
        clear Hh
        go_wp2
        exact ⟨⟨k + 1, by omega, by go_num, Hy.out, trivial⟩, by simp [intOf]; omega⟩
      · rw [hy] at ha Hh
        rw [if_pos rfl] at ha
        have Hy := Lib.hid (show Value.int .u32 (bits .xor .u32 ((y.toNat : Int) / 2) 3988292384) = wV (halves (k + 1) (c ^^^ byteW b)) by
          rw [Hh.out, shr1_val, if_pos rfl]
          exact congrArg (Value.int .u32) (w32_xor (y >>> 1) Kw))
        clear Hh
        go_wp2
        exact ⟨⟨k + 1, by omega, by go_num, Hy.out, trivial⟩, by simp [intOf]; omega⟩
    · obtain rfl : k = 8 := by omega
      go_wp2
      go_ret
      exact ⟨rfl, rfl⟩

/-- Four bytes of a word. -/
def byteAt (x : BitVec 32) (k : Nat) : UInt8 := UInt8.ofNat (x.toNat / 2 ^ (8 * k) % 256)
theorem info_4 : (Try.prog.info? 27).map (fun i => (i.zero, i.size)) = some (some (.agg #[.int .u8 0, .int .u8 0, .int .u8 0, .int .u8 0]), 4) := by kernel_rfl

set_option maxRecDepth 100000 in
set_option maxHeartbeats 2000000 in
theorem Four_any (c : BitVec 32) (w : World) :
    Calls Try.prog 8 #[wV c] w fun e w' => e = .returned (.agg #[eB (byteAt c 0), eB (byteAt c 1), eB (byteAt c 2), eB (byteAt c 3)]) ∧ Below w.heap.size w w' := by
  go_enter Try.func8, Try.ntmps8
  go_wp2_with fail
  obtain ⟨W0, hW0⟩ : ∃ W0, ((w.alloc (Obj.cells #[Value.int IntKind.u8 0, Value.int IntKind.u8 0, Value.int IntKind.u8 0, Value.int IntKind.u8 0] 27)).alloc (Obj.cells #[Value.int IntKind.u8 0, Value.int IntKind.u8 0, Value.int IntKind.u8 0, Value.int IntKind.u8 0] 27)) = W0 := ⟨_, rfl⟩
  have hB0 : Below w.heap.size w W0 := by rw [← hW0]; exact ((Below.refl _ w).alloc (Nat.le_refl _) _).alloc (by simp) _
  have b0 : Rowed W0 w.heap.size 27 #[Value.int IntKind.u8 0, Value.int IntKind.u8 0, Value.int IntKind.u8 0, Value.int IntKind.u8 0] := by rw [← hW0]; exact (Rowed.new w _ _).alloc _
  have b1 : Rowed W0 (w.heap.size + 1) 27 #[Value.int IntKind.u8 0, Value.int IntKind.u8 0, Value.int IntKind.u8 0, Value.int IntKind.u8 0] := by
    rw [← hW0]
    have := Rowed.new (w.alloc (Obj.cells #[Value.int IntKind.u8 0, Value.int IntKind.u8 0, Value.int IntKind.u8 0, Value.int IntKind.u8 0] 27)) 27 #[Value.int IntKind.u8 0, Value.int IntKind.u8 0, Value.int IntKind.u8 0, Value.int IntKind.u8 0]
    rwa [World.size_alloc] at this
  rw [hW0]
  clear hW0
  refine wp_loop_rounds 5 ?_
  rw [rounds_succ]
  have c0 : W0.cell? ⟨w.heap.size + 1, 0, none⟩ = some (.int .u8 0) := b1.cell 0
  have f0 := b1.frozen 0
  go_wp2_with fail
  have b1 := b1.set 0 (Value.int IntKind.u8 (c.toNat % 256))
  have b0 := b0.other (w.heap.size + 1) 0 (Value.int IntKind.u8 (c.toNat % 256)) (by omega)
  have hB0 := hB0.setCell (p := ⟨w.heap.size + 1, 0, none⟩) (by simp) (Value.int IntKind.u8 (c.toNat % 256))
  clear c0 f0
  generalize W0.setCell _ _ = W1 at *
  rw [rounds_succ]
  have c0 : W1.cell? ⟨w.heap.size + 1, 1, none⟩ = some (.int .u8 0) := b1.cell 1
  have f0 := b1.frozen 1
  go_wp2_with fail
  have b1 := b1.set 1 (Value.int IntKind.u8 (c.toNat / 256 % 256))
  have b0 := b0.other (w.heap.size + 1) 1 (Value.int IntKind.u8 (c.toNat / 256 % 256)) (by omega)
  have hB0 := hB0.setCell (p := ⟨w.heap.size + 1, 1, none⟩) (by simp) (Value.int IntKind.u8 (c.toNat / 256 % 256))
  clear c0 f0
  generalize W1.setCell _ _ = W2 at *
  rw [rounds_succ]
  have c0 : W2.cell? ⟨w.heap.size + 1, 2, none⟩ = some (.int .u8 0) := b1.cell 2
  have f0 := b1.frozen 2
  go_wp2_with fail
  have b1 := b1.set 2 (Value.int IntKind.u8 (c.toNat / 65536 % 256))
  have b0 := b0.other (w.heap.size + 1) 2 (Value.int IntKind.u8 (c.toNat / 65536 % 256)) (by omega)
  have hB0 := hB0.setCell (p := ⟨w.heap.size + 1, 2, none⟩) (by simp) (Value.int IntKind.u8 (c.toNat / 65536 % 256))
  clear c0 f0
  generalize W2.setCell _ _ = W3 at *
  rw [rounds_succ]
  have c0 : W3.cell? ⟨w.heap.size + 1, 3, none⟩ = some (.int .u8 0) := b1.cell 3
  have f0 := b1.frozen 3
  go_wp2_with fail
  have b1 := b1.set 3 (Value.int IntKind.u8 (c.toNat / 16777216))
  have b0 := b0.other (w.heap.size + 1) 3 (Value.int IntKind.u8 (c.toNat / 16777216)) (by omega)
  have hB0 := hB0.setCell (p := ⟨w.heap.size + 1, 3, none⟩) (by simp) (Value.int IntKind.u8 (c.toNat / 16777216))
  clear c0 f0
  generalize W3.setCell _ _ = W4 at *
  rw [rounds_succ]
  have b1 : Rowed W4 (w.heap.size + 1) 27 #[eB (byteAt c 0), eB (byteAt c 1), eB (byteAt c 2), eB (byteAt c 3)] := by
    have e : ∀ k, Value.int IntKind.u8 ((c.toNat : Int) / (2 ^ (8 * k) : Nat) % 256) = eB (byteAt c k) := by
      intro k
      have h : (byteAt c k).toNat = c.toNat / 2 ^ (8 * k) % 256 := by
        have : c.toNat / 2 ^ (8 * k) % 256 < 256 := Nat.mod_lt _ (by omega)
        simp only [byteAt]
        generalize c.toNat / 2 ^ (8 * k) % 256 = z at *
        simp; omega
      rw [eB, h]
      norm_cast
    have e3 : Value.int IntKind.u8 ((c.toNat : Int) / 16777216) = eB (byteAt c 3) := by
      rw [← e 3]
      have := c.isLt
      congr 1
      omega
    rw [← e 0, ← e 1, ← e 2, ← e3]
    simpa using b1
  have c0 := b1.cell 0
  have c1 := b1.cell 1
  have c2 := b1.cell 2
  have c3 := b1.cell 3
  have d0 := b0.cell 0
  have d1 := b0.cell 1
  have d2 := b0.cell 2
  have d3 := b0.cell 3
  have f0 := b0.frozen 0
  have f1 := b0.frozen 1
  have f2 := b0.frozen 2
  have f3 := b0.frozen 3
  simp only [List.getElem?_toArray, List.getElem?_cons_zero, List.getElem?_cons_succ] at c0 c1 c2 c3 d0 d1 d2 d3
  go_wp2
  clear d0 d1 d2 d3 f0 f1 f2 f3
  have b5 := (((b0.set 0 (eB (byteAt c 0))).set 1 (eB (byteAt c 1))).set 2 (eB (byteAt c 2))).set 3 (eB (byteAt c 3))
  have hB5 := (((hB0.setCell (p := ⟨w.heap.size, 0, none⟩) (Nat.le_refl _) (eB (byteAt c 0))).setCell (p := ⟨w.heap.size, 1, none⟩) (Nat.le_refl _) (eB (byteAt c 1))).setCell (p := ⟨w.heap.size, 2, none⟩) (Nat.le_refl _) (eB (byteAt c 2))).setCell (p := ⟨w.heap.size, 3, none⟩) (Nat.le_refl _) (eB (byteAt c 3))
  simp only [eB] at b5 hB5
  generalize World.setCell _ _ _ = W5 at *
  refine bodyPost_ret (v := .agg #[eB (byteAt c 0), eB (byteAt c 1), eB (byteAt c 2), eB (byteAt c 3)]) ?_ rfl ⟨rfl, hB5⟩
  have c0 := b5.cell 0
  have c1 := b5.cell 1
  have c2 := b5.cell 2
  have c3 := b5.cell 3
  simp at c0 c1 c2 c3
  simp [results, Try.f8, go_sem, c0, c1, c2, c3]
end Go.Proofs.Ytnnhijfgbdhmiaa
