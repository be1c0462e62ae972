/- Contract of helixref12.Pack. -/
import Derived.Test.YtnlndaknljbhcaaDoorDTJZ
import Derived.Test.YtnlndaknljbhcaaDoorSxAaZ
namespace Go.Proofs.YtnlndaknljbhcaaDoor
open Go.RowKit Go.Shelf
attribute [local go_sem] Oper.semAt_some run_store_func

set_option maxRecDepth 100000 in
set_option maxHeartbeats 4000000 in
theorem rPack_no (a b c n : Int) (hbad : rightB a b c n = false) (w : World) :
    Calls Tryd.prog 35 #[v3 a b c, .int .i64 n] w fun e w' => e = .returned (.tuple #[.slice none 0 0, .int .i64 2]) ∧ Below w.heap.size w w' := by
  have hR := fun w => refRight_any a b c n w
  rw [hbad] at hR
  have hr := Rowed.new w 28 (c3 a b c)
  have hA := below_alloc w (.cells (c3 a b c) 28)
  have hcl : (v3 a b c).cells = c3 a b c := rfl
  go_enter Tryd.func35, Tryd.ntmps35
  go_upto_region 1 with fail
  generalize w.alloc (.cells (c3 a b c) 28) = w1 at *
  have hg : w.heap.size < w1.heap.size := hr.lt
  have k0 := hr.cell 0
  have k1 := hr.cell 1
  have k2 := hr.cell 2
  simp at k0 k1 k2
  go_wp2_with (go_at_call 58; refine (hR _).mono ?_; rintro e w' ⟨rfl, hB⟩)
  go_ret2
  exact ⟨rfl, below_trans hA hB⟩
theorem orP (m y k : Nat) (hy : y < 2 ^ k) (hl : 2 ^ k * m + y < 1099511627776) : bits .or .i64 ((2 ^ k * m : Nat) : Int) (y : Int) = ((2 ^ k * m + y : Nat) : Int) := by
  have h1 : (BitVec.ofInt IntKind.i64.bits ((2 ^ k * m : Nat) : Int) ||| BitVec.ofInt IntKind.i64.bits (y : Int)).toNat = 2 ^ k * m + y := by
    rw [BitVec.toNat_or, BitVec.toNat_ofInt, BitVec.toNat_ofInt]
    have e1 : (((2 ^ k * m : Nat) : Int) % ((2 ^ IntKind.i64.bits : Nat) : Int)).toNat = 2 ^ k * m := by
      show (((2 ^ k * m : Nat) : Int) % ((2 ^ 64 : Nat) : Int)).toNat = _
      omega
    have e2 : ((y : Int) % ((2 ^ IntKind.i64.bits : Nat) : Int)).toNat = y := by
      show ((y : Int) % ((2 ^ 64 : Nat) : Int)).toNat = _
      omega
    rw [e1, e2, ← Nat.two_pow_add_eq_or_of_lt (i := k) (b := y) hy m]
  unfold bits
  simp only [h1]
  rw [IntWalk.i64_in _ (by omega)]
/-- The sums' bits as those of one number. -/
theorem bits_app (x y p q : Nat) (hy : y < 2 ^ q) : bitsOf x p ++ bitsOf y q = bitsOf (2 ^ q * x + y) (p + q) := by
  apply List.ext_getElem
  · simp [bitsOf_length]
  · intro i h1 h2
    have hi : i < p + q := by simpa [bitsOf_length] using h2
    have e2 : (bitsOf (2 ^ q * x + y) (p + q))[i] = UInt8.ofNat ((2 ^ q * x + y) / 2 ^ (p + q - 1 - i) % 2) := by simp [bitsOf]
    rw [e2]
    by_cases hip : i < p
    · rw [List.getElem_append_left (by rw [bitsOf_length]; exact hip)]
      have e1 : (bitsOf x p)[i]'(by rw [bitsOf_length]; exact hip) = UInt8.ofNat (x / 2 ^ (p - 1 - i) % 2) := by simp [bitsOf]
      rw [e1, show p + q - 1 - i = q + (p - 1 - i) by omega, Nat.pow_add, ← Nat.div_div_eq_div_mul, Nat.mul_add_div (Nat.two_pow_pos q), Nat.div_eq_of_lt hy, Nat.add_zero]
    · rw [List.getElem_append_right (by rw [bitsOf_length]; omega)]
      have e1 : (bitsOf y q)[i - (bitsOf x p).length]'(by rw [bitsOf_length, bitsOf_length]; omega) = UInt8.ofNat (y / 2 ^ (q - 1 - (i - p)) % 2) := by simp [bitsOf]
      rw [e1, show p + q - 1 - i = q - 1 - (i - p) by omega]
      congr 1
      have hq : 2 ^ q * x = 2 ^ (q - 1 - (i - p)) * (2 * (2 ^ (i - p) * x)) := by
        have : q = (q - 1 - (i - p)) + (1 + (i - p)) := by omega
        conv => lhs; rw [this, Nat.pow_add, Nat.pow_add]
        simp only [Nat.pow_one, Nat.mul_assoc]
      rw [hq, Nat.mul_add_div (Nat.two_pow_pos _), Nat.add_comm, Nat.add_mul_mod_self_left]
theorem pack_number (a b c n : Nat) (h2 : 2 ≤ n) (h1 : n ≤ 1000) (ha : a < n) (hb : b < 4) (hc : c ≤ 6 * n) : packL a b c n = bitsOf (2 ^ wb n * (2 ^ 2 * a + b) + c) (longN n) := by
  have h3 := tb_lt n h2 h1
  have h4 := wb_lt n h2 h1
  rw [packL, bits_app 0 a _ _ (by omega), bits_app _ b _ 2 (by omega), bits_app _ c _ _ (by omega)]
  simp only [Nat.mul_zero, Nat.zero_add]
  rfl
/-- The cells where the last j bits of L are told. -/
def bCells (N L j : Nat) : Array Value := ((List.range L).map fun i => if L ≤ i + j then eB (UInt8.ofNat (N / 2 ^ (L - 1 - i) % 2)) else .int .u8 0).toArray
theorem bCells_size (N L j : Nat) : (bCells N L j).size = L := by simp [bCells]
theorem bCells_get (N L j i : Nat) (h : i < L) : (bCells N L j)[i]? = some (if L ≤ i + j then eB (UInt8.ofNat (N / 2 ^ (L - 1 - i) % 2)) else .int .u8 0) := by
  rw [Array.getElem?_eq_getElem (by rw [bCells_size]; exact h)]
  simp [bCells]
theorem bCells_set (N L j : Nat) (h : j < L) : (bCells N L j).setIfInBounds (L - 1 - j) (eB (UInt8.ofNat (N / 2 ^ j % 2))) = bCells N L (j + 1) := by
  apply Array.ext
  · simp [bCells]
  · intro i h1 h2
    have hi : i < L := by simpa [bCells] using h2
    rw [Array.getElem_setIfInBounds (by simpa [bCells] using hi)]
    simp only [bCells, List.getElem_toArray, List.getElem_map, List.getElem_range]
    by_cases e : L - 1 - j = i
    · rw [if_pos e, if_pos (by omega), show L - 1 - i = j by omega]
    · rw [if_neg e]
      by_cases e2 : L ≤ i + j
      · rw [if_pos e2, if_pos (by omega)]
      · rw [if_neg e2, if_neg (by omega)]
theorem bCells_all (N L : Nat) : bCells N L L = ((bitsOf N L).map eB).toArray := by
  unfold bCells bitsOf
  congr 1
  rw [List.map_map]
  apply List.map_congr_left
  intro i hi
  rw [if_pos (by omega)]
  rfl
set_option maxRecDepth 100000 in
set_option maxHeartbeats 4000000 in
theorem rPack_yes (a b c n : Nat) (h2 : 2 ≤ n) (h1 : n ≤ 1000) (ha : a < n) (hb : b < 4) (hc : c ≤ 6 * n) (hok : rightB a b c n = true) (w : World) :
    Calls Tryd.prog 35 #[v3 a b c, .int .i64 n] w fun e w' => ∃ v, e = .returned (.tuple #[v, .int .i64 0]) ∧ Below w.heap.size w w' ∧ Sl eB w'.heap.size w' v (packL a b c n) := by
  have hR := fun w => refRight_any a b c n w
  rw [hok] at hR
  have hW := fun (m : Nat) w => (callsIn_wide (n := m)).2 (rwide_any (6 * n) (by omega) (by omega) w)
  have hL := fun w => rLong_yes n h2 h1 w
  have hwb : Lib.bitLen (6 * n) = wb n := rfl
  rw [hwb] at hW
  have hcw : c < 2 ^ wb n := Nat.lt_of_le_of_lt hc (wb_lt n h2 h1)
  have hwb13 := wb_le n h1
  have hr := Rowed.new w 28 (c3 a b c)
  have hA := below_alloc w (.cells (c3 a b c) 28)
  have hcl : (v3 a b c).cells = c3 a b c := rfl
  clear hwb
  go_enter Tryd.func35, Tryd.ntmps35
  go_upto_region 1 with fail
  generalize w.alloc (.cells (c3 a b c) 28) = w1 at *
  have hg : w.heap.size < w1.heap.size := hr.lt
  have k0 := hr.cell 0
  have k1 := hr.cell 1
  have k2 := hr.cell 2
  simp at k0 k1 k2
  go_wp2_with fail
  go_at_call 58
  refine (hR _).mono ?_
  rintro e w2 ⟨rfl, hB⟩
  have hr2 := hr.below hB hg
  have hB2 := below_trans hA hB
  clear hr hA hB k0 k1 k2 hR
  have k0 : w2.drew.cell? ⟨w.heap.size, 0, none⟩ = some (.int .i64 a) := hr2.cell 0
  have k1 : w2.drew.cell? ⟨w.heap.size, 1, none⟩ = some (.int .i64 b) := hr2.cell 1
  have k2 : w2.drew.cell? ⟨w.heap.size, 2, none⟩ = some (.int .i64 c) := hr2.cell 2
  go_wp2_with fail
  have HLn := Lib.hid (show longN n = (tb n + 2 + wb n) % 2 + tb n + 2 + wb n from rfl)
  have hpk := Lib.hid (pack_number a b c n h2 h1 ha hb hc)
  have hp8 : 2 ^ wb n ≤ 8192 := (Nat.pow_le_pow_right (by omega) hwb13 : 2 ^ wb n ≤ 2 ^ 13)
  have hLn : longN n ≤ 26 := by have := tb_le n h1; unfold longN zb; omega
  have hL0 : 1 ≤ longN n := by unfold longN; omega
  generalize wb n = u at *
  have hm : 2 ^ u * (4 * a + b) ≤ 8192 * 4003 := Nat.mul_le_mul hp8 (by omega)
  have Q3 : Hid (IntKind.i64.wrap ((a : Int) * 4) = 4 * a) := Lib.hid (by rw [IntWalk.i64_in _ (by omega)]; omega)
  have Q6 : Hid (bits .or .i64 (4 * (a : Int)) b = 4 * a + b) := Lib.hid (by
    have := orP a b 2 (by omega) (by omega)
    simpa using this)
  have Q8 : Hid (IntKind.i64.wrap (6 * (n : Int)) = 6 * n) := Lib.hid (IntWalk.i64_in _ (by omega))
  have Q10 : Hid (IntKind.u64.wrap (u : Int) = u) := Lib.hid (IntWalk.u64_in _ (by omega))
  have Hcast : Hid ((2 : Int) ^ u * (4 * (a : Int) + b) = ((2 ^ u * (4 * a + b) : Nat) : Int)) := Lib.hid (by simp)
  have Q11 : Hid (IntKind.i64.wrap ((4 * (a : Int) + b) * 2 ^ u) = 2 ^ u * (4 * (a : Int) + b)) := Lib.hid (by
    rw [Int.mul_comm, Hcast.out, IntWalk.i64_in _ (by omega)])
  have Q14 : Hid (bits .or .i64 ((2 : Int) ^ u * (4 * (a : Int) + b)) c = 2 ^ u * (4 * (a : Int) + b) + c) := Lib.hid (by
    rw [Hcast.out, orP _ _ _ hcw (by omega)]
    omega)
  have HN0 : Hid (2 ^ u * (2 ^ 2 * a + b) + c ≤ 8192 * 4003 + 6000) := Lib.hid (by
    rw [show 2 ^ 2 * a + b = 4 * a + b by omega]
    omega)
  clear hm hp8 hcw
  have e20 : ((6 * n : Nat) : Int) = 6 * (n : Int) := by omega
  rw [e20] at hW
  clear e20
  refine (wpIn_wide (n := 5)).1 ?_
  refine wpIn_region_det 14 [(13, .pointer (some ⟨w.heap.size, 0, none⟩)), (14, .int .i64 a), (15, .int .i64 (2 ^ 2 * a : Nat)), (16, .pointer (some ⟨w.heap.size, 1, none⟩)), (17, .int .i64 b), (18, .int .i64 (2 ^ 2 * a + b : Nat)), (19, .int .i64 n), (20, .int .i64 (6 * n : Nat)), (21, .int .i64 u), (22, .int .u64 u), (23, .int .i64 (2 ^ u * (2 ^ 2 * a + b) : Nat)), (24, .pointer (some ⟨w.heap.size, 2, none⟩)), (25, .int .i64 c), (26, .int .i64 (2 ^ u * (2 ^ 2 * a + b) + c : Nat))]
    (by kernel_rfl) (by decide) (by kernel_rfl) (by kernel_rfl) (by kernel_rfl) (by kernel_rfl) (by kernel_rfl) ?ok1 ?tail1
  case ok1 =>
    intro A' hA'
    simp only [putAll, Act.put, List.setIfInBounds_toArray, List.set_cons_zero, List.set_cons_succ] at hA'
    subst hA'
    refine ⟨?_, ?_, ?_, ?_, ?_, ?_, ?_, ?_, ?_, ?_, ?_, ?_, ?_, ?_, trivial⟩
    all_goals unfold DetIn
    all_goals go_simp
    · exact Q3.out
    · exact Q6.out
    · exact Q8.out
    · refine ⟨trivial, (hW _ _).mono ?_⟩
      rintro e w' ⟨rfl, rfl⟩
      exact ⟨rfl, rfl⟩
    · exact Q10.out
    · exact Q11.out
    · exact Q14.out
  case tail1 =>
    intro A' hA'
    simp only [putAll, Act.put, List.setIfInBounds_toArray, List.set_cons_zero, List.set_cons_succ] at hA'
    subst hA'
    have hN0 := HN0.out
    clear HN0 Hcast Q3 Q6 Q8 Q10 Q11 Q14
    generalize 2 ^ u * (2 ^ 2 * a + b) + c = N at *
    have hBd : Below w.heap.size w w2.drew := hB2.trans ⟨rfl, rfl, rfl, Nat.le_refl _, fun _ _ => rfl⟩
    generalize w2.drew = w3 at *
    simp only [List.drop_succ_cons, List.drop_zero]
    clear hW k0 k1 k2 hr2 hok hwb13 hB2
    gi_wp2_with fail
    obtain ⟨i0, hi, hz0, hz1, hz2⟩ := info_parts info_u8
    generalize longN n = L at *
    have hmk : ∀ w, (Instr.makeSlice 22 (.int .i64 (L : Int)) (.int .i64 (L : Int))).run Tryd.prog w = .ok (.slice (some ⟨w.heap.size, 0, none⟩) L L) (w.alloc (.cells (bCells N L 0) 5)) := by
      intro w
      have h1 := run_make (P := Tryd.prog) w 22 5 i0 (.int .u8 0) Tryd.underlying22 hi hz0 .i64 .i64 (L : Int) (L : Int) (by omega) (by omega) (by rw [hz2]; omega) (by omega)
      have h2 : madeCells (Value.int .u8 0).cells ((L : Int).toNat * i0.size) = bCells N L 0 := by
        rw [hz1]
        apply Array.ext
        · simp [madeCells, bCells, Value.cells]
        · intro j h1 h2
          have hj : j < L := by simpa [bCells] using h2
          simp [madeCells, bCells, Value.cells, Nat.mod_one]
          omega
      rw [h2] at h1
      simpa using h1
    have hr0 := Rowed.new w3 5 (bCells N L 0)
    have hA3 := hBd.alloc hBd.size (.cells (bCells N L 0) 5)
    have hlw := hBd.size
    have e31 : IntKind.i64.wrap ((L : Int) - 1) = (L : Int) - 1 := IntWalk.i64_in _ (by omega)
    go_wp2_with (go_at_call 45; refine (hL _).mono ?_; rintro e w' ⟨rfl, rfl⟩)
    go_loopw [6, 8] (fun x i wr => ∃ j : Nat, j ≤ L ∧ i = .int .i64 ((L : Int) - 1 - j) ∧ x = .int .i64 ((N / 2 ^ j : Nat) : Int) ∧ Rowed wr w3.heap.size 5 (bCells N L j) ∧ Below w.heap.size w wr) (fun _ i _ => (intOf i + 1).toNat)
    case atStart => exact ⟨0, Nat.zero_le _, by simp, by simp, hr0, hA3⟩
    case round =>
      clear hr0 hA3
      obtain ⟨j, hj, rfl, rfl, hr, hB⟩ := hrel
      by_cases hlt : j < L
      · have hset := hr.set (L - 1 - j) (eB (UInt8.ofNat (N / 2 ^ j % 2)))
        rw [bCells_set N L j hlt] at hset
        have hcell := hr.cell (L - 1 - j)
        rw [bCells_get N L j _ (by omega)] at hcell
        have hfz := hr.frozen (L - 1 - j)
        have hM : N / 2 ^ j ≤ 32798576 := Nat.le_trans (Nat.div_le_self _ _) (by omega)
        have hM2 : N / 2 ^ (j + 1) = N / 2 ^ j / 2 := by rw [Nat.pow_succ, Nat.div_div_eq_div_mul]
        have hb2 : ((UInt8.ofNat (N / 2 ^ j % 2)).toNat : Int) = ((N / 2 ^ j : Nat) : Int) % 2 := by
          simp
          omega
        obtain ⟨p, hp⟩ : ∃ p : Nat, p = L - 1 - j := ⟨_, rfl⟩
        have hpI : (L : Int) - 1 - j = (p : Int) := by omega
        have hpL : (p : Int) < L := by omega
        rw [← hp] at hset hcell hfz
        rw [hpI]
        have Hlt := Lib.hid hlt
        have HM2 := Lib.hid hM2
        have Hp := Lib.hid hp
        have HpI := Lib.hid hpI
        have Hset := Lib.hid hset
        have hand := bits_and1 ((N / 2 ^ j : Nat) : Int)
        clear hset hM2 hlt hj hp hpI
        have hv : eB (UInt8.ofNat (N / 2 ^ j % 2)) = .int .u8 (((N / 2 ^ j : Nat) : Int) % 2) := by rw [eB, hb2]
        rw [hv] at Hset
        clear hv hb2
        generalize N / 2 ^ j = M at *
        go_wp2_with fail
        refine ⟨⟨j + 1, Hlt.out, ?_, ?_, Hset.out, hB.setCell (p := ⟨w3.heap.size, p, none⟩) hlw _⟩, ?_⟩
        · have := HpI.out
          congr 1
          omega
        · rw [HM2.out]
          congr 1
        · have := HpI.out
          simp [intOf]
      · obtain rfl : j = L := by omega
        have ei : (j : Int) - 1 - j = -1 := by omega
        rw [ei]
        have Hr := Lib.hid hr
        clear hr
        go_wp2_with fail
        go_ret2
        refine ⟨_, rfl, hB, ?_⟩
        have hr := Hr.out
        rw [bCells_all] at hr
        rw [hpk.out]
        refine ⟨some ⟨w3.heap.size, 0, none⟩, j, by rw [bitsOf_length]; rfl, by rw [bitsOf_length]; omega, fun _ => ⟨w3.heap.size, 0, rfl, Rowed.lt hr, fun i b hb => ?_⟩⟩
        rw [Nat.zero_add, hr.cell i]
        simp [hb]
end Go.Proofs.YtnlndaknljbhcaaDoor
/- Mathematics for helixref12.Unpack: the sums that bits tell, out of the one number that all of them are. -/
namespace Go.Proofs.YtnlndaknljbhcaaDoor
open Go.RowKit Go.Shelf

theorem numB_app (l : List UInt8) (p q : Nat) : numB l (p + q) = numB l p * 2 ^ q + numB (l.drop p) q := by
  induction q with
  | zero => simp [numB]
  | succ q ih =>
    rw [← Nat.add_assoc, numB, ih, numB, atB_drop, Nat.pow_succ]
    rw [Nat.add_mul, Nat.mul_assoc, Nat.add_assoc]
theorem numB_drop_lt (l : List UInt8) (o k : Nat) (h : ∀ j, j < o + k → (atB l j).toNat ≤ 1) : numB (l.drop o) k < 2 ^ k :=
  numB_lt _ _ fun j hj => by rw [atB_drop]; exact h _ (by omega)
/-- Where the number of bits is right and each is 0 or 1, the sums that they tell are those of the whole number. -/
theorem unG_ref (l : List UInt8) (n : Nat) (h2 : 2 ≤ n) (h1 : n ≤ 1000) (hl : l.length = longN n) (hb : ∀ k, k < l.length → (atB l k).toNat ≤ 1) :
    unG l n = if rightB (numB l (longN n) / 2 ^ (wb n + 2) : Nat) (numB l (longN n) / 2 ^ wb n % 4 : Nat) (numB l (longN n) % 2 ^ wb n : Nat) n = true then
      some (numB l (longN n) / 2 ^ (wb n + 2), numB l (longN n) / 2 ^ wb n % 4, numB l (longN n) % 2 ^ wb n) else none := by
  have hL : longN n = zb n + tb n + 2 + wb n := rfl
  have hm : mayB n = true := by unfold mayB; rw [decide_eq_true (by omega), decide_eq_true (by omega)]; rfl
  have ht := tb_lt n h2 h1
  have e1 : numB l (longN n) = numB l (zb n + tb n + 2) * 2 ^ wb n + numB (l.drop (zb n + tb n + 2)) (wb n) := by rw [hL, numB_app]
  have e2 : numB l (zb n + tb n + 2) = numB l (zb n + tb n) * 2 ^ 2 + numB (l.drop (zb n + tb n)) 2 := numB_app _ _ _
  have e3 : numB l (zb n + tb n) = numB l (zb n) * 2 ^ tb n + numB (l.drop (zb n)) (tb n) := numB_app _ _ _
  have r1 := numB_drop_lt l (zb n + tb n + 2) (wb n) (fun j hj => hb j (by omega))
  have r2 := numB_drop_lt l (zb n + tb n) 2 (fun j hj => hb j (by omega))
  have r3 := numB_drop_lt l (zb n) (tb n) (fun j hj => hb j (by omega))
  have c1 : numB l (longN n) % 2 ^ wb n = numB (l.drop (zb n + tb n + 2)) (wb n) := by
    rw [e1, Nat.mul_comm, Nat.mul_add_mod, Nat.mod_eq_of_lt r1]
  have c2 : numB l (longN n) / 2 ^ wb n = numB l (zb n + tb n + 2) := by
    rw [e1, Nat.mul_comm, Nat.mul_add_div (Nat.two_pow_pos _), Nat.div_eq_of_lt r1, Nat.add_zero]
  have c3 : numB l (longN n) / 2 ^ (wb n + 2) = numB l (zb n + tb n) := by
    rw [Nat.pow_add, ← Nat.div_div_eq_div_mul, c2, e2]
    omega
  have c4 : numB l (zb n + tb n + 2) % 4 = numB (l.drop (zb n + tb n)) 2 := by
    rw [e2]
    omega
  rw [c3, c2, c1, c4]
  unfold unG
  simp only [Int.toNat_natCast]
  by_cases hz : numB l (zb n) = 0
  · have e4 : numB l (zb n + tb n) = numB (l.drop (zb n)) (tb n) := by rw [e3, hz, Nat.zero_mul, Nat.zero_add]
    rw [e4]
    by_cases hr : rightB (numB (l.drop (zb n)) (tb n)) (numB (l.drop (zb n + tb n)) 2) (numB (l.drop (zb n + tb n + 2)) (wb n)) n = true
    · rw [if_pos hr, if_pos ⟨hm, hl, hb, hz, hr⟩]
    · rw [if_neg hr, if_neg (fun h => hr h.2.2.2.2)]
  · rw [if_neg (fun h => hz h.2.2.2.1), if_neg]
    intro hr
    obtain ⟨a', b', c', n', ea, -, -, en, -, -, hlt, -⟩ := rightB_nat hr
    have hp : 2 ^ tb n ≤ numB l (zb n) * 2 ^ tb n := Nat.le_mul_of_pos_left _ (by omega)
    omega
end Go.Proofs.YtnlndaknljbhcaaDoor
