import Derived.Test.YtcngnjkpnmpcpaaDoorCIZ
import Derived.Test.YtcngnjkpnmpcpaaDoorClBZ
import Derived.Test.YtcngnjkpnmpcpaaDoorNsEZ
import Derived.Test.YtcngnjkpnmpcpaaDoorPaAZ
namespace Go.Proofs.YtcngnjkpnmpcpaaDoor
open Go.RowKit Go.Shelf
attribute [local go_sem] Oper.semAt_some
theorem code_four {c : UInt8} (h : codeOf c.toNat ≠ -1) : c = 65 ∨ c = 67 ∨ c = 71 ∨ c = 84 := by
 have e : ∀ k : UInt8, c.toNat = k.toNat → c = k := fun k h => UInt8.toNat_inj.1 h
 unfold codeOf at h
 by_cases h1 : c.toNat = 65
 · exact .inl (e 65 h1)
 · by_cases h2 : c.toNat = 67
   · exact .inr (.inl (e 67 h2))
   · by_cases h3 : c.toNat = 71
     · exact .inr (.inr (.inl (e 71 h3)))
     · by_cases h4 : c.toNat = 84
       · exact .inr (.inr (.inr (e 84 h4)))
       · rw [if_neg h1, if_neg h2, if_neg h3, if_neg h4] at h
         exact absurd rfl h
theorem code_none {c : UInt8} (h : codeOf c.toNat = -1) : c ≠ 65 ∧ c ≠ 67 ∧ c ≠ 71 ∧ c ≠ 84 := by
 refine ⟨?_, ?_, ?_, ?_⟩ <;> (rintro rfl; revert h; decide)
theorem byte_ne {a k : UInt8} (h : a ≠ k) : ((k.toNat : Int) == (a.toNat : Int)) = false := by
 rw [beq_eq_false_iff_ne]
 intro e
 exact h (UInt8.toNat_inj.1 (by omega))
set_option maxRecDepth 100000 in
set_option maxHeartbeats 2000000 in
theorem refCode_any (c : UInt8) (w : World) :
    Calls Tryd.prog 59 #[eB c] w fun e w' => e = .returned (.tuple #[.int .i64 (if codeOf c.toNat = -1 then 0 else codeOf c.toNat), .int .i64 (if codeOf c.toNat = -1 then 10 else 0)]) ∧ w = w' := by
  have i0 : ∀ w, (Instr.index 9 (.string ⟨#[65, 67, 71, 84]⟩) (.int .i64 0)).run Tryd.prog w = .ok (.int .u8 65) w := fun _ => by kernel_rfl
  have i1 : ∀ w, (Instr.index 9 (.string ⟨#[65, 67, 71, 84]⟩) (.int .i64 1)).run Tryd.prog w = .ok (.int .u8 67) w := fun _ => by kernel_rfl
  have i2 : ∀ w, (Instr.index 9 (.string ⟨#[65, 67, 71, 84]⟩) (.int .i64 2)).run Tryd.prog w = .ok (.int .u8 71) w := fun _ => by kernel_rfl
  have i3 : ∀ w, (Instr.index 9 (.string ⟨#[65, 67, 71, 84]⟩) (.int .i64 3)).run Tryd.prog w = .ok (.int .u8 84) w := fun _ => by kernel_rfl
  by_cases h : codeOf c.toNat = -1
  · rw [if_pos h, if_pos h]
    obtain ⟨h0, h1, h2, h3⟩ := code_none h
    have g0 : ((65 : Int) == (c.toNat : Int)) = false := byte_ne h0
    have g1 : ((67 : Int) == (c.toNat : Int)) = false := byte_ne h1
    have g2 : ((71 : Int) == (c.toNat : Int)) = false := byte_ne h2
    have g3 : ((84 : Int) == (c.toNat : Int)) = false := byte_ne h3
    clear h h0 h1 h2 h3
    go_enter Tryd.func59, Tryd.ntmps59
    go_wp2
    refine wp_loop_rounds 5 ?_
    rw [rounds_succ]
    go_wp2
    rw [rounds_succ]
    go_wp2
    rw [rounds_succ]
    go_wp2
    rw [rounds_succ]
    go_wp2
    rw [rounds_succ]
    go_wp2
    go_ret2
    exact ⟨rfl, rfl⟩
  · rcases code_four h with rfl | rfl | rfl | rfl
    all_goals
     clear h
     go_enter Tryd.func59, Tryd.ntmps59
     go_wp2
     refine wp_loop_rounds 5 ?_
     rw [rounds_succ]
     go_wp2
    · go_ret2
      exact ⟨rfl, rfl⟩
    · rw [rounds_succ]
      go_wp2
      go_ret2
      exact ⟨rfl, rfl⟩
    · rw [rounds_succ]
      go_wp2
      rw [rounds_succ]
      go_wp2
      go_ret2
      exact ⟨rfl, rfl⟩
    · rw [rounds_succ]
      go_wp2
      rw [rounds_succ]
      go_wp2
      rw [rounds_succ]
      go_wp2
      go_ret2
      exact ⟨rfl, rfl⟩
theorem letter_mod (x : Int) : (wrap64 (x.tmod 4 + 4)).tmod 4 = x % 4 := by
 have e : x.tmod 4 = x % 4 ∨ x.tmod 4 = x % 4 - 4 := by
  rw [Int.tmod_eq_emod]
  split <;> simp
 have hw : wrap64 (x.tmod 4 + 4) = x.tmod 4 + 4 := by
  unfold wrap64
  omega
 rw [hw, Int.tmod_eq_emod_of_nonneg (by omega)]
 omega
theorem run_acgt0 (n : Int) (w : World) : (Instr.index 9 (.string ⟨#[65, 67, 71, 84]⟩) (.int .i64 (n % 4))).run Tryd.prog w = .ok (eB (letterOf n)) w := by
 have hn : n % 4 = 0 ∨ n % 4 = 1 ∨ n % 4 = 2 ∨ n % 4 = 3 := by omega
 rcases hn with e | e | e | e
 · have k : (Instr.index 9 (.string ⟨#[65, 67, 71, 84]⟩) (.int .i64 0)).run Tryd.prog w = .ok (.int .u8 65) w := by kernel_rfl
   rw [e, show letterOf n = 65 by simp [letterOf, e]]
   exact k
 · have k : (Instr.index 9 (.string ⟨#[65, 67, 71, 84]⟩) (.int .i64 1)).run Tryd.prog w = .ok (.int .u8 67) w := by kernel_rfl
   rw [e, show letterOf n = 67 by simp [letterOf, e]]
   exact k
 · have k : (Instr.index 9 (.string ⟨#[65, 67, 71, 84]⟩) (.int .i64 2)).run Tryd.prog w = .ok (.int .u8 71) w := by kernel_rfl
   rw [e, show letterOf n = 71 by simp [letterOf, e]]
   exact k
 · have k : (Instr.index 9 (.string ⟨#[65, 67, 71, 84]⟩) (.int .i64 3)).run Tryd.prog w = .ok (.int .u8 84) w := by kernel_rfl
   rw [e, show letterOf n = 84 by simp [letterOf, e]]
   exact k
set_option maxRecDepth 100000 in
set_option maxHeartbeats 2000000 in
theorem rLetter_any (k : Int) (w : World) :
    Calls Tryd.prog 52 #[.int .i64 k] w fun e w' => e = .returned (eB (letterOf k)) ∧ w = w' := by
  have hm := letter_mod k
  have hidx := run_acgt0 k
  have h0 : 0 ≤ k % 4 := by omega
  have h4 : k % 4 < 4 := by omega
  go_enter Tryd.func52, Tryd.ntmps52
  go_wp2
  go_ret
  exact ⟨rfl, rfl⟩
theorem codesOf_snoc (bs : List UInt8) (k : Nat) (h : k < bs.length) : codesOf (bs.take (k + 1)) = codesOf (bs.take k) ++ [codeOf bs[k].toNat] := by
 unfold codesOf
 rw [List.take_succ_eq_append_getElem h, List.map_append]
 rfl
theorem int_cell (w : World) (t : TypeId) (v : Value) : ∀ j u, ([v] : List Value)[j]? = some u → (w.alloc (.cells #[v] t)).cell? ((⟨w.heap.size, 0, none⟩ : Addr).add j) = some u := cell_one_new w t v
set_option maxRecDepth 100000 in
set_option maxHeartbeats 2000000 in
theorem rCodes_any (sv : Value) (bs : List UInt8) (hreach : bs.length ≤ 100000) (w : World) (hS : Sl eB w.heap.size w sv bs) :
    Calls Tryd.prog 47 #[sv] w fun e w' => Below w.heap.size w w' ∧ (((-1 : Int) ∉ codesOf bs ∧ ∃ v, e = .returned (.tuple #[v, .int .i64 0]) ∧ Sl eI w'.heap.size w' v (codesOf bs)) ∨ ((-1 : Int) ∈ codesOf bs ∧ e = .returned (.tuple #[.slice none 0 0, .int .i64 10]))) := by
  obtain ⟨i0, hi, hz0, hz1, hz2⟩ := info_parts info_i64
  obtain ⟨A, c, rfl, -, hcs⟩ := id hS
  have HN := Lib.hid hreach
  have HC := Lib.hid hcs
  have HS := Lib.hid (codesOf_snoc bs)
  have HE := Lib.hid (show codesOf (bs.take bs.length) = codesOf bs from by rw [List.take_length])
  have HB := Lib.hid (show ∀ k (h : k < bs.length), codeOf bs[k].toNat = -1 → (-1 : Int) ∈ codesOf bs from fun k h e => by
   rw [← e]
   exact List.mem_map.2 ⟨bs[k], List.getElem_mem h, rfl⟩)
  have HL := Lib.hid (show ∀ k, k ≤ bs.length → (codesOf (bs.take k)).length = k from fun k hk => by unfold codesOf; rw [List.length_map, List.length_take]; omega)
  clear hcs hS hreach
  go_enter Tryd.func47, Tryd.ntmps47
  go_wp2_with fail
  go_loopw [4, 5] (fun t i wr => ∃ k : Nat, k ≤ bs.length ∧ i = .int .i64 k ∧ (-1 : Int) ∉ codesOf (bs.take k) ∧ wr.ownsRow w.heap.size 3 1 t k ((codesOf (bs.take k)).map eI) ∧ Below w.heap.size w wr) (fun _ i _ => bs.length - (RowKit.intOf i).toNat)
  case atStart => exact ⟨0, Nat.zero_le _, rfl, by simp [codesOf], World.ownsRow_nil _ _ _ _, Below.refl _ _⟩
  case round =>
   obtain ⟨k, hk, rfl, hno, hrow, hB⟩ := hrel
   by_cases hlt : k < bs.length
   · obtain ⟨b, off, rfl, hb, hcell⟩ := HC.out (by omega)
     have hcx := (hB.cell (p := ⟨b, off + k, none⟩) hb).trans (hcell k bs[k] (List.getElem?_eq_getElem hlt))
     have hcd := refCode_any bs[k] wr
     have Hst := Lib.hid (HS.out k hlt)
     have Hbd := Lib.hid (HB.out k hlt)
     have hkl : (k : Int) < bs.length := by omega
     have Hk := Lib.hid hlt
     have hk9 : k ≤ 100000 := by have := HN.out; omega
     have Hno := Lib.hid hno
     generalize bs[k] = x at *
     clear hcell hlt hno
     by_cases hx : codeOf x.toNat = -1
     · rw [if_pos hx, if_pos hx] at hcd
       have Hy := Lib.hid (Hbd.out hx)
       clear Hst Hbd hx Hno
       go_wp2_with fail
       go_at_call 59
       refine hcd.mono ?_
       rintro e w2 ⟨rfl, rfl⟩
       clear hcd
       go_wp2_with fail
       go_ret2
       exact ⟨hB, .inr ⟨Hy.out, rfl⟩⟩
     · rw [if_neg hx, if_neg hx] at hcd
       have Hn2 := Lib.hid (show (-1 : Int) ∉ codesOf (bs.take (k + 1)) from by
        rw [Hst.out, List.mem_append]
        rintro (h | h)
        · exact Hno.out h
        · exact hx (List.mem_singleton.1 h).symm)
       clear Hbd hx Hno
       generalize codeOf x.toNat = z at *
       go_wp2_with fail
       go_at_call 59
       refine hcd.mono ?_
       rintro e w2 ⟨rfl, rfl⟩
       clear hcd
       go_wp2_with (at_builtin; refine wpList_append_own _ rfl _ _ 65 rfl w.heap.size 3 i0 _ 1 8 Tryd.underlying65 hi hz0 hz1 hz2 (by decide) (by decide) _ _ _ rfl (hrow.alloc _) ⟨wr.heap.size, 0, none⟩ 1 1 [.int .i64 z] rfl rfl (int_cell _ _ _) (by simp [Value.oneCell']) (by unfold maxLen; omega) (by omega) (by have := hB.size; simp; omega) ?_; intro v' w3 hown' hgrow _)
       have hB' : Below w.heap.size w w3 := (hB.alloc hB.size _).trans ((Below.refl w.heap.size (wr.alloc _)).grown hgrow (by have := hB.size; simp; omega) (fun q hq => ((hrow.alloc (.cells #[.int .i64 z] 3)).lt q hq).1))
       go_roundw
       case rel => exact ⟨k + 1, Hk.out, by go_num, Hn2.out, by rw [Hst.out, List.map_append]; exact hown', hB'⟩
       case measure => have := Hk.out; simp [RowKit.intOf]; omega
   · obtain rfl : k = bs.length := by omega
     rw [HE.out] at hrow hno
     have hl := HL.out bs.length (Nat.le_refl _)
     rw [HE.out] at hl
     have HLL := Lib.hid hl
     clear hl
     go_wp2_with fail
     go_ret2
     exact ⟨hB, .inl ⟨hno, _, rfl, Sl.of_own (n := bs.length) hrow⟩⟩
set_option maxRecDepth 100000 in
set_option maxHeartbeats 2000000 in
theorem rText_any (sv : Value) (l : List Int) (hreach : l.length ≤ 100000) (w : World) (hS : Sl eI w.heap.size w sv l) :
    Calls Tryd.prog 48 #[sv] w fun e w' => ∃ v, e = .returned v ∧ w'.ownsRow w.heap.size 5 1 v l.length ((l.map letterOf).map eB) ∧ Below w.heap.size w w' := by
  obtain ⟨i0, hi, hz0, hz1, hz2⟩ := info_parts info_u8
  obtain ⟨A, c, rfl, -, hcs⟩ := id hS
  have HN := Lib.hid hreach
  have HC := Lib.hid hcs
  have HS := Lib.hid (show ∀ k (h : k < l.length), (l.take (k + 1)).map letterOf = (l.take k).map letterOf ++ [letterOf l[k]] from fun k h => by rw [List.take_succ_eq_append_getElem h, List.map_append]; rfl)
  have HE := Lib.hid (show (l.take l.length).map letterOf = l.map letterOf from by rw [List.take_length])
  clear hcs hS hreach
  go_enter Tryd.func48, Tryd.ntmps48
  go_wp2_with fail
  go_loopw [3, 4] (fun t i wr => ∃ k : Nat, k ≤ l.length ∧ i = .int .i64 k ∧ wr.ownsRow w.heap.size 5 1 t k (((l.take k).map letterOf).map eB) ∧ Below w.heap.size w wr) (fun _ i _ => l.length - (RowKit.intOf i).toNat)
  case atStart => exact ⟨0, Nat.zero_le _, rfl, World.ownsRow_nil _ _ _ _, Below.refl _ _⟩
  case round =>
   obtain ⟨k, hk, rfl, hrow, hB⟩ := hrel
   by_cases hlt : k < l.length
   · obtain ⟨b, off, rfl, hb, hcell⟩ := HC.out (by omega)
     have hcx := (hB.cell (p := ⟨b, off + k, none⟩) hb).trans (hcell k l[k] (List.getElem?_eq_getElem hlt))
     have hcd := rLetter_any l[k] wr
     have Hst := Lib.hid (HS.out k hlt)
     have hkl : (k : Int) < l.length := by omega
     have Hk := Lib.hid hlt
     have hk9 : k ≤ 100000 := by have := HN.out; omega
     generalize letterOf l[k] = y at *
     generalize l[k] = x at *
     clear hcell hlt
     unfold eI at hcx
     go_wp2_with (first
      | (go_at_call 52
         refine hcd.mono ?_
         rintro e w2 ⟨rfl, rfl⟩)
      | (at_builtin; refine wpList_append_own _ rfl _ _ 39 rfl w.heap.size 5 i0 _ 1 1 Tryd.underlying39 hi hz0 hz1 hz2 (by decide) (by decide) _ _ _ rfl (hrow.alloc _) ⟨wr.heap.size, 0, none⟩ 1 1 [eB y] rfl rfl (int_cell _ _ _) (by simp [Value.oneCell']) (by unfold maxLen; omega) (by omega) (by have := hB.size; simp; omega) ?_; intro v' w3 hown' hgrow _))
     have hB' : Below w.heap.size w w3 := (hB.alloc hB.size _).trans ((Below.refl w.heap.size (wr.alloc _)).grown hgrow (by have := hB.size; simp; omega) (fun q hq => ((hrow.alloc (.cells #[eB y] 5)).lt q hq).1))
     go_roundw
     case rel => exact ⟨k + 1, Hk.out, by go_num, by rw [Hst.out, List.map_append]; exact hown', hB'⟩
     case measure => have := Hk.out; simp [RowKit.intOf]; omega
   · obtain rfl : k = l.length := by omega
     rw [HE.out] at hrow
     go_wp2_with fail
     go_ret
     exact ⟨_, rfl, hrow, hB⟩
theorem own_low {X : World} {base base' : Nat} {e : TypeId} {size k : Nat} {v : Value} {xs : List Value} (h : X.ownsRow base e size v k xs) (hb : base' ≤ base) : X.ownsRow base' e size v k xs := by
 refine ⟨h.1, ?_⟩
 rcases h.2 with ⟨h1, h2⟩ | ⟨g', cap', cur, h1, h2, h3, h4⟩
 · exact .inl ⟨h1, h2⟩
 · exact .inr ⟨_, _, cur, h1, Nat.le_trans hb h2, h3, h4⟩
def backC (l : List Int) (k : Nat) : List Int := (List.range k).map fun j => 3 - (l[l.length - 1 - j]?).getD 0
theorem backC_succ (l : List Int) (k : Nat) : backC l (k + 1) = backC l k ++ [3 - (l[l.length - 1 - k]?).getD 0] := by
 unfold backC
 rw [List.range_succ, List.map_append, List.map_singleton]
theorem backC_len (l : List Int) (k : Nat) : (backC l k).length = k := by simp [backC]
theorem backC_all (l : List Int) : backC l l.length = l.reverse.map fun z => 3 - z := by
 refine List.ext_getElem? fun i => ?_
 by_cases hi : i < l.length
 · unfold backC
   rw [List.getElem?_map, List.getElem?_map, List.getElem?_range hi, List.getElem?_reverse hi]
   show some (3 - (l[l.length - 1 - i]?).getD 0) = _
   rw [List.getElem?_eq_getElem (show l.length - 1 - i < l.length by omega)]
   rfl
 · rw [List.getElem?_eq_none (by rw [backC_len]; omega), List.getElem?_eq_none (by simp; omega)]
set_option maxRecDepth 100000 in
set_option maxHeartbeats 2000000 in
theorem rRc_any (sv : Value) (bs : List UInt8) (hreach : bs.length ≤ 100000) (w : World) (hS : Sl eB w.heap.size w sv bs) :
    Calls Tryd.prog 26 #[sv] w fun e w' => Below w.heap.size w w' ∧ (((-1 : Int) ∉ codesOf bs ∧ ∃ v, e = .returned (.tuple #[v, .int .i64 0]) ∧ w'.ownsRow w.heap.size 5 1 v (rcOf bs).length ((rcOf bs).map eB)) ∨ ((-1 : Int) ∈ codesOf bs ∧ e = .returned (.tuple #[.slice none 0 0, .int .i64 10]))) := by
  obtain ⟨i0, hi, hz0, hz1, hz2⟩ := info_parts info_i64
  have hC := rCodes_any sv bs hreach w hS
  obtain ⟨A, c, rfl⟩ := hS.len
  have hcl : (codesOf bs).length = bs.length := by simp [codesOf]
  have HR := Lib.hid (show ∀ z ∈ codesOf bs, -1 ≤ z ∧ z ≤ 3 from fun z hz => by
   obtain ⟨b, -, rfl⟩ := List.mem_map.1 hz
   exact codeOf_range _)
  have HRC := Lib.hid (show rcOf bs = ((codesOf bs).reverse.map fun z => 3 - z).map letterOf from by unfold rcOf; rw [List.map_map]; rfl)
  clear hS
  go_enter Tryd.func26, Tryd.ntmps26
  go_wp2_with fail
  go_at_call 47
  refine hC.mono ?_
  rintro e w1 ⟨hB1, ⟨hno, v1, rfl, hv1⟩ | ⟨hin, rfl⟩⟩
  · clear hC
    generalize hl : codesOf bs = l at *
    have hll : l.length ≤ 100000 := by omega
    have Hno := Lib.hid hno
    have HLE := Lib.hid hl
    obtain ⟨A1, c1, rfl, -, hcs⟩ := id hv1
    have HC := Lib.hid hcs
    have HS := Lib.hid (backC_succ l)
    have HA := Lib.hid (backC_all l)
    have HBL := Lib.hid (backC_len l)
    have HN := Lib.hid hll
    clear hl hcl hno hv1 hcs
    go_wp2_with fail
    go_loopw [6, 7] (fun t i wr => ∃ k : Nat, k ≤ l.length ∧ i = .int .i64 ((l.length : Int) - 1 - k) ∧ wr.ownsRow w1.heap.size 3 1 t k ((backC l k).map eI) ∧ Below w1.heap.size w1 wr) (fun _ i _ => (RowKit.intOf i + 1).toNat)
    case atStart => exact ⟨0, Nat.zero_le _, by simp, World.ownsRow_nil _ _ _ _, Below.refl _ _⟩
    case round =>
     obtain ⟨k, hk, rfl, hrow, hB⟩ := hrel
     by_cases hlt : k < l.length
     · obtain ⟨b, off, rfl, hb, hcell⟩ := HC.out (by omega)
       have hq : l.length - 1 - k < l.length := by omega
       have hcx := (hB.cell (p := ⟨b, off + (l.length - 1 - k), none⟩) hb).trans (hcell _ l[l.length - 1 - k] (List.getElem?_eq_getElem hq))
       have hst := HS.out k
       rw [List.getElem?_eq_getElem hq, Option.getD_some] at hst
       obtain ⟨hz1', hz2'⟩ := HR.out _ (List.getElem_mem hq)
       have hv : (l.length : Int) - 1 - k = ((l.length - 1 - k : Nat) : Int) := by omega
       have Hst := Lib.hid hst
       have Hk := Lib.hid hlt
       have hk9 : k ≤ 100000 := by have := HN.out; omega
       have HV := Lib.hid hv
       rw [hv]
       have hqi : ((l.length - 1 - k : Nat) : Int) < (l.length : Int) := by omega
       have hq0 : 0 ≤ ((l.length - 1 - k : Nat) : Int) := by omega
       have hq9 : ((l.length - 1 - k : Nat) : Int) ≤ 100000 := by omega
       generalize l[l.length - 1 - k] = z at *
       generalize l.length - 1 - k = q at *
       clear hcell hlt hst hv hq
       unfold eI at hcx
       have hw3 : wrap64 (3 - z) = 3 - z := IntWalk.wrap64_in _ (by omega)
       go_wp2_with (at_builtin; refine wpList_append_own _ rfl _ _ 65 rfl w1.heap.size 3 i0 _ 1 8 Tryd.underlying65 hi hz0 hz1 hz2 (by decide) (by decide) _ _ _ rfl (hrow.alloc _) ⟨wr.heap.size, 0, none⟩ 1 1 [.int .i64 (3 - z)] rfl rfl (int_cell _ _ _) (by simp [Value.oneCell']) (by unfold maxLen; omega) (by omega) (by have := hB.size; simp; omega) ?_; intro v' w3 hown' hgrow _)
       have hB' : Below w1.heap.size w1 w3 := (hB.alloc hB.size _).trans ((Below.refl w1.heap.size (wr.alloc _)).grown hgrow (by have := hB.size; simp; omega) (fun q hq => ((hrow.alloc (.cells #[.int .i64 (3 - z)] 3)).lt q hq).1))
       clear hw3
       go_roundw
       case rel => exact ⟨k + 1, Hk.out, by have := HV.out; congr 1; omega, by rw [Hst.out, List.map_append]; exact hown', hB'⟩
       case measure => have := Hk.out; have := HV.out; simp [RowKit.intOf] <;> omega
     · obtain rfl : k = l.length := by omega
       obtain ⟨v, hv, hv0⟩ : ∃ v : Int, (l.length : Int) - 1 - l.length = v ∧ v < 0 := ⟨_, rfl, by omega⟩
       have hv1 : ¬ 0 ≤ v := by omega
       rw [hv]
       rw [HA.out] at hrow
       have hsl := Sl.of_own (n := l.length) hrow
       have hT := rText_any u6 _ (by rw [List.length_map, List.length_reverse]; exact hll) wr hsl
       have hBw := below_trans hB1 hB
       clear hlt hk hv hrow hsl
       have hsz := hBw.size
       go_wp2_with fail
       go_at_call 48
       refine hT.mono ?_
       rintro e w3 ⟨v3, rfl, hr3, hB3⟩
       clear hT
       go_wp2_with fail
       go_ret2
       exact ⟨below_trans hBw hB3, .inl ⟨by rw [HLE.out]; exact Hno.out, _, rfl, by rw [HRC.out, List.length_map]; exact own_low hr3 hsz⟩⟩
  · clear hC hcl
    go_wp2_with fail
    go_ret2
    exact ⟨hB1, .inr ⟨hin, rfl⟩⟩
end Go.Proofs.YtcngnjkpnmpcpaaDoor
