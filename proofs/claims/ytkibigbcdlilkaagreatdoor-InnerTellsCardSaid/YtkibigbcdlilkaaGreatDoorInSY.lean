import Derived.BigQuiet
import Derived.Test.YtkibigbcdlilkaaGreatDoorEdXY
import Derived.Test.YtkibigbcdlilkaaGreatDoorTgGY
namespace Go.Proofs.YtkibigbcdlilkaaGreatDoor
open Go.RowKit Go.Shelf
attribute [local go_sem] Oper.semAt_some run_store_func
set_option maxRecDepth 100000 in
set_option maxHeartbeats 4000000 in
theorem RApply_other (sv : Value) (s : List UInt8) (k : Int) (hk : k ≠ 1 ∧ k ≠ 2 ∧ k ≠ 3) (z : Int) (b : UInt8) (h0 : 0 < s.length) (hl : s.length ≤ 1000) (w : World) (hS : Sl eB w.heap.size w sv s) :
    Calls Tryz.prog 18 #[sv, eD k z b] w fun e w' => ∃ v, e = .returned v ∧ Sl eB w'.heap.size w' v s ∧ Below w.heap.size w w' := by
  obtain ⟨i0, hi, hz0, hz1, hz2⟩ := info_parts info_u8
  obtain ⟨A, c, rfl⟩ := hS.len
  have e1 : (k == 1) = false := by simpa using hk.1
  have e2 : (k == 2) = false := by simpa using hk.2.1
  have e3 : (k == 3) = false := by simpa using hk.2.2
  clear hk
  have hcl : (eD k z b).cells = cD k z b := rfl
  have hr := Rowed.new w 28 (cD k z b)
  have hA := below_alloc w (.cells (cD k z b) 28)
  have hS0 := hS.below hA
  have hlt := hr.lt
  have hne0 : ((s.length : Int) == 0) = false := by rw [beq_eq_false_iff_ne]; omega
  have Hl := Lib.hid hl
  clear hl h0
  go_enter Tryz.func18, Tryz.ntmps18
  go_upto_region 1 with fail
  generalize w.alloc (.cells (cD k z b) 28) = w0 at *
  have hrow := row_made w0
  have hA1 := hA.alloc hA.size (.cells #[] 5)
  have hS1 : Sl eB w.heap.size (w0.alloc (.cells #[] 5)) (.slice A s.length c) s := hS0.below ((Below.refl _ w0).alloc hA.size _)
  have hr1 := hr.alloc (.cells #[] 5)
  have hlt1 := hr1.lt
  go_wp2_with
    (at_builtin
     refine wpList_append_sl _ rfl (.tmp 8) (.tmp 9) _ rfl w0.heap.size 5 i0 (.int .u8 0) 1 Tryz.underlying22 hi hz0 hz1 hz2 rfl _ 0 [] hrow rfl w.heap.size _ s hS1 rfl (fun _ => rfl) (by have := Hl.out; unfold maxLen; omega) (by have := Hl.out; omega) (by simp) ?_
     intro v1 w1 hown1 hg1 hat1
     have hr2 : Rowed w1 w.heap.size 28 (cD k z b) := (hg1.block _ hlt1 (by simp [Value.ownBlock]; omega)).trans hr1
     have k0 := hr2.cell 0
     have k1 := hr2.cell 1)
  go_ret
  exact ⟨_, rfl, Sl.of_own (n := s.length) (by simpa using hown1), hA1.trans (below_grown hrow hg1 hA1.size (by have := hA.size; omega))⟩
theorem RApply_any (sv : Value) (s : List UInt8) (k : UInt8) (z : Int) (b : UInt8) (h0 : 0 < s.length) (hl : s.length ≤ 1000) (w : World) (hS : Sl eB w.heap.size w sv s) :
    Calls Tryz.prog 18 #[sv, Ed.eE k z b] w fun e w' => ∃ v, e = .returned v ∧ Sl eB w'.heap.size w' v (Ed.apG s k z b) ∧ Below w.heap.size w w' := by
  have hx : ¬ s.length = 0 := by omega
  rcases Ed.u8_cases k with rfl | rfl | rfl | rfl | ⟨h4, n1, n2, n3⟩
  · have e : Ed.apG s 0 z b = s := by unfold Ed.apG; rw [if_neg (by decide), if_neg (by decide), if_neg (by decide)]
    rw [e]
    exact RApply_other sv s 0 ⟨by decide, by decide, by decide⟩ z b h0 hl w hS
  · obtain ⟨hp, hat⟩ := Ed.pl_is z s.length h0 (by omega)
    have e : Ed.apG s 1 z b = delW s (Ed.plG z s.length) := by unfold Ed.apG; rw [if_pos rfl, if_neg hx]; rfl
    rw [e]
    exact Apply_gap sv s z b _ h0 hl hp hat w hS
  · obtain ⟨hp, hat⟩ := Ed.pl_is z (s.length + 1) (by omega) (by omega)
    have e : Ed.apG s 2 z b = insW s (Ed.plG z (s.length + 1)) b := by unfold Ed.apG; rw [if_neg (by decide), if_pos rfl]; unfold insW; rw [List.append_assoc]; rfl
    rw [e]
    exact Apply_more sv s z b _ h0 hl (by omega) hat w hS
  · obtain ⟨hp, hat⟩ := Ed.pl_is z s.length h0 (by omega)
    have e : Ed.apG s 3 z b = s.set (Ed.plG z s.length) b := by
     unfold Ed.apG; rw [if_neg (by decide), if_neg (by decide), if_pos rfl, if_neg hx, List.set_eq_take_append_cons_drop, if_pos hp]
    rw [e]
    exact Apply_swap sv s z b _ h0 hl hp hat w hS
  · have e : Ed.apG s k z b = s := by unfold Ed.apG; rw [if_neg n1, if_neg n2, if_neg n3]
    rw [e]
    exact RApply_other sv s k.toNat ⟨by omega, by omega, by omega⟩ z b h0 hl w hS
end Go.Proofs.YtkibigbcdlilkaaGreatDoor
namespace Go.Proofs.YtkibigbcdlilkaaGreatDoor
open Go.RowKit Go.Shelf
attribute [local go_sem] Oper.semAt_some run_store_func
def RowX (B : Nat) (W : World) (v : Value) (l : List Ed.Edt) : Prop := W.ownsRow B 28 3 v l.length (Ed.flatG l)
theorem RowX.alloc {B : Nat} {W : World} {v : Value} {l : List Ed.Edt} (h : RowX B W v l) (o : Obj) : RowX B (W.alloc o) v l := World.ownsRow.alloc h o
theorem RowX.cast {B : Nat} {W : World} {v : Value} {l m : List Ed.Edt} (h : RowX B W v l) (e : l = m) : RowX B W v m := e ▸ h
theorem below_grownX {B : Nat} {W W1 : World} {v : Value} {base : Nat} {n : Nat} {xs : List Value} (hown : W.ownsRow base 28 3 v n xs) (hg : W.grownBy W1 v.ownBlock) (hB : B ≤ W.heap.size) (hb : B ≤ base) : Below B W W1 :=
 (Below.refl B W).grown hg hB fun k hk => Nat.le_trans hb (hown.lt k hk).1
theorem run_acgtX (k : Nat) (hk : k < 4) (w : World) : (Instr.index 9 (.string ⟨#[65, 67, 71, 84]⟩) (.int .i64 k)).run Tryz.prog w = .ok (eB (Ed.lettE k)) w := by
 rcases (show k = 0 ∨ k = 1 ∨ k = 2 ∨ k = 3 by omega) with rfl | rfl | rfl | rfl
 · have h : (Instr.index 9 (.string ⟨#[65, 67, 71, 84]⟩) (.int .i64 0)).run Tryz.prog w = .ok (.int .u8 65) w := by kernel_rfl
   exact h
 · have h : (Instr.index 9 (.string ⟨#[65, 67, 71, 84]⟩) (.int .i64 1)).run Tryz.prog w = .ok (.int .u8 67) w := by kernel_rfl
   exact h
 · have h : (Instr.index 9 (.string ⟨#[65, 67, 71, 84]⟩) (.int .i64 2)).run Tryz.prog w = .ok (.int .u8 71) w := by kernel_rfl
   exact h
 · have h : (Instr.index 9 (.string ⟨#[65, 67, 71, 84]⟩) (.int .i64 3)).run Tryz.prog w = .ok (.int .u8 84) w := by kernel_rfl
   exact h
theorem row_firstX (w : World) : RowX w.heap.size (w.alloc (.cells #[.int .u8 0, .int .i64 0, .int .u8 0] 28)) (.slice (some ⟨w.heap.size, 0, none⟩) 1 1) [⟨0, 0, 0⟩] :=
 ⟨rfl, .inr ⟨w.heap.size, 1, #[.int .u8 0, .int .i64 0, .int .u8 0], rfl, Nat.le_refl _, Rowed.new w 28 _, Nat.le_refl _, by unfold maxLen; decide, rfl, rfl⟩⟩
theorem wpList_pushX {ops : Array Oper} {rest : List Oper} {o : Oper} {a : Act} {w : World} {Q : Exit → Act → World → Prop} (hgd : o.guard = none) (s x : Operand)
    (ho : o.op = .call { callee := .builtin .append, args := #[s, x], argTypes := #[40, 40] }) (v : Value) (B g : Nat) (l : List Ed.Edt) (d : Ed.Edt) (hrow : RowX B w v l) (hm : l.length ≤ 10000)
    (hs : a.eval s = v) (hx : a.eval x = .slice (some ⟨g, 0, none⟩) 1 1) (hnews : ∀ j u, ([eB d.k, .int .i64 d.z, eB d.b] : List Value)[j]? = some u → w.cell? ((⟨g, 0, none⟩ : Addr).add j) = some u) (hB : B ≤ w.heap.size)
    (h : ∀ v' w', RowX B w' v' (l ++ [d]) → Below B w w' → wpList Tryz.prog ops Q rest (a.put o.dst v') w') : wpList Tryz.prog ops Q (o :: rest) a w := by
 obtain ⟨i0, hi, hz0, hz1, hz2⟩ := info_parts Ed.info_edt
 refine wpList_append_own w hgd s x 40 ho B 28 i0 _ 3 24 Tryz.underlying40 hi hz0 hz1 hz2 (by decide) (by decide) v l.length (Ed.flatG l) hs hrow ⟨g, 0, none⟩ 1 1 _ hx rfl hnews (by simp [Value.oneCell']) (by unfold maxLen; omega) (by omega) hB ?_
 intro v' w' hown hg _
 refine h v' w' ?_ (below_grownX hrow hg hB (Nat.le_refl _))
 show w'.ownsRow B 28 3 v' (l ++ [d]).length (Ed.flatG (l ++ [d]))
 rw [Ed.flatG_snoc, List.length_append]
 exact hown
theorem preA_len (s : List UInt8) (k : Nat) (hl : s.length ≤ 1000) (h : k ≤ s.length) : (Ed.preA s k).length ≤ 9999 := by
 have h1 := (Ed.preA_all s k h).length_le
 have h2 := Ed.edG_len s
 omega
theorem preB_len (s : List UInt8) (k j : Nat) (hl : s.length ≤ 1000) (h : k < s.length) (hj : j ≤ 4) : (Ed.preB s k j).length ≤ 9999 := by
 have h1 := (Ed.preB_all s k j h hj).length_le
 have h2 := Ed.edG_len s
 omega
theorem preD_len (s : List UInt8) (k j : Nat) (hl : s.length ≤ 1000) (h : k ≤ s.length) (hj : j ≤ 4) : (Ed.preD s k j).length ≤ 9999 := by
 have h1 := (Ed.preD_all s k j h hj).length_le
 have h2 := Ed.edG_len s
 omega
theorem getD_atB (s : List UInt8) (k : Nat) : s.getD k 0 = atB s k := by rw [List.getD_eq_getElem?_getD]; rfl
theorem u8_neqX {a k : UInt8} (h : a ≠ k) : ((a.toNat : Int) != (k.toNat : Int)) = true := by
 rw [bne_iff_ne]
 intro e
 exact h (UInt8.toNat_inj.1 (by omega))
set_option maxRecDepth 100000 in
set_option maxHeartbeats 4000000 in
theorem REdits_any (sv : Value) (s : List UInt8) (hl : s.length ≤ 1000) (w : World) (hS : Sl eB w.heap.size w sv s) :
    Calls Tryz.prog 19 #[sv] w fun e w' => ∃ v, e = .returned v ∧ RowX w.heap.size w' v (Ed.edG s) ∧ Below w.heap.size w w' := by
  obtain ⟨A, cap, rfl⟩ := hS.len
  have hidx := fun (k : Nat) (hk : k < 4) w => run_acgtX k hk w
  have hbd0 : ∀ w, (Instr.build 28 #[]).run Tryz.prog w = .ok (.agg #[.int .u8 0, .int .i64 0, .int .u8 0]) w := fun _ => by kernel_rfl
  have hbd1 : ∀ (z : Int) w, (Instr.build 28 #[(0, .int .u8 1), (1, .int .i64 z)]).run Tryz.prog w = .ok (eD 1 z 0) w := fun _ _ => by kernel_rfl
  have hbd2 : ∀ (z : Int) (b : UInt8) w, (Instr.build 28 #[(0, .int .u8 2), (1, .int .i64 z), (2, eB b)]).run Tryz.prog w = .ok (eD 2 z b) w := fun _ _ _ => by kernel_rfl
  have hbd3 : ∀ (z : Int) (b : UInt8) w, (Instr.build 28 #[(0, .int .u8 3), (1, .int .i64 z), (2, eB b)]).run Tryz.prog w = .ok (eD 3 z b) w := fun _ _ _ => by kernel_rfl
  have Hl := Lib.hid hl
  clear hl
  go_enter Tryz.func19, Tryz.ntmps19
  go_wp2_with fail
  go_loopw [4, 5] (fun v i wr => ∃ k : Nat, k ≤ s.length ∧ i = .int .i64 k ∧ RowX w.heap.size wr v (Ed.preA s k) ∧ Below w.heap.size w wr) (fun _ i _ => s.length - (intOf i).toNat)
  case atStart =>
   refine ⟨0, Nat.zero_le _, rfl, ?_, below_alloc w _⟩
   exact row_firstX w
  case round =>
   obtain ⟨k, hk, rfl, hrow, hB⟩ := hrel
   by_cases hlt : k < s.length
   · have hcx : ∀ W, Below w.heap.size w W → ∃ bk off, A = some ⟨bk, off, none⟩ ∧ W.cell? ⟨bk, off + k, none⟩ = some (eB (atB s k)) := by
       intro W hW
       obtain ⟨A', c', e, hc, hcs⟩ := hS
       injection e with e1 e2 e3
       subst e1 e3
       obtain ⟨bk, off, e4, hb, hcell⟩ := hcs (by omega)
       exact ⟨bk, off, e4, (hW.cell (p := ⟨bk, off + k, none⟩) hb).trans (hcell k _ (atB_lt hlt))⟩
     have Hlt := Lib.hid hlt
     have hk20 : k ≤ 1000 := by have := Hl.out; omega
     go_wp2_with (at_builtin; refine wpList_pushX rfl _ _ rfl _ w.heap.size wr.heap.size _ ⟨1, k, 0⟩ (hrow.alloc _) (by have := preA_len s k Hl.out hk; omega) rfl rfl (Ed.cells_edt _ _ _ _) (by have := hB.size; simp; omega) ?_; intro v1 w1 hr1 hB1)
     have hB2 := (hB.alloc hB.size _).trans hB1
     have hr1 := hr1.cast (Ed.preB_zero s k).symm
     clear hrow hB1
     go_loopw [4, 6] (fun v i wr => ∃ j : Nat, j ≤ 4 ∧ i = .int .i64 j ∧ RowX w.heap.size wr v (Ed.preB s k j) ∧ Below w.heap.size w wr) (fun _ i _ => 4 - (intOf i).toNat)
     case atStart => exact ⟨0, by omega, rfl, hr1, hB2⟩
     case round =>
      obtain ⟨j, hj, rfl, hrow, hB⟩ := hrel
      by_cases hj4 : j < 4
      · have hix := fun W => hidx j hj4 W
        clear hidx
        obtain ⟨bk, off, rfl, hcell⟩ := hcx _ hB
        clear hcx hS
        have hkl : (k : Int) < s.length := by omega
        by_cases hne : atB s k = Ed.lettE j
        · have hq : (((atB s k).toNat : Int) != ((Ed.lettE j).toNat : Int)) = false := by rw [hne]; simp
          have hr2 := hrow.cast (Ed.preB_same s k j (by rw [getD_atB, hne]; simp)).symm
          clear hne hrow
          have Hr := Lib.hid hr2
          clear hr2
          generalize hcc : atB s k = c at *
          generalize hdd : Ed.lettE j = d at *
          clear hcc hdd
          go_wp2_with fail
          go_quiet (fail)
          have hrd : RowX w.heap.size (wr.drewN nq) u4 (Ed.preB s k (j + 1)) := Hr.out
          have hBd : Below w.heap.size w (wr.drewN nq) := hB.trans ⟨rfl, rfl, rfl, Nat.le_refl _, fun _ _ => rfl⟩
          clear Hr hB
          generalize wr.drewN nq = wd at *
          go_wp2_with fail
          go_roundw
          case rel => exact ⟨j + 1, by omega, by go_num, hrd, hBd⟩
          case measure => simp [intOf]; omega
        · have hq : (((atB s k).toNat : Int) != ((Ed.lettE j).toNat : Int)) = true := u8_neqX hne
          have He := Lib.hid (Ed.preB_succ s k j (by rw [getD_atB, bne_iff_ne]; exact fun e => hne e.symm))
          clear hne
          have Hr := Lib.hid hrow
          clear hrow
          generalize hcc : atB s k = c at *
          generalize hdd : Ed.lettE j = d at *
          clear hcc hdd
          go_wp2_with fail
          go_quiet (fail)
          have hrd : RowX w.heap.size (wr.drewN nq) u4 (Ed.preB s k j) := Hr.out
          have hBd : Below w.heap.size w (wr.drewN nq) := hB.trans ⟨rfl, rfl, rfl, Nat.le_refl _, fun _ _ => rfl⟩
          clear Hr hB
          generalize wr.drewN nq = wd at *
          go_wp2_with (at_builtin; refine wpList_pushX rfl _ _ rfl _ w.heap.size wd.heap.size _ ⟨3, k, d⟩ (hrd.alloc _) (by have := preB_len s k j Hl.out Hlt.out hj; omega) rfl rfl (Ed.cells_edt _ _ _ _) (by have := hBd.size; simp; omega) ?_; intro v1 w1 hr1 hB1)
          have hB2 := (hBd.alloc hBd.size _).trans hB1
          go_roundw
          case rel => exact ⟨j + 1, by omega, by go_num, hr1.cast He.out.symm, hB2⟩
          case measure => simp [intOf]; omega
      · obtain rfl : j = 4 := by omega
        have hrow := hrow.cast (Ed.preB_four s k)
        go_wp2_with fail
        go_roundw
        case rel => exact ⟨k + 1, by omega, by go_num, hrow, hB⟩
        case measure => simp [intOf]; omega
   · obtain rfl : k = s.length := by omega
     have hrow := hrow.cast (Ed.preC_zero s).symm
     go_wp2_with fail
     go_loopw [4, 7] (fun v i wr => ∃ k : Nat, k ≤ s.length + 1 ∧ i = .int .i64 k ∧ RowX w.heap.size wr v (Ed.preC s k) ∧ Below w.heap.size w wr) (fun _ i _ => s.length + 1 - (intOf i).toNat)
     case atStart => exact ⟨0, Nat.zero_le _, rfl, hrow, hB⟩
     case round =>
      obtain ⟨k, hk, rfl, hrow, hB⟩ := hrel
      by_cases hlt : k ≤ s.length
      · have hkl : (k : Int) ≤ s.length := by omega
        have Hlt := Lib.hid hlt
        have hk20 : k ≤ 1000 := by have := Hl.out; omega
        have hrow := hrow.cast (Ed.preD_zero s k).symm
        go_wp2_with fail
        go_loopw [4, 8] (fun v i wr => ∃ j : Nat, j ≤ 4 ∧ i = .int .i64 j ∧ RowX w.heap.size wr v (Ed.preD s k j) ∧ Below w.heap.size w wr) (fun _ i _ => 4 - (intOf i).toNat)
        case atStart => exact ⟨0, by omega, rfl, hrow, hB⟩
        case round =>
         obtain ⟨j, hj, rfl, hrow, hB⟩ := hrel
         by_cases hj4 : j < 4
         · have hix := fun W => hidx j hj4 W
           have He := Lib.hid (Ed.preD_succ s k j)
           clear hidx
           generalize hdd : Ed.lettE j = d at *
           clear hdd
           go_wp2_with (at_builtin; refine wpList_pushX rfl _ _ rfl _ w.heap.size wr.heap.size _ ⟨2, k, d⟩ (hrow.alloc _) (by have := preD_len s k j Hl.out Hlt.out hj; omega) rfl rfl (Ed.cells_edt _ _ _ _) (by have := hB.size; simp; omega) ?_; intro v1 w1 hr1 hB1)
           have hB2 := (hB.alloc hB.size _).trans hB1
           go_roundw
           case rel => exact ⟨j + 1, by omega, by go_num, hr1.cast He.out.symm, hB2⟩
           case measure => simp [intOf]; omega
         · obtain rfl : j = 4 := by omega
           have hrow := hrow.cast (Ed.preD_four s k)
           go_wp2_with fail
           go_roundw
           case rel => exact ⟨k + 1, by omega, by go_num, hrow, hB⟩
           case measure => simp [intOf]; omega
      · obtain rfl : k = s.length + 1 := by omega
        have hrow := hrow.cast (Ed.edG_is s).symm
        go_wp2_with fail
        go_ret
        exact ⟨_, rfl, hrow, hB⟩
end Go.Proofs.YtkibigbcdlilkaaGreatDoor
