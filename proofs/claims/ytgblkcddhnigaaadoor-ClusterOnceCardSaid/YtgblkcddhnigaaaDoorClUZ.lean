import Derived.Test.YtgblkcddhnigaaaDoorClYZ
import Derived.Test.YtgblkcddhnigaaaDoorGCZ
import Derived.Test.YtgblkcddhnigaaaDoorGqCZ
import Derived.Test.YtgblkcddhnigaaaDoorNsJZ
import Derived.Test.YtgblkcddhnigaaaDoorRcBZ
namespace Go.Proofs.YtgblkcddhnigaaaDoor
open Go.RowKit Go.Shelf
attribute [local go_sem] Oper.semAt_some run_store_func
def okB (b : List UInt8) : Bool := decide ((-1 : Int) ∉ codesOf b ∧ 0 < b.length)
theorem op_append_sl {P : Program} {α : Type} {enc : α → Value} (w : World) {o : Oper} {a : Act} {Q : Act → World → Prop} {QH : Exit → Act → World → Prop} (s x : Operand) (t : TypeId)
    (ho : o.op = .call { callee := .builtin .append, args := #[s, x], argTypes := #[t, t] })
    (base : Nat) (e : TypeId) (i : TypeInfo) (z : Value) (bytes : Nat) (ht : P.underlying t = some (.slice e)) (hi : P.info? e = some i) (hz : i.zero = some z)
    (hsize : i.size = 1) (hby : i.bytes = bytes) (hzs : z.cells.size = 1) (v : Value) (n : Nat) (ys : List Value) (hown : w.ownsRow base e 1 v n ys) (hv : a.eval s = v)
    (B : Nat) (sv : Value) (xs : List α) (hs : Sl enc B w sv xs) (hx : a.eval x = sv) (h1 : ∀ x, (enc x).oneCell' = true)
    (h63 : n + xs.length ≤ maxLen) (hbytes : (n + xs.length) * bytes ≤ 140737488355328) (hbase : base ≤ w.heap.size)
    (h : ∀ v' w', w'.ownsRow base e 1 v' (n + xs.length) (ys ++ xs.map enc) → w.grownBy w' v.ownBlock → Q (a.put o.dst v') w') : o.wp P a w Q QH := by
 obtain ⟨v', w', hrun, r1, r2, r3⟩ := run_append_sl (P := P) w base t o.type e i z bytes ht hi hz hsize hby hzs v n ys hown B sv xs hs h1 h63 hbytes hbase
 unfold Oper.wp execOp
 simp only [ho, resolve, invoke, builtin, Sem.run_bind, Sem.run_pure, Result.andThen_ok, List.map_toArray, List.map_cons, List.map_nil, hv, hx, hrun]
 exact h v' w' r1 r2
theorem drew_bel (B : Nat) (w : World) : Below B w w.drew := ⟨rfl, rfl, rfl, Nat.le_refl _, fun _ _ => rfl⟩
theorem drewN_bel (B : Nat) (w : World) (n : Nat) : Below B w (w.drewN n) := ⟨rfl, rfl, rfl, Nat.le_refl _, fun _ _ => rfl⟩
theorem row_madeR (w : World) : (w.alloc (.cells #[] 34)).ownsRow w.heap.size 34 1 (.slice (some ⟨w.heap.size, 0, none⟩) 0 0) 0 [] :=
 ⟨rfl, .inr ⟨w.heap.size, 0, #[], rfl, Nat.le_refl _, World.alloc_heap_new _ _, Nat.le_refl _, by unfold maxLen; omega, rfl, rfl⟩⟩
theorem below_al (w : World) (o : Obj) : Below w.heap.size w (w.alloc o) := (Below.refl w.heap.size w).alloc (Nat.le_refl _) o
end Go.Proofs.YtgblkcddhnigaaaDoor
namespace Go.Proofs.YtgblkcddhnigaaaDoor
open Go.RowKit Go.Shelf
attribute [local go_sem] Oper.semAt_some run_store_func
set_option maxRecDepth 100000 in
set_option maxHeartbeats 2000000 in
theorem rValid_any (sv : Value) (bs : List UInt8) (hreach : bs.length ≤ 100000) (w : World) (hS : Sl eB w.heap.size w sv bs) :
    Calls Tryd.prog 40 #[sv] w fun e w' => e = .returned (.bool (decide ((-1 : Int) ∉ codesOf bs))) ∧ w = w' := by
  obtain ⟨A, c, rfl, -, hcs⟩ := id hS
  have HN := Lib.hid hreach
  have HC := Lib.hid hcs
  have HS := Lib.hid (codesOf_snoc bs)
  have HE := Lib.hid (show codesOf (bs.take bs.length) = codesOf bs from by rw [List.take_length])
  have HB := Lib.hid (show ∀ k (h : k < bs.length), codeOf bs[k].toNat = -1 → (-1 : Int) ∈ codesOf bs from fun k h e => by
   rw [← e]
   exact List.mem_map.2 ⟨bs[k], List.getElem_mem h, rfl⟩)
  obtain ⟨r, hr⟩ : ∃ r : Bool, Hid (decide ((-1 : Int) ∉ codesOf bs) = r) := ⟨_, Lib.hid rfl⟩
  rw [hr.out]
  clear hcs hS hreach
  go_enter Tryd.func40, Tryd.ntmps40
  go_wp2_with fail
  go_loopw [3] (fun i wr => ∃ k : Nat, k ≤ bs.length ∧ i = .int .i64 k ∧ (-1 : Int) ∉ codesOf (bs.take k) ∧ w = wr) (fun i _ => bs.length - (RowKit.intOf i).toNat)
  case atStart => exact ⟨0, Nat.zero_le _, rfl, by simp [codesOf], rfl⟩
  case round =>
   obtain ⟨k, hk, rfl, hno, rfl⟩ := hrel
   by_cases hlt : k < bs.length
   · obtain ⟨b, off, rfl, hb, hcell⟩ := HC.out (by omega)
     have hcx := hcell k bs[k] (List.getElem?_eq_getElem hlt)
     have hcd := refCode_any bs[k] w
     have Hst := Lib.hid (HS.out k hlt)
     have Hbd := Lib.hid (HB.out k hlt)
     have hkl : (k : Int) < bs.length := by omega
     have Hk := Lib.hid hlt
     have hk9 : k ≤ 100000 := by have := HN.out; omega
     have Hno := Lib.hid hno
     generalize bs[k] = x at *
     clear hcell hlt hno
     by_cases hx : codeOf x.toNat = -1
     · rw [if_pos hx, if_pos hx] at hcd
       have Hy := Lib.hid (Hbd.out hx)
       clear Hst Hbd hx Hno
       go_wp2_with fail
       go_at_call 27
       refine hcd.mono ?_
       rintro e w2 ⟨rfl, rfl⟩
       clear hcd
       go_wp2_with fail
       go_ret
       refine ⟨?_, rfl⟩
       rw [← hr.out, decide_eq_false (fun h => h Hy.out)]
       rfl
     · rw [if_neg hx, if_neg hx] at hcd
       have Hn2 := Lib.hid (show (-1 : Int) ∉ codesOf (bs.take (k + 1)) from by
        rw [Hst.out, List.mem_append]
        rintro (h | h)
        · exact Hno.out h
        · exact hx (List.mem_singleton.1 h).symm)
       clear Hbd hx Hno
       generalize codeOf x.toNat = z at *
       go_wp2_with fail
       go_at_call 27
       refine hcd.mono ?_
       rintro e w2 ⟨rfl, rfl⟩
       clear hcd
       go_wp2_with fail
       go_roundw
       case rel => exact ⟨k + 1, Hk.out, by go_num, Hn2.out, trivial⟩
       case measure => have := Hk.out; simp [RowKit.intOf]; omega
   · obtain rfl : k = bs.length := by omega
     rw [HE.out] at hno
     have Hno := Lib.hid hno
     clear hno
     go_wp2_with fail
     go_ret
     refine ⟨?_, rfl⟩
     rw [← hr.out, decide_eq_true Hno.out]
     rfl
set_option maxRecDepth 100000 in
set_option maxHeartbeats 2000000 in
theorem rclean_any (sv : Value) (bs : List UInt8) (hreach : bs.length ≤ 100000) (w : World) (hS : Sl eB w.heap.size w sv bs) :
    Calls Tryd.prog 30 #[sv] w fun e w' => e = .returned (.bool (cleanB bs)) ∧ w = w' := by
  have hv := rValid_any sv bs hreach w hS
  obtain ⟨A, c, rfl, -, hcs⟩ := id hS
  clear hS hcs
  by_cases h1 : 1 ≤ bs.length
  · have h1' : (1 : Int) ≤ (bs.length : Int) := by omega
    by_cases h2 : bs.length ≤ 1000
    · have h2' : (bs.length : Int) ≤ 1000 := by omega
      have hc : decide ((-1 : Int) ∉ codesOf bs) = cleanB bs := decide_eq_decide.2 ⟨fun h => ⟨h1, h2, h⟩, fun h => h.2.2⟩
      rw [hc] at hv
      generalize cleanB bs = r at *
      go_enter Tryd.func30, Tryd.ntmps30
      go_wp2_with fail
      go_at_call 40
      refine hv.mono ?_
      rintro e w2 ⟨rfl, rfl⟩
      go_wp2_with fail
      go_ret
      exact ⟨rfl, rfl⟩
    · have h2' : ¬ (bs.length : Int) ≤ 1000 := by omega
      have hc : cleanB bs = false := decide_eq_false fun h => h2 h.2.1
      rw [hc]
      go_enter Tryd.func30, Tryd.ntmps30
      go_wp2_with fail
      go_ret
      exact ⟨rfl, rfl⟩
  · have h1' : ¬ (1 : Int) ≤ (bs.length : Int) := by omega
    have hc : cleanB bs = false := decide_eq_false fun h => h1 h.1
    rw [hc]
    go_enter Tryd.func30, Tryd.ntmps30
    go_wp2_with fail
    go_ret
    exact ⟨rfl, rfl⟩
theorem less_dec (a b : List UInt8) : Op.bytesLess a b = decide (Lib.compareBytes a b < 0) := by
 by_cases h : Lib.compareBytes a b < 0
 · rw [decide_eq_true h]; exact (less_iff a b).2 h
 · rw [decide_eq_false h]; exact bool_no fun e => h ((less_iff a b).1 e)
set_option maxRecDepth 100000 in
set_option maxHeartbeats 2000000 in
theorem rLeast_any (sv : Value) (bs : List UInt8) (hreach : bs.length ≤ 100000) (w : World) (hS : Sl eB w.heap.size w sv bs) :
    Calls Tryd.prog 33 #[sv] w fun e w' => ∃ v, Below w.heap.size w w' ∧ e = .returned (.tuple #[v, .bool (leastOf bs).2]) ∧ w'.ownsRow w.heap.size 5 1 v (leastOf bs).1.length ((leastOf bs).1.map eB) := by
  have hrc := rRc_any sv bs hreach w hS
  obtain ⟨i1, hi', hz0', hz1', hz2'⟩ := info_parts info_u8
  obtain ⟨A, c, rfl, -, hcs⟩ := id hS
  clear hcs
  have HLS := Lib.hid (less_dec (rcOf bs) bs)
  go_enter Tryd.func33, Tryd.ntmps33
  go_wp2_with fail
  go_at_call 23
  refine hrc.mono ?_
  rintro e w1 ⟨hB, ⟨hno, v1, rfl, hown⟩ | ⟨hin, rfl⟩⟩
  · have hS1 := hS.next hB
    have hSv := Sl.of_own hown
    have k2 := run_str (P := Tryd.prog) hS1 34 9 5 Tryd.underlying34 Tryd.underlying5 Tryd.underlying9
    have k1 := run_str (P := Tryd.prog) hSv 34 9 5 Tryd.underlying34 Tryd.underlying5 Tryd.underlying9
    obtain ⟨A1, c1, rfl⟩ := hSv.len
    by_cases hlt : Lib.compareBytes (rcOf bs) bs < 0
    · have hL := Lib.hid (show leastOf bs = (rcOf bs, true) by simp [leastOf, hno, hlt])
      have hd := HLS.out.trans (decide_eq_true hlt)
      have HO := Lib.hid hown
      clear hno hlt hrc hown hSv HLS
      go_wp2_with fail
      go_ret2
      exact ⟨_, hB, by rw [hL.out]; rfl, by rw [hL.out]; exact HO.out⟩
    · have hL := Lib.hid (show leastOf bs = (bs, false) by simp [leastOf, hno, hlt])
      have hd := HLS.out.trans (decide_eq_false hlt)
      have HO := Lib.hid hown
      clear hno hlt hrc hown hSv HLS
      have hrw := row_made w1
      have hA1 := below_al w1 (.cells #[] 5)
      go_wp2_with (at_builtin
                   refine wpList_append_sl _ rfl (.tmp 21) (.tmp 22) _ rfl w1.heap.size 5 i1 (.int .u8 0) 1 Tryd.underlying34 hi' hz0' hz1' hz2' rfl _ 0 [] hrw rfl w1.heap.size _ bs (hS1.below hA1) rfl (fun _ => rfl) (by unfold maxLen; omega) (by omega) (by simp) ?_
                   intro va w3 hown1 hg1 hat1
                   have hA2 : Below w1.heap.size w1 w3 := hA1.trans (below_grown hrw hg1 (by simp) (Nat.le_refl _))
                   rw [Nat.zero_add, List.nil_append] at hown1
                   obtain ⟨A3, c3, rfl⟩ : ∃ A c, va = .slice A bs.length c := (Sl.of_own hown1).len
                   have HO3 := Lib.hid hown1
                   clear hown1)
      go_ret2
      exact ⟨_, below_trans hB hA2, by rw [hL.out]; rfl, by rw [hL.out]; exact ownsRow_base HO3.out hB.size⟩
  · have hS1 := hS.next hB
    have hL := Lib.hid (show leastOf bs = (bs, false) by simp [leastOf, hin])
    clear hin hrc HLS
    have hrw := row_made w1
    have hA1 := below_al w1 (.cells #[] 5)
    go_wp2_with (at_builtin
                 refine wpList_append_sl _ rfl (.tmp 21) (.tmp 22) _ rfl w1.heap.size 5 i1 (.int .u8 0) 1 Tryd.underlying34 hi' hz0' hz1' hz2' rfl _ 0 [] hrw rfl w1.heap.size _ bs (hS1.below hA1) rfl (fun _ => rfl) (by unfold maxLen; omega) (by omega) (by simp) ?_
                 intro va w3 hown1 hg1 hat1
                 have hA2 : Below w1.heap.size w1 w3 := hA1.trans (below_grown hrw hg1 (by simp) (Nat.le_refl _))
                 rw [Nat.zero_add, List.nil_append] at hown1
                 obtain ⟨A3, c3, rfl⟩ : ∃ A c, va = .slice A bs.length c := (Sl.of_own hown1).len
                 have HO3 := Lib.hid hown1
                 clear hown1)
    go_ret2
    exact ⟨_, below_trans hB hA2, by rw [hL.out]; rfl, by rw [hL.out]; exact ownsRow_base HO3.out hB.size⟩
end Go.Proofs.YtgblkcddhnigaaaDoor
