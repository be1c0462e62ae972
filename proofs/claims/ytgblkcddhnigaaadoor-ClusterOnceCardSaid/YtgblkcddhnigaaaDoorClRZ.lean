import Derived.Laws.NewBlocks
import Derived.Test.YtgblkcddhnigaaaDoorNsFZ
import Derived.Test.YtgblkcddhnigaaaDoorNsHZ
namespace Go.Proofs.YtgblkcddhnigaaaDoor
open Go.RowKit Go.Shelf
attribute [local go_sem] Oper.semAt_some
theorem own_ofRow {B base : Nat} {W : World} {v : Value} {n : Nat} {bs : List UInt8} (h : W.ownsRow base 5 1 v n (bs.map eB)) (hb : B ≤ base) : OwnB B W v bs :=
 ⟨Sl.of_own h, fun g hg => ⟨Nat.le_trans hb (h.lt g hg).1, (h.lt g hg).2⟩⟩
set_option maxRecDepth 100000 in
set_option maxHeartbeats 2000000 in
theorem Rc_own (sv : Value) (bs : List UInt8) (hreach : bs.length ≤ 17592186044416) (w : World) (hS : Sl eB w.heap.size w sv bs) (hT : Tab w) :
    Calls Tryd.prog 41 #[sv] w fun e W' => ∃ v, Below w.heap.size w W' ∧
      ((e = .returned (.tuple #[v, .int .i64 0]) ∧ (-1 : Int) ∉ codesOf bs ∧ OwnB w.heap.size W' v (rcOf bs)) ∨
       (e = .returned (.tuple #[.slice none 0 0, .int .i64 10]) ∧ (-1 : Int) ∈ codesOf bs)) := by
  refine (callsIn_wide (n := 5)).1 ?_
  obtain ⟨i0, hi, hz0, hz1, hz2⟩ := info_parts info_u8
  obtain ⟨A, cap, rfl⟩ := hS.len
  refine callsIn_of_wp_marks Tryd.func41 rfl trivial ?_ rfl
  simp only [Tryd.ntmps41, List.size_toArray, List.length_cons, List.length_nil, Nat.reduceAdd, Nat.reduceSub, Array.replicate_succ, Array.replicate_zero, List.push_toArray, List.append_toArray, List.nil_append, List.cons_append]
  gi_wp2_with fail
  refine ⟨trivial, ?_⟩
  gi_at_call 50
  refine (callsIn_wide.2 (Codes_any _ bs (by omega) _ hS hT)).mono ?_
  rintro e w1 ⟨v1, hB1, ⟨rfl, hnot, hv1⟩ | ⟨rfl, hin⟩⟩
  · have hcl : (codesOf bs).length = bs.length := by simp [codesOf]
    obtain ⟨A1, cap1, rfl⟩ := hv1.len
    generalize hzs : codesOf bs = zs at *
    have Hzs := Lib.hid hzs
    have hcl' : zs.length ≤ 17592186044416 := by omega
    clear hzs hcl
    obtain ⟨C, hCs, hmk⟩ : ∃ C : Array Value, C.size = zs.length ∧ ∀ w, (Instr.makeSlice 34 (.int .i64 0) (.int .i64 (zs.length : Int))).run Tryd.prog w = .ok (.slice (some ⟨w.heap.size, 0, none⟩) 0 zs.length) (w.alloc (.cells C 5)) := by
     refine ⟨madeCells (Value.cells (.int .u8 0)) (zs.length * i0.size), by simp [madeCells, hz1, Value.cells], fun w => ?_⟩
     have := run_make w 34 5 i0 (.int .u8 0) Tryd.underlying34 hi hz0 .i64 .i64 0 (zs.length : Int) (by omega) (by omega) (by rw [hz2]; omega) (by omega)
     simpa using this
    have hT1 : Tab w1 := hT.below hB1
    gi_wp2_with (refine ⟨trivial, ?_⟩; gi_at_call 51; refine (callsIn_wide.2 (Backward_any _ _ _ _)).mono ?_; rintro e w' ⟨rfl, rfl⟩)
    obtain ⟨W0, hW0⟩ : ∃ W0, ((w1.alloc (Obj.cells C 5)).alloc (Obj.cells #[Value.slice (some { block := w1.heap.size, off := 0 }) 0 zs.length] 34)).alloc (Obj.cells #[Value.slice A1 zs.length cap1] 31) = W0 := ⟨_, rfl⟩
    have hs0 : W0.heap.size = w1.heap.size + 3 := by rw [← hW0]; simp
    have hB10 : Below w1.heap.size w1 W0 := by
     rw [← hW0]
     exact (((Below.refl _ w1).alloc (Nat.le_refl _) _).alloc (by simp) _).alloc (by simp; omega) _
    have hB0 : Below w.heap.size w W0 := below_trans hB1 hB10
    have hsz1 : w.heap.size ≤ w1.heap.size := hB1.size
    have hrow0 : W0.ownsRow w1.heap.size 5 1 (.slice (some ⟨w1.heap.size, 0, none⟩) 0 zs.length) 0 [] := by
     rw [← hW0]
     exact ((World.ownsRow_made w1 C zs.length (Nat.le_refl _) (by unfold maxLen; omega) (by omega)).alloc _).alloc _
    have b1 : Boxed W0 (w1.heap.size + 1) 34 (.slice (some ⟨w1.heap.size, 0, none⟩) 0 zs.length) := by
     rw [← hW0]
     have := (Boxed.new (w1.alloc (Obj.cells C 5)) 34 (Value.slice (some { block := w1.heap.size, off := 0 }) 0 zs.length)).alloc (Obj.cells #[Value.slice A1 zs.length cap1] 31)
     simpa only [World.size_alloc] using this
    have b3 : Boxed W0 (w1.heap.size + 1 + 1) 31 (.slice A1 zs.length cap1) := by
     rw [← hW0]
     have := Boxed.new ((w1.alloc (Obj.cells C 5)).alloc (Obj.cells #[Value.slice (some { block := w1.heap.size, off := 0 }) 0 zs.length] 34)) 31 (Value.slice A1 zs.length cap1)
     simpa only [World.size_alloc] using this
    rw [hW0]
    refine wpIn_rangeFunc_ownG rfl (by decide) (gf := 59) (lb := #[.pointer (some ⟨w1.heap.size + 1 + 1, 0, none⟩)]) rfl trivial (enters_of Tryd.func59 (by kernel_rfl) rfl)
     (Backward_stops 3 (w1.heap.size + 1 + 1) w1.heap.size _ zs (by omega) W0 (by omega) b3 (hv1.below hB10)) keepBox_t (keepBox_b (by omega) b3.lt) (Below.refl _ _) (fun _ => rfl)
     (fun (pre : List (Int × Int)) W => (∃ v, Boxed W (w1.heap.size + 1) 34 v ∧ W.ownsRow w1.heap.size 5 1 v pre.length ((pre.map fun x => letterOf (3 - x.2)).map eB) ∧ True) ∧ Below w1.heap.size w1 W)
     (fun _ _ _ => False)
     (OwnFrom.and (Own.from (holdsRow_own w1.heap.size (w1.heap.size + 1) 34 5 1 (fun (pre : List (Int × Int)) => pre.length) (fun (pre : List (Int × Int)) => (pre.map fun x => letterOf (3 - x.2)).map eB) (fun _ _ => True)) _) (ownFrom_below (Nat.le_refl _) (by omega)))
     (fun _ _ _ _ _ hs _ _ => hs)
     ⟨⟨_, b1, hrow0, trivial⟩, hB10⟩
     (fun x => { tmps := #[.slice A bs.length cap, undef, .slice none 0 0, .int .i64 0, .slice A1 zs.length cap1, .int .i64 0, .pointer (some ⟨w1.heap.size + 1, 0, none⟩), undef, .int .i64 x.2, .tuple #[.slice A1 zs.length cap1, .int .i64 0], .slice A bs.length cap, .tuple #[.slice A1 zs.length cap1, .int .i64 0], .slice A1 zs.length cap1, .int .i64 0, .int .i64 0, .bool false, undef, .slice A1 zs.length cap1, .int .i64 zs.length, .slice (some ⟨w1.heap.size, 0, none⟩) 0 zs.length, .slice A1 zs.length cap1, .func (.func 59) #[] #[.pointer (some ⟨w1.heap.size + 1 + 1, 0, none⟩)], .int .i64 x.1, .int .i64 x.2, undef, undef, undef, undef, undef, undef, undef], defers := [] }) ?assign ?body ?done ?stop
    case assign =>
     intro l x W K hK
     gi_wp2
     exact hK
    case body =>
     rintro l pre x W ⟨⟨v, hv, hrow, -⟩, hB⟩ hlt
     have hc := hv.cell
     have hf := hv.frozen
     have hT' : Tab W := hT1.below hB
     have hm1 : pre.length + 1 ≤ maxLen := by unfold maxLen; omega
     gi_wp2_with fail
     refine wpIn_region_paths (by kernel_rfl) [[0, 1, 2, 3, 4, 5, 6], [1, 0, 2, 3, 4, 5, 6], [1, 2, 0, 3, 4, 5, 6], [1, 2, 3, 0, 4, 5, 6], [1, 2, 3, 4, 0, 5, 6]] (by kernel_rfl) ?_
     obtain ⟨Wd, hWd⟩ : ∃ Wd, W.drew = Wd := ⟨_, rfl⟩
     have hkd : KeepsOthers W Wd := by rw [← hWd]; exact KeepsOthers.drew _
     have hbd : Below w1.heap.size W Wd := by rw [← hWd]; exact (Below.refl _ _).drew
     have hvd : Boxed Wd (w1.heap.size + 1) 34 v := by rw [← hWd]; exact hv
     have hbx : ∀ u, Boxed W (w1.heap.size + 1 + 1) 31 u → Boxed Wd (w1.heap.size + 1 + 1) 31 u := by rw [← hWd]; exact fun _ h => h
     have hrowd : Wd.ownsRow w1.heap.size 5 1 v pre.length ((pre.map fun x => letterOf (3 - x.2)).map eB) := by rw [← hWd]; exact hrow
     have hBd : Below w1.heap.size w1 Wd := hB.trans hbd
     have hTd : Tab Wd := hT1.below hBd
     have hcd := hvd.cell
     have hfd := hvd.frozen
     have hld : w1.heap.size + 1 < Wd.heap.size := hvd.lt
     have hcd2 : (Wd.alloc (.cells #[eB (letterOf (wrap64 (3 - x.2)))] 5)).cell? ⟨w1.heap.size + 1, 0, none⟩ = some v := (hvd.alloc _).cell
     rw [hWd]
     clear hWd hc hf hT' hrow hv hB
     simp only [EachPath, and_true, pick_cons, pick_nil, Option.toList_some, List.cons_append, List.nil_append, List.getElem?_cons_zero, List.getElem?_cons_succ]
     refine ⟨?_, ?_, ?_, ?_, ?_⟩
     all_goals
      gi_wp2_with (first
       | (refine ⟨trivial, ?_⟩; gi_at_call 52; refine (CallsIn.inRound l (callsIn_wide.2 (letter_any _ _ hTd))).mono ?_; rintro e w' ⟨rfl, rfl⟩)
       | (gi_at_builtin; refine wpListIn_append_own _ rfl _ _ 34 rfl w1.heap.size 5 i0 (.int .u8 0) 1 1 Tryd.underlying34 hi hz0 hz1 hz2 rfl (by decide) _ _ _ rfl (hrowd.alloc _) ⟨Wd.heap.size, 0, none⟩ 1 1 [eB (letterOf (wrap64 (3 - x.2)))] rfl rfl (cell_one_new _ _ _) (by simp [Value.oneCell']) hm1 (by omega) (by have := hBd.size; simp; omega) ?_; intro v' w2 hown' hgrow _; obtain ⟨g', cap', rfl⟩ := ownsRow_succ hown'; obtain ⟨hv1', hv2', hr2, hk2, hbl2⟩ := hvd.appended (by decide) hrowd hBd.size (Nat.le_succ _) hown' hgrow; have hc1 := hv1'.cell; have hf1 := hv1'.frozen))
      refine ⟨(hkd.trans hk2).from _, ⟨hbd.trans hbl2, fun u hu => ?_⟩, ⟨_, hv2', by simpa [letterOf_wrap] using hr2, trivial⟩, hBd.trans hbl2⟩
      exact (((hbx u hu).alloc _).kept hgrow (((hbx u hu).alloc (.cells #[eB (letterOf (wrap64 (3 - x.2)))] 5)).not_row (by decide) (hrowd.alloc (.cells #[eB (letterOf (wrap64 (3 - x.2)))] 5)))).other (by omega) _
    case done =>
     rintro D ys W hD rfl ⟨⟨v, hv, hrow, -⟩, hB⟩ hK
     have hc := hv.cell
     gi_wp2
     refine ⟨by simp, .inl ⟨_, _, rfl, run_takeDeferred hK, ?_⟩⟩
     refine ⟨_, results_tmp2 rfl _ _ _, v, below_trans hB1 (hB.trans (belowK_b (w := w1) (Nat.le_refl _) _ D _ _ (by omega) hK rfl rfl)), .inl ⟨rfl, by rw [Hzs.out]; exact hnot, ?_⟩⟩
     have hlist : (backAt zs zs.length).map (fun x => letterOf (3 - x.2)) = rcOf bs := by
      rw [rcOf, Hzs.out, ← backAt_snd, List.map_map]; rfl
     rw [← hlist]
     exact own_ofRow (ownsRow_putObj hrow _ hK rfl) hsz1
    case stop =>
     rintro D c pre W _ _ h _
     exact h.elim
  · gi_wp2
    exact ⟨_, results_tmp2 rfl _ _ _, v1, hB1, .inr ⟨rfl, hin⟩⟩
set_option maxRecDepth 100000 in
set_option maxHeartbeats 1000000 in
theorem Least_own (sv : Value) (bs : List UInt8) (hreach : bs.length ≤ 17592186044416) (w : World) (hS : Sl eB w.heap.size w sv bs) (hT : Tab w) :
    Calls Tryd.prog 31 #[sv] w fun e W' => ∃ v, Below w.heap.size w W' ∧ e = .returned (.tuple #[v, .bool (leastOf bs).2]) ∧ OwnB w.heap.size W' v (leastOf bs).1 := by
  obtain ⟨A, cap, rfl⟩ := hS.len
  go_enter Tryd.func31, Tryd.ntmps31
  go_wp2_with fail
  go_at_call 41
  refine (Rc_own _ bs hreach _ hS hT).mono ?_
  rintro e w1 ⟨v1, hB1, ⟨rfl, hnot, hv1⟩ | ⟨rfl, hin⟩⟩
  · have hS1 := hS.next hB1
    obtain ⟨A1, cap1, rfl⟩ := hv1.1.len
    by_cases hlt : Lib.compareBytes (rcOf bs) bs < 0
    · have hL := Lib.hid (show leastOf bs = (rcOf bs, true) by simp [leastOf, hnot, hlt])
      have hd : decide (Lib.compareBytes (rcOf bs) bs < 0) = true := by simpa using hlt
      clear hnot
      go_wp2_with (go_at_call 42; refine (Compare_any _ _ _ _ _ _ hv1.1 hS1).mono ?_; rintro e w' ⟨rfl, rfl⟩)
      go_ret2
      exact ⟨_, hB1, by rw [hL.out]; rfl, by rw [hL.out]; exact hv1⟩
    · have hL := Lib.hid (show leastOf bs = (bs, false) by simp [leastOf, hnot, hlt])
      have hd : decide (Lib.compareBytes (rcOf bs) bs < 0) = false := by simpa using hlt
      clear hnot
      go_wp2_with (first
       | (go_at_call 42; refine (Compare_any _ _ _ _ _ _ hv1.1 hS1).mono ?_; rintro e w' ⟨rfl, rfl⟩)
       | (go_at_call 29; refine (Clone_own _ bs (by omega) _ hS1).mono ?_; rintro e w2 ⟨v2, rfl, hv2, hB2⟩))
      go_ret2
      exact ⟨v2, below_trans hB1 hB2, by rw [hL.out]; rfl, by rw [hL.out]; exact ⟨hv2.1, fun g hg => ⟨Nat.le_trans hB1.size (hv2.2 g hg).1, (hv2.2 g hg).2⟩⟩⟩
  · have hS1 := hS.next hB1
    have hL := Lib.hid (show leastOf bs = (bs, false) by simp [leastOf, hin])
    clear hin
    go_wp2_with (go_at_call 29; refine (Clone_own _ bs (by omega) _ hS1).mono ?_; rintro e w2 ⟨v2, rfl, hv2, hB2⟩)
    go_ret2
    exact ⟨v2, below_trans hB1 hB2, by rw [hL.out]; rfl, by rw [hL.out]; exact ⟨hv2.1, fun g hg => ⟨Nat.le_trans hB1.size (hv2.2 g hg).1, (hv2.2 g hg).2⟩⟩⟩
end Go.Proofs.YtgblkcddhnigaaaDoor
