import Derived.Maps.AppendAt
import Derived.Test.YtgblkcddhnigaaaDoorNtAZ
namespace Go.Proofs.YtgblkcddhnigaaaDoor
open Go.RowKit Go.Shelf
attribute [local go_sem] Oper.semAt_some
theorem info_int : (Tryd.prog.info? 3).map (fun i => (i.zero, i.size, i.bytes)) = some (some (.int .i64 0), 1, 8) := by kernel_rfl
set_option maxRecDepth 100000 in
set_option maxHeartbeats 2000000 in
theorem Codes_any (sv : Value) (bs : List UInt8) (hreach : bs.length ≤ 17592186044416) (w : World) (hS : Sl eB w.heap.size w sv bs) (hT : Tab w) :
    Calls Tryd.prog 50 #[sv] w fun e W' => ∃ v, Below w.heap.size w W' ∧
      ((e = .returned (.tuple #[v, .int .i64 0]) ∧ (-1 : Int) ∉ codesOf bs ∧ Sl eI W'.heap.size W' v (codesOf bs)) ∨
       (e = .returned (.tuple #[.slice none 0 0, .int .i64 10]) ∧ (-1 : Int) ∈ codesOf bs)) := by
  refine (callsIn_wide (n := 5)).1 ?_
  obtain ⟨i0, hi, hz0, hz1, hz2⟩ := info_parts info_int
  obtain ⟨A, cap, rfl⟩ := hS.len
  refine callsIn_of_wp_marks Tryd.func50 rfl trivial ?_ rfl
  simp only [Tryd.ntmps50, List.size_toArray, List.length_cons, List.length_nil, Nat.reduceAdd, Nat.reduceSub, Array.replicate_succ, Array.replicate_zero, List.push_toArray, List.append_toArray, List.nil_append, List.cons_append]
  obtain ⟨C, hCs, hmk⟩ : ∃ C : Array Value, C.size = bs.length ∧ ∀ w, (Instr.makeSlice 31 (.int .i64 0) (.int .i64 (bs.length : Int))).run Tryd.prog w = .ok (.slice (some ⟨w.heap.size, 0, none⟩) 0 bs.length) (w.alloc (.cells C 3)) := by
   refine ⟨madeCells (Value.cells (.int .i64 0)) (bs.length * i0.size), by simp [madeCells, hz1, Value.cells], fun w => ?_⟩
   have := run_make w 31 3 i0 (.int .i64 0) Tryd.underlying31 hi hz0 .i64 .i64 0 (bs.length : Int) (by omega) (by omega) (by rw [hz2]; omega) (by omega)
   simpa using this
  gi_wp2_with fail
  apply wpIn_scope_straight
  gi_wp2_with fail
  apply wpIn_label
  gi_wp2_with (refine ⟨trivial, ?_⟩; gi_at_call 58; refine (callsIn_wide.2 (codes_any _ _ _ _)).mono ?_; rintro e w' ⟨rfl, rfl⟩)
  obtain ⟨W0, hW0⟩ : ∃ W0, (((w.alloc (Obj.cells C 3)).alloc (Obj.cells #[Value.slice (some { block := w.heap.size, off := 0 }) 0 bs.length] 31)).alloc (Obj.cells #[Value.int IntKind.i64 0] 35)).alloc (Obj.cells #[Value.slice A bs.length cap] 34) = W0 := ⟨_, rfl⟩
  have hs0 : W0.heap.size = w.heap.size + 4 := by rw [← hW0]; simp
  have hB0 : Below w.heap.size w W0 := by
   rw [← hW0]
   exact ((((Below.refl _ w).alloc (Nat.le_refl _) _).alloc (by simp) _).alloc (by simp; omega) _).alloc (by simp; omega) _
  have hrow0 : W0.ownsRow w.heap.size 3 1 (.slice (some ⟨w.heap.size, 0, none⟩) 0 bs.length) 0 [] := by
   rw [← hW0]
   exact (((World.ownsRow_made w C bs.length (Nat.le_refl _) (by unfold maxLen; omega) (by omega)).alloc _).alloc _).alloc _
  have b1 : Boxed W0 (w.heap.size + 1) 31 (.slice (some ⟨w.heap.size, 0, none⟩) 0 bs.length) := by
   rw [← hW0]
   have := ((Boxed.new (w.alloc (Obj.cells C 3)) 31 (Value.slice (some { block := w.heap.size, off := 0 }) 0 bs.length)).alloc (Obj.cells #[Value.int IntKind.i64 0] 35)).alloc (Obj.cells #[Value.slice A bs.length cap] 34)
   simpa only [World.size_alloc] using this
  have b2 : Boxed W0 (w.heap.size + 1 + 1) 35 (.int .i64 0) := by
   rw [← hW0]
   have := (Boxed.new ((w.alloc (Obj.cells C 3)).alloc (Obj.cells #[Value.slice (some { block := w.heap.size, off := 0 }) 0 bs.length] 31)) 35 (Value.int IntKind.i64 0)).alloc (Obj.cells #[Value.slice A bs.length cap] 34)
   simpa only [World.size_alloc] using this
  have b3 : Boxed W0 (w.heap.size + 1 + 1 + 1) 34 (.slice A bs.length cap) := by
   rw [← hW0]
   have := Boxed.new (((w.alloc (Obj.cells C 3)).alloc (Obj.cells #[Value.slice (some { block := w.heap.size, off := 0 }) 0 bs.length] 31)).alloc (Obj.cells #[Value.int IntKind.i64 0] 35)) 34 (Value.slice A bs.length cap)
   simpa only [World.size_alloc] using this
  have hT0 : Tab W0 := hT.below hB0
  rw [hW0]
  refine wpIn_rangeFunc_ownG rfl (by decide) (gf := 71) (lb := #[.pointer (some ⟨w.heap.size + 1 + 1 + 1, 0, none⟩)]) rfl trivial (enters_of Tryd.func71 (by kernel_rfl) rfl)
   (codes_stops 3 (w.heap.size + 1 + 1 + 1) w.heap.size _ bs (by omega) W0 (by omega) (by omega) hT.lt b3.cell (hS.below hB0) hT0) belowK_t (belowK_b (by omega)) (Below.refl _ _) (fun _ => rfl)
   (fun (pre : List Int) W => ((∃ v, Boxed W (w.heap.size + 1) 31 v ∧ W.ownsRow w.heap.size 3 1 v pre.length (pre.map eI) ∧ True) ∧ Boxed W (w.heap.size + 1 + 1) 35 (.int .i64 0) ∧ (-1 : Int) ∉ pre) ∧ Below w.heap.size w W)
   (fun c (pre : List Int) W => (c = .exit 0 ∧ Boxed W (w.heap.size + 1) 31 (.slice none 0 0) ∧ Boxed W (w.heap.size + 1 + 1) 35 (.int .i64 10) ∧ (-1 : Int) ∈ pre) ∧ Below w.heap.size w W)
   (OwnFrom.and (OwnFrom.and (Own.from (holdsRow_own w.heap.size (w.heap.size + 1) 31 3 1 (fun (pre : List Int) => pre.length) (fun (pre : List Int) => pre.map eI) (fun _ _ => True)) _) (OwnFrom.and (Own.from (boxed_own (w.heap.size + 1 + 1) 35 (fun _ => .int .i64 0)) _) (ownFrom_pure _ (fun (pre : List Int) => (-1 : Int) ∉ pre)))) (ownFrom_below (Nat.le_refl _) (by omega)))
   (fun c => OwnFrom.and (OwnFrom.and (ownFrom_pure _ (fun _ => c = .exit 0)) (OwnFrom.and (Own.from (boxed_own (w.heap.size + 1) 31 (fun _ => .slice none 0 0)) _) (OwnFrom.and (Own.from (boxed_own (w.heap.size + 1 + 1) 35 (fun _ => .int .i64 10)) _) (ownFrom_pure _ (fun (pre : List Int) => (-1 : Int) ∈ pre))))) (ownFrom_below (Nat.le_refl _) (by omega)))
   ⟨⟨⟨_, b1, hrow0, trivial⟩, b2, by simp⟩, hB0⟩
   (fun x => { tmps := #[.slice A bs.length cap, undef, .slice none 0 0, .int .i64 0, .pointer (some ⟨w.heap.size + 1, 0, none⟩), .pointer (some ⟨w.heap.size + 1 + 1, 0, none⟩), .int .i64 x, .slice A bs.length cap, .int .i64 bs.length, .slice (some ⟨w.heap.size, 0, none⟩) 0 bs.length, .slice A bs.length cap, .func (.func 71) #[] #[.pointer (some ⟨w.heap.size + 1 + 1 + 1, 0, none⟩)], .int .i64 x, undef, undef, undef, undef, undef, undef, undef, undef, undef], defers := [] }) ?assign ?body ?done ?stop
  case assign =>
   intro l x W K hK
   gi_wp2
   exact hK
  case body =>
   rintro l pre x W ⟨⟨⟨v, hv, hrow, -⟩, hb2, hnot⟩, hB⟩ hlt
   have hc := hv.cell
   have hf := hv.frozen
   have hc2 := hb2.cell
   have hf2 := hb2.frozen
   by_cases hx : x = -1
   · subst hx
     gi_wp2
     refine ⟨((KeepsOthers.setCell W _ _).trans (KeepsOthers.setCell _ _ _)).from _, ⟨rfl, ?_, ?_, by simp⟩, ?_⟩
     · exact (hv.set _).other (by omega) _
     · exact (hb2.other (by omega) _).set _
     · exact (hB.setCell (p := ⟨w.heap.size + 1, 0, none⟩) (by simp) _).setCell (p := ⟨w.heap.size + 1 + 1, 0, none⟩) (by simp; omega) _
   · have hxb : (x == -1) = false := by simpa using hx
     have hm1 : pre.length + 1 ≤ maxLen := by unfold maxLen; omega
     gi_wp2_with (gi_at_builtin; refine wpListIn_append_own _ rfl _ _ 31 rfl w.heap.size 3 i0 (.int .i64 0) 1 8 Tryd.underlying31 hi hz0 hz1 hz2 rfl (by decide) _ _ _ rfl (hrow.alloc _) ⟨W.heap.size, 0, none⟩ 1 1 [.int .i64 x] rfl rfl (cell_one_new _ _ _) (by simp [Value.oneCell']) hm1 (by omega) (by have := hB.size; simp; omega) ?_; intro v' w1 hown' hgrow _; obtain ⟨g', cap', rfl⟩ := ownsRow_succ hown'; obtain ⟨hv1, hv2, hr2, hk2, hbl2⟩ := hv.appended (by decide) hrow hB.size (Nat.le_succ _) hown' hgrow; have hc1 := hv1.cell; have hf1 := hv1.frozen)
     refine ⟨hk2.from _, hbl2, ⟨⟨_, hv2, by simpa using hr2, trivial⟩, ?_, ?_⟩, hB.trans hbl2⟩
     · refine ((hb2.alloc _).kept hgrow ?_).other (by omega) _
       exact (hb2.alloc (.cells #[.int .i64 x] 3)).not_row (by decide) (hrow.alloc (.cells #[.int .i64 x] 3))
     · simp only [List.mem_append, List.mem_singleton]
       exact fun h => h.elim hnot (fun e => hx e.symm)
  case done =>
   rintro D ys W hD rfl ⟨⟨⟨v, hv, hrow, -⟩, hb2, hnot⟩, hB⟩ hK
   have hc := hv.cell
   have hc2 := hb2.cell
   gi_wp2
   refine wpIn_wide.2 ?_
   go_quiet (fail)
   gi_wp2
   rw [Exit.noGoto_ret]
   have hK' : (W.drewN nq).heap[D]? = some (.deferred (some [])) := hK
   have hrow' : (W.drewN nq).ownsRow w.heap.size 3 1 v (codesOf bs).length ((codesOf bs).map eI) := hrow
   have hB' : Below w.heap.size w (W.drewN nq) := hB.trans ⟨rfl, rfl, rfl, Nat.le_refl _, fun _ _ => rfl⟩
   refine ⟨by simp, .inl ⟨_, _, rfl, run_takeDeferred hK', ?_⟩⟩
   refine ⟨_, results_tmp2 rfl _ _ _, v, hB'.trans (belowK_b (w := w) (Nat.le_refl _) _ D _ _ (by omega) hK' rfl rfl), .inl ⟨rfl, hnot, ?_⟩⟩
   exact Sl.of_own (ownsRow_putObj hrow' _ hK' rfl)
  case stop =>
   rintro D c pre W hD hpre ⟨⟨rfl, hv, hb2, hin⟩, hB⟩ hK
   have hc := hv.cell
   have hc2 := hb2.cell
   gi_wp2
   refine wpIn_wide.2 ?_
   go_quiet (fail)
   gi_wp2
   rw [Exit.noGoto_ret]
   have hK' : (W.drewN nq).heap[D]? = some (.deferred (some [])) := hK
   have hB' : Below w.heap.size w (W.drewN nq) := hB.trans ⟨rfl, rfl, rfl, Nat.le_refl _, fun _ _ => rfl⟩
   refine ⟨by simp, .inl ⟨_, _, rfl, run_takeDeferred hK', ?_⟩⟩
   exact ⟨_, results_tmp2 rfl _ _ _, .slice none 0 0, hB'.trans (belowK_b (w := w) (Nat.le_refl _) _ D _ _ (by omega) hK' rfl rfl), .inr ⟨rfl, hpre.subset hin⟩⟩
end Go.Proofs.YtgblkcddhnigaaaDoor
namespace Go.Proofs.YtgblkcddhnigaaaDoor
open Go.RowKit Go.Shelf
attribute [local go_sem] Oper.semAt_some
theorem info_u8 : (Tryd.prog.info? 5).map (fun i => (i.zero, i.size, i.bytes)) = some (some (.int .u8 0), 1, 1) := by kernel_rfl
theorem row_made (w : World) : (w.alloc (.cells #[] 5)).ownsRow w.heap.size 5 1 (.slice (some ⟨w.heap.size, 0, none⟩) 0 0) 0 [] :=
 World.ownsRow_made w #[] 0 (Nat.le_refl _) (by unfold maxLen; omega) rfl
end Go.Proofs.YtgblkcddhnigaaaDoor
