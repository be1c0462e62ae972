import Derived.Maps.AppendAt
import Derived.Deep.QuietTactic
import Derived.Test.YtkibigbcdlilkaaGreatDoorClBY
import Derived.Test.YtkibigbcdlilkaaGreatDoorExMY
import Derived.Test.YtkibigbcdlilkaaGreatDoorSwCY
namespace Go.Proofs.YtkibigbcdlilkaaGreatDoor
open Go.RowKit Go.Shelf
attribute [local go_sem] Oper.semAt_some run_store_func
set_option maxRecDepth 100000 in
set_option maxHeartbeats 400000 in
theorem SClone_any (sv : Value) (a : List UInt8) (hreach : a.length ≤ 140737488355328) (w : World) (ha : Sl eB w.heap.size w sv a) :
    Calls Tryz.prog 97 #[sv] w fun e w' => ∃ v, e = .returned v ∧ Own8 w.heap.size w' v a ∧ Below w.heap.size w w' := by
  obtain ⟨i0, hi, hz0, hz1, hz2⟩ := info_parts info_u8
  have hrow := row_made w
  have hB1 : Below w.heap.size w (w.alloc (.cells #[] 5)) := (Below.refl _ _).alloc (Nat.le_refl _) _
  obtain ⟨A, c, rfl⟩ := ha.len
  cases A with
  | none =>
    have hx : a = [] := by
     obtain ⟨A, c', e, _, hcells⟩ := ha
     cases e
     cases a with
     | nil => rfl
     | cons x xs => obtain ⟨_, _, h, _⟩ := hcells (by simp); cases h
    subst hx
    have hq : ∀ w, (binOp .eql 22 (.slice none 0 c) (.slice none 0 0)).run Tryz.prog w = .ok (.bool true) w := fun w => Lib.run_eql_slice_nil w 22 5 none 0 c 0 0 Tryz.underlying22
    go_enter Tryz.func97, Tryz.ntmps97
    go_wp2
    go_ret
    exact ⟨_, rfl, ⟨rfl, .inl ⟨rfl, rfl⟩⟩, Below.refl _ _⟩
  | some ad =>
    have hq : ∀ w, (binOp .eql 22 (.slice (some ad) a.length c) (.slice none 0 0)).run Tryz.prog w = .ok (.bool false) w := fun w => Lib.run_eql_slice_nil w 22 5 (some ad) a.length c 0 0 Tryz.underlying22
    go_enter Tryz.func97, Tryz.ntmps97
    go_wp2_with
      (at_builtin
       refine wpList_append_sl _ rfl (.tmp 5) (.tmp 6) _ rfl w.heap.size 5 i0 (.int .u8 0) 1 Tryz.underlying22 hi hz0 hz1 hz2 rfl _ 0 [] hrow rfl w.heap.size (.slice (some ad) a.length c) a (ha.below hB1) rfl (fun _ => rfl) (by unfold maxLen; omega) (by omega) (by simp) ?_
       intro v1 w1 hown1 hg1 hat1
       have hB2 : Below w.heap.size w w1 := hB1.trans (below_grown hrow hg1 (by simp) (Nat.le_refl _)))
    go_ret
    exact ⟨v1, rfl, by simpa [Own8] using hown1, hB2⟩
end Go.Proofs.YtkibigbcdlilkaaGreatDoor
namespace Go.Proofs.YtkibigbcdlilkaaGreatDoor.Gp
open Go.RowKit Go.Shelf
attribute [local go_sem] Oper.semAt_some run_store_func
theorem same_any (sa sb : Value) (a b : List UInt8) (B : Nat) (w : World) (ha : Sl eB B w sa a) (hb : Sl eB B w sb b) :
    Calls Tryz.prog 15 #[sa, sb] w fun e w' => e = .returned (.bool (decide (a = b))) ∧ w = w' := by
  have ra := run_str (P := Tryz.prog) ha 22 9 5 Tryz.underlying22 Tryz.underlying5 Tryz.underlying9
  have rb := run_str (P := Tryz.prog) hb 22 9 5 Tryz.underlying22 Tryz.underlying5 Tryz.underlying9
  obtain ⟨Aa, ca, rfl⟩ := ha.len
  obtain ⟨Ab, cb, rfl⟩ := hb.len
  clear ha hb
  go_enter Tryz.func15, Tryz.ntmps15
  go_wp2
  go_ret
  exact ⟨by rw [← beq_dec]; rfl, rfl⟩
theorem same_eq (sa sb : Value) (a : List UInt8) (B : Nat) (w : World) (ha : Sl eB B w sa a) (hb : Sl eB B w sb a) :
    Calls Tryz.prog 15 #[sa, sb] w fun e w' => e = .returned (.bool true) ∧ w = w' := by
  have h := same_any sa sb a a B w ha hb
  rwa [decide_eq_true (rfl : a = a)] at h
end Go.Proofs.YtkibigbcdlilkaaGreatDoor.Gp
namespace Go.Proofs.YtkibigbcdlilkaaGreatDoor
open Go.RowKit Go.Shelf
attribute [local go_sem] Oper.semAt_some
theorem code_any (c : UInt8) (w : World) (hT : Tab w) : Calls Tryz.prog 76 #[eB c] w fun e w' => e = .returned (.int .i64 (codeOf c.toNat)) ∧ w = w' := callsIn_inProg (code_in c 0 w hT)
def codesOf (bs : List UInt8) : List Int := bs.map fun b => codeOf b.toNat
set_option maxHeartbeats 400000 in
theorem codes_any (A : Option Addr) (len cap : Nat) (w : World) :
    Calls Tryz.prog 46 #[.slice A len cap] w fun e w' => e = .returned (.func (.func 75) #[] #[.pointer (some ⟨w.heap.size, 0, none⟩)]) ∧ w' = w.alloc (.cells #[.slice A len cap] 22) := by
  go_enter Tryz.func46, Tryz.ntmps46
  go_wp2
  go_ret
  exact ⟨rfl, rfl⟩
set_option maxRecDepth 100000 in
set_option maxHeartbeats 2000000 in
theorem codes1_in (n : Nat) (l Bs n₀ : Nat) (sv : Value) (bs : List UInt8) (hreach : bs.length ≤ 140737488351232) (J Jx : List Int → World → Prop) (hn₀ : 1 < n₀)
    (hY : ∀ pre x W, J pre W → pre.length < bs.length → YieldAt Fence.wide n Tryz.prog l #[.int .i64 x] W fun e W' =>
     (e = .returned (.bool true) ∧ J (pre ++ [x]) W' ∧ Below n₀ W W') ∨ (e = .returned (.bool false) ∧ Jx (pre ++ [x]) W'))
    (W : World) (hBs : W.cell? ⟨Bs, 0, none⟩ = some sv) (hS : Sl eB n₀ W sv bs) (hT : Tab W) (h0 : J [] W) :
    CallsIn Fence.wide (n + 1) Tryz.prog 75 #[.func (.yield l) #[] #[], .pointer (some ⟨Bs, 0, none⟩)] W fun e W' => (∃ v, e = .returned v) ∧
      ((∃ ys, ys = codesOf bs ∧ J ys W') ∨ (∃ pre, pre <+: codesOf bs ∧ Jx pre W')) := by
 obtain ⟨A, cap, rfl, hcap, hcs⟩ := hS
 refine callsIn_of_wp Tryz.func75 rfl trivial ?_ rfl
 simp only [Tryz.ntmps75, List.size_toArray, List.length_cons, List.length_nil, Nat.reduceAdd, Nat.reduceSub, Array.replicate_succ, Array.replicate_zero, List.push_toArray, List.append_toArray, List.nil_append, List.cons_append]
 gi_wp2
 gi_loopw [7] (fun i wr => ∃ k : Nat, k ≤ bs.length ∧ i = .int .i64 k ∧ J (codesOf (bs.take k)) wr ∧ Below n₀ W wr)
  (fun i _ => bs.length - (intOf i).toNat)
 case atStart => exact ⟨0, Nat.zero_le _, rfl, h0, Below.refl _ _⟩
 case round =>
  obtain ⟨k, hk, rfl, hJs, hnx⟩ := hrel
  by_cases hlt : k < bs.length
  · obtain ⟨b, off, rfl, hb, hcell⟩ := hcs (by omega)
    have hcx : wr.cell? ⟨b, off + k, none⟩ = some (eB bs[k]) := (hnx.cell (p := ⟨b, off + k, none⟩) hb).trans (hcell k _ (by simp [hlt]))
    have hT' := hT.below' hnx hn₀
    obtain ⟨fn, tmps, assign, body, hy, hR⟩ := hY _ (codeOf bs[k].toNat) wr hJs (by simp [codesOf]; omega)
    have hnext : codesOf (bs.take k) ++ [codeOf bs[k].toNat] = codesOf (bs.take (k + 1)) := by
     rw [List.take_succ_eq_append_getElem hlt, codesOf, codesOf, List.map_append]; rfl
    rw [hnext] at hR
    clear hnext
    gi_wp2_with (refine ⟨trivial, ?_⟩; gi_at_call 76; refine (callsIn_wide.2 (code_any bs[k] _ hT')).mono ?_; rintro e w' ⟨rfl, rfl⟩)
    refine hR.mono ?_
    rintro e W3 (⟨rfl, hJ3, hk3⟩ | ⟨rfl, hJx3⟩)
    · gi_wp2
      go_roundw
      case rel => exact ⟨k + 1, by omega, by simp, hJ3, hnx.trans hk3⟩
      case measure => simp [intOf]; omega
    · gi_wp2
      refine bodyPost_ret (results_none rfl _ _ _) rfl ?_
      exact ⟨⟨_, rfl⟩, .inr ⟨_, List.IsPrefix.map _ (List.take_prefix _ _), hJx3⟩⟩
  · obtain rfl : k = bs.length := by omega
    gi_wp2
    go_end0
    exact ⟨⟨_, rfl⟩, .inl ⟨_, rfl, by simpa using hJs⟩⟩
theorem codes_stops (n : Nat) (Bs n₀ : Nat) (sv : Value) (bs : List UInt8) (hreach : bs.length ≤ 140737488351232) (w : World) (hBs : Bs < w.heap.size) (hn₀ : n₀ ≤ w.heap.size) (hl₀ : 1 < n₀)
    (hc : w.cell? ⟨Bs, 0, none⟩ = some sv) (hS : Sl eB n₀ w sv bs) (hT : Tab w) :
    SeqStopsK Fence.wide (n + 1) Tryz.prog 75 #[.pointer (some ⟨Bs, 0, none⟩)] (fun x : Int => #[Value.int .i64 x]) (Below n₀) (fun ys => ys = codesOf bs) (fun pre => pre <+: codesOf bs) bs.length w := fun l J Jx W hW _ _ hY h0 =>
 codes1_in n l Bs n₀ sv bs hreach J Jx hl₀ hY W ((hW.cell (p := ⟨Bs, 0, none⟩) hBs).trans hc) (hS.below (hW.mono hn₀)) (hT.below hW) h0
theorem info_int : (Tryz.prog.info? 3).map (fun i => (i.zero, i.size, i.bytes)) = some (some (.int .i64 0), 1, 8) := by kernel_rfl
set_option maxRecDepth 100000 in
set_option maxHeartbeats 2000000 in
theorem Codes_any (sv : Value) (bs : List UInt8) (hreach : bs.length ≤ 17592186044416) (w : World) (hS : Sl eB w.heap.size w sv bs) (hT : Tab w) :
    Calls Tryz.prog 124 #[sv] w fun e W' => ∃ v, Below w.heap.size w W' ∧
      ((e = .returned (.tuple #[v, .int .i64 0]) ∧ (-1 : Int) ∉ codesOf bs ∧ Sl eI W'.heap.size W' v (codesOf bs)) ∨
       (e = .returned (.tuple #[.slice none 0 0, .int .i64 10]) ∧ (-1 : Int) ∈ codesOf bs)) := by
  refine (callsIn_wide (n := 5)).1 ?_
  obtain ⟨i0, hi, hz0, hz1, hz2⟩ := info_parts info_int
  obtain ⟨A, cap, rfl⟩ := hS.len
  refine callsIn_of_wp_marks Tryz.func124 rfl trivial ?_ rfl
  simp only [Tryz.ntmps124, List.size_toArray, List.length_cons, List.length_nil, Nat.reduceAdd, Nat.reduceSub, Array.replicate_succ, Array.replicate_zero, List.push_toArray, List.append_toArray, List.nil_append, List.cons_append]
  obtain ⟨C, hCs, hmk⟩ : ∃ C : Array Value, C.size = bs.length ∧ ∀ w, (Instr.makeSlice 35 (.int .i64 0) (.int .i64 (bs.length : Int))).run Tryz.prog w = .ok (.slice (some ⟨w.heap.size, 0, none⟩) 0 bs.length) (w.alloc (.cells C 3)) := by
   refine ⟨madeCells (Value.cells (.int .i64 0)) (bs.length * i0.size), by simp [madeCells, hz1, Value.cells], fun w => ?_⟩
   have := run_make w 35 3 i0 (.int .i64 0) Tryz.underlying35 hi hz0 .i64 .i64 0 (bs.length : Int) (by omega) (by omega) (by rw [hz2]; omega) (by omega)
   simpa using this
  gi_wp2_with fail
  apply wpIn_scope_straight
  gi_wp2_with fail
  apply wpIn_label
  gi_wp2_with (refine ⟨trivial, ?_⟩; gi_at_call 46; refine (callsIn_wide.2 (codes_any _ _ _ _)).mono ?_; rintro e w' ⟨rfl, rfl⟩)
  obtain ⟨W0, hW0⟩ : ∃ W0, (((w.alloc (Obj.cells C 3)).alloc (Obj.cells #[Value.slice (some { block := w.heap.size, off := 0 }) 0 bs.length] 35)).alloc (Obj.cells #[Value.int IntKind.i64 0] 24)).alloc (Obj.cells #[Value.slice A bs.length cap] 22) = W0 := ⟨_, rfl⟩
  have hs0 : W0.heap.size = w.heap.size + 4 := by rw [← hW0]; simp
  have hB0 : Below w.heap.size w W0 := by
   rw [← hW0]
   exact ((((Below.refl _ w).alloc (Nat.le_refl _) _).alloc (by simp) _).alloc (by simp; omega) _).alloc (by simp; omega) _
  have hrow0 : W0.ownsRow w.heap.size 3 1 (.slice (some ⟨w.heap.size, 0, none⟩) 0 bs.length) 0 [] := by
   rw [← hW0]
   exact (((World.ownsRow_made w C bs.length (Nat.le_refl _) (by unfold maxLen; omega) (by omega)).alloc _).alloc _).alloc _
  have b1 : Boxed W0 (w.heap.size + 1) 35 (.slice (some ⟨w.heap.size, 0, none⟩) 0 bs.length) := by
   rw [← hW0]
   have := ((Boxed.new (w.alloc (Obj.cells C 3)) 35 (Value.slice (some { block := w.heap.size, off := 0 }) 0 bs.length)).alloc (Obj.cells #[Value.int IntKind.i64 0] 24)).alloc (Obj.cells #[Value.slice A bs.length cap] 22)
   simpa only [World.size_alloc] using this
  have b2 : Boxed W0 (w.heap.size + 1 + 1) 24 (.int .i64 0) := by
   rw [← hW0]
   have := (Boxed.new ((w.alloc (Obj.cells C 3)).alloc (Obj.cells #[Value.slice (some { block := w.heap.size, off := 0 }) 0 bs.length] 35)) 24 (Value.int IntKind.i64 0)).alloc (Obj.cells #[Value.slice A bs.length cap] 22)
   simpa only [World.size_alloc] using this
  have b3 : Boxed W0 (w.heap.size + 1 + 1 + 1) 22 (.slice A bs.length cap) := by
   rw [← hW0]
   have := Boxed.new (((w.alloc (Obj.cells C 3)).alloc (Obj.cells #[Value.slice (some { block := w.heap.size, off := 0 }) 0 bs.length] 35)).alloc (Obj.cells #[Value.int IntKind.i64 0] 24)) 22 (Value.slice A bs.length cap)
   simpa only [World.size_alloc] using this
  have hT0 : Tab W0 := hT.below hB0
  rw [hW0]
  refine wpIn_rangeFunc_ownG rfl (by decide) (gf := 75) (lb := #[.pointer (some ⟨w.heap.size + 1 + 1 + 1, 0, none⟩)]) rfl trivial (enters_of Tryz.func75 (by kernel_rfl) rfl)
   (codes_stops 3 (w.heap.size + 1 + 1 + 1) w.heap.size _ bs (by omega) W0 (by omega) (by omega) hT.lt b3.cell (hS.below hB0) hT0) belowK_t (belowK_b (by omega)) (Below.refl _ _) (fun _ => rfl)
   (fun (pre : List Int) W => ((∃ v, Boxed W (w.heap.size + 1) 35 v ∧ W.ownsRow w.heap.size 3 1 v pre.length (pre.map eI) ∧ True) ∧ Boxed W (w.heap.size + 1 + 1) 24 (.int .i64 0) ∧ (-1 : Int) ∉ pre) ∧ Below w.heap.size w W)
   (fun c (pre : List Int) W => (c = .exit 0 ∧ Boxed W (w.heap.size + 1) 35 (.slice none 0 0) ∧ Boxed W (w.heap.size + 1 + 1) 24 (.int .i64 10) ∧ (-1 : Int) ∈ pre) ∧ Below w.heap.size w W)
   (OwnFrom.and (OwnFrom.and (Own.from (holdsRow_own w.heap.size (w.heap.size + 1) 35 3 1 (fun (pre : List Int) => pre.length) (fun (pre : List Int) => pre.map eI) (fun _ _ => True)) _) (OwnFrom.and (Own.from (boxed_own (w.heap.size + 1 + 1) 24 (fun _ => .int .i64 0)) _) (ownFrom_pure _ (fun (pre : List Int) => (-1 : Int) ∉ pre)))) (ownFrom_below (Nat.le_refl _) (by omega)))
   (fun c => OwnFrom.and (OwnFrom.and (ownFrom_pure _ (fun _ => c = .exit 0)) (OwnFrom.and (Own.from (boxed_own (w.heap.size + 1) 35 (fun _ => .slice none 0 0)) _) (OwnFrom.and (Own.from (boxed_own (w.heap.size + 1 + 1) 24 (fun _ => .int .i64 10)) _) (ownFrom_pure _ (fun (pre : List Int) => (-1 : Int) ∈ pre))))) (ownFrom_below (Nat.le_refl _) (by omega)))
   ⟨⟨⟨_, b1, hrow0, trivial⟩, b2, by simp⟩, hB0⟩
   (fun x => { tmps := #[.slice A bs.length cap, undef, .slice none 0 0, .int .i64 0, .pointer (some ⟨w.heap.size + 1, 0, none⟩), .pointer (some ⟨w.heap.size + 1 + 1, 0, none⟩), .int .i64 x, .slice A bs.length cap, .int .i64 bs.length, .slice (some ⟨w.heap.size, 0, none⟩) 0 bs.length, .slice A bs.length cap, .func (.func 75) #[] #[.pointer (some ⟨w.heap.size + 1 + 1 + 1, 0, none⟩)], .int .i64 x, undef, undef, undef, undef, undef, undef, undef, undef, undef], defers := [] }) ?assign ?body ?done ?stop
  case assign =>
   intro l x W K hK
   gi_wp2
   exact hK
  case body =>
   rintro l pre x W ⟨⟨⟨v, hv, hrow, -⟩, hb2, hnot⟩, hB⟩ hlt
   have hc := hv.cell
   have hf := hv.frozen
   have hc2 := hb2.cell
   have hf2 := hb2.frozen
   by_cases hx : x = -1
   · subst hx
     gi_wp2
     refine ⟨((KeepsOthers.setCell W _ _).trans (KeepsOthers.setCell _ _ _)).from _, ⟨rfl, ?_, ?_, by simp⟩, ?_⟩
     · exact (hv.set _).other (by omega) _
     · exact (hb2.other (by omega) _).set _
     · exact (hB.setCell (p := ⟨w.heap.size + 1, 0, none⟩) (by simp) _).setCell (p := ⟨w.heap.size + 1 + 1, 0, none⟩) (by simp; omega) _
   · have hxb : (x == -1) = false := by simpa using hx
     have hm1 : pre.length + 1 ≤ maxLen := by unfold maxLen; omega
     gi_wp2_with (gi_at_builtin; refine wpListIn_append_own _ rfl _ _ 35 rfl w.heap.size 3 i0 (.int .i64 0) 1 8 Tryz.underlying35 hi hz0 hz1 hz2 rfl (by decide) _ _ _ rfl (hrow.alloc _) ⟨W.heap.size, 0, none⟩ 1 1 [.int .i64 x] rfl rfl (cell_one_new _ _ _) (by simp [Value.oneCell']) hm1 (by omega) (by have := hB.size; simp; omega) ?_; intro v' w1 hown' hgrow _; obtain ⟨g', cap', rfl⟩ := ownsRow_succ hown'; obtain ⟨hv1, hv2, hr2, hk2, hbl2⟩ := hv.appended (by decide) hrow hB.size (Nat.le_succ _) hown' hgrow; have hc1 := hv1.cell; have hf1 := hv1.frozen)
     refine ⟨hk2.from _, hbl2, ⟨⟨_, hv2, by simpa using hr2, trivial⟩, ?_, ?_⟩, hB.trans hbl2⟩
     · refine ((hb2.alloc _).kept hgrow ?_).other (by omega) _
       exact (hb2.alloc (.cells #[.int .i64 x] 3)).not_row (by decide) (hrow.alloc (.cells #[.int .i64 x] 3))
     · simp only [List.mem_append, List.mem_singleton]
       exact fun h => h.elim hnot (fun e => hx e.symm)
  case done =>
   rintro D ys W hD rfl ⟨⟨⟨v, hv, hrow, -⟩, hb2, hnot⟩, hB⟩ hK
   have hc := hv.cell
   have hc2 := hb2.cell
   gi_wp2
   refine wpIn_wide.2 ?_
   go_quiet (fail)
   gi_wp2
   rw [Exit.noGoto_ret]
   have hK' : (W.drewN nq).heap[D]? = some (.deferred (some [])) := hK
   have hrow' : (W.drewN nq).ownsRow w.heap.size 3 1 v (codesOf bs).length ((codesOf bs).map eI) := hrow
   have hB' : Below w.heap.size w (W.drewN nq) := hB.trans ⟨rfl, rfl, rfl, Nat.le_refl _, fun _ _ => rfl⟩
   refine ⟨by simp, .inl ⟨_, _, rfl, run_takeDeferred hK', ?_⟩⟩
   refine ⟨_, results_tmp2 rfl _ _ _, v, hB'.trans (belowK_b (w := w) (Nat.le_refl _) _ D _ _ (by omega) hK' rfl rfl), .inl ⟨rfl, hnot, ?_⟩⟩
   exact Sl.of_own (ownsRow_putObj hrow' _ hK' rfl)
  case stop =>
   rintro D c pre W hD hpre ⟨⟨rfl, hv, hb2, hin⟩, hB⟩ hK
   have hc := hv.cell
   have hc2 := hb2.cell
   gi_wp2
   refine wpIn_wide.2 ?_
   go_quiet (fail)
   gi_wp2
   rw [Exit.noGoto_ret]
   have hK' : (W.drewN nq).heap[D]? = some (.deferred (some [])) := hK
   have hB' : Below w.heap.size w (W.drewN nq) := hB.trans ⟨rfl, rfl, rfl, Nat.le_refl _, fun _ _ => rfl⟩
   refine ⟨by simp, .inl ⟨_, _, rfl, run_takeDeferred hK', ?_⟩⟩
   exact ⟨_, results_tmp2 rfl _ _ _, .slice none 0 0, hB'.trans (belowK_b (w := w) (Nat.le_refl _) _ D _ _ (by omega) hK' rfl rfl), .inr ⟨rfl, hpre.subset hin⟩⟩
end Go.Proofs.YtkibigbcdlilkaaGreatDoor
namespace Go.Proofs.YtkibigbcdlilkaaGreatDoor.Gp
open Go.RowKit Go.Shelf
attribute [local go_sem] Oper.semAt_some run_store_func
def fitsG (y : List UInt8) : Option Int := if y.length < 1 ∨ 999 < y.length then some 2 else if (-1 : Int) ∈ codesOf y then some 10 else none
def missL (y : List UInt8) (s : Int) : UInt8 := letterOf (s - csum y)
theorem missL_tmod (y : List UInt8) (s : Int) : letterOf (s.tmod 4 - csum y) = missL y s := by
 unfold missL letterOf
 congr 2
 rw [Int.tmod_eq_emod]
 split
 · omega
 · simp
   omega
theorem csum_codes (l : List Int) (k : Nat) (h : k < l.length) : (l.take (k + 1)).sum = (l.take k).sum + l[k] := by
 rw [List.take_succ_eq_append_getElem h, List.sum_append]
 simp
theorem codes_bound {y : List UInt8} (h : (-1 : Int) ∉ codesOf y) {x : Int} (hx : x ∈ codesOf y) : 0 ≤ x ∧ x ≤ 3 := by
 obtain ⟨b, hb, rfl⟩ := List.mem_map.1 hx
 have := codeOf_range b.toNat
 have : codeOf b.toNat ≠ -1 := fun e => h (by rw [← e]; exact List.mem_map.2 ⟨b, hb, rfl⟩)
 omega
theorem take_sum_bound {y : List UInt8} (h : (-1 : Int) ∉ codesOf y) (k : Nat) (hk : k ≤ (codesOf y).length) : 0 ≤ ((codesOf y).take k).sum ∧ ((codesOf y).take k).sum ≤ 3 * k := by
 induction k with
 | zero => simp
 | succ k ih =>
   rw [csum_codes _ k (by omega)]
   have h1 := ih (by omega)
   have h2 := codes_bound h (x := (codesOf y)[k]) (List.getElem_mem _)
   omega
set_option maxRecDepth 100000 in
set_option maxHeartbeats 2000000 in
theorem missing_any (y : List UInt8) (s : Int) (sv : Value) (w : World) (hT : Tab w) (hS : Sl eB w.heap.size w sv y) (hreach : y.length ≤ 1000000) :
    Calls Tryz.prog 115 #[sv, .int .i64 s] w fun e w' => Below w.heap.size w w' ∧ ((fitsG y = none ∧ e = .returned (eB (missL y s))) ∨ ∃ m, fitsG y = some m ∧ e = .panicked (errno m)) := by
  obtain ⟨A, cap, rfl⟩ := hS.len
  by_cases h1 : y.length < 1
  · have hg : fitsG y = some 2 := by rw [fitsG, if_pos (by omega)]
    have d1 : decide ((y.length : Int) < 1) = true := decide_eq_true (by omega)
    have Hg := Lib.hid hg
    clear hg h1
    go_enter Tryz.func115, Tryz.ntmps115
    go_wp2_with fail
    exact ⟨rfl, Below.refl _ _, .inr ⟨2, Hg.out, rfl⟩⟩
  by_cases h9 : 999 < y.length
  · have hg : fitsG y = some 2 := by rw [fitsG, if_pos (by omega)]
    have d1 : decide ((y.length : Int) < 1) = false := decide_eq_false (by omega)
    have d2 : decide ((999 : Int) < (y.length : Int)) = true := decide_eq_true (by omega)
    have Hg := Lib.hid hg
    clear hg h1 h9
    go_enter Tryz.func115, Tryz.ntmps115
    go_wp2_with fail
    exact ⟨rfl, Below.refl _ _, .inr ⟨2, Hg.out, rfl⟩⟩
  have d1 : decide ((y.length : Int) < 1) = false := decide_eq_false (by omega)
  have d2 : decide ((999 : Int) < (y.length : Int)) = false := decide_eq_false (by omega)
  have hC := Codes_any (.slice A y.length cap) y (by omega) w hS hT
  have hLt := fun n w hT => Letter_any n w hT
  by_cases hbad : (-1 : Int) ∈ codesOf y
  · have hg : fitsG y = some 10 := by rw [fitsG, if_neg (by omega), if_pos hbad]
    have Hg := Lib.hid hg
    clear hg
    go_enter Tryz.func115, Tryz.ntmps115
    go_wp2_with fail
    go_at_call 124
    refine hC.mono ?_
    rintro e w1 ⟨v, hB, ⟨rfl, hno, hv⟩ | ⟨rfl, hin⟩⟩
    · exact absurd hbad hno
    · clear hC
      go_wp2_with fail
      exact ⟨rfl, hB, .inr ⟨10, Hg.out, rfl⟩⟩
  · have hg : fitsG y = none := by rw [fitsG, if_neg (by omega), if_neg hbad]
    have Hg := Lib.hid hg
    have hcl : (codesOf y).length = y.length := by simp [codesOf]
    have Hy := Lib.hid (show y.length ≤ 999 by omega)
    have hsum : (codesOf y).sum = csum y := by simp [codesOf, csum]
    have HS := Lib.hid hsum
    have Hcl := Lib.hid hcl
    have hb4 : -3 ≤ s.tmod 4 ∧ s.tmod 4 ≤ 3 := by
     have h3 := Int.tmod_lt_of_pos s (b := 4) (by omega)
     have h4 : -4 < s.tmod 4 := by
      rw [Int.tmod_eq_emod]
      split <;> simp <;> omega
     omega
    have hml := missL_tmod y s
    clear hg h1 h9 hcl hsum
    go_enter Tryz.func115, Tryz.ntmps115
    go_wp2_with fail
    go_at_call 124
    refine hC.mono ?_
    rintro e w1 ⟨v, hB, ⟨rfl, hno, hv⟩ | ⟨rfl, hin⟩⟩
    · obtain ⟨Av, cv, rfl⟩ := hv.len
      have hT := hT.below hB
      rw [Hcl.out] at hv ⊢
      clear hC
      go_wp2_with fail
      go_loop [1, 31] (fun v i => ∃ k : Nat, k ≤ y.length ∧ i = .int .i64 k ∧ v = .int .i64 (s.tmod 4 - ((codesOf y).take k).sum)) (fun _ i => y.length - (intOf i).toNat)
      case atStart => exact ⟨0, Nat.zero_le _, rfl, by simp⟩
      case round =>
       obtain ⟨k, hk, rfl, rfl⟩ := hrel
       by_cases hlt : k < y.length
       · obtain ⟨A', c', he, _, hcs⟩ := id hv
         injection he with e1 e2 e3
         subst e1 e3
         have hcl := Hcl.out
         obtain ⟨bk, off, rfl, hbk, hcell⟩ := hcs (by omega)
         have hx := hcell k (codesOf y)[k] (by simp [hcl, hlt])
         have hb1 := codes_bound hno (x := (codesOf y)[k]) (List.getElem_mem _)
         have hb2 := take_sum_bound hno k (by omega)
         have Hs := Lib.hid (csum_codes (codesOf y) k (by omega))
         have hkl : (k : Int) < y.length := by omega
         have Hk := Lib.hid hlt
         have h999 := Hy.out
         generalize (codesOf y)[k] = x at *
         generalize ((codesOf y).take k).sum = S at *
         have e1 : wrap64 (s.tmod 4 - S - x) = s.tmod 4 - S - x := IntWalk.wrap64_in _ (by omega)
         have e1' : IntKind.i64.wrap (s.tmod 4 - S - x) = s.tmod 4 - S - x := IntWalk.i64_in _ (by omega)
         clear hcell hcs hno hlt hcl
         go_wp2_with fail
         refine ⟨⟨k + 1, Hk.out, by go_num, ?_⟩, ?_⟩
         · rw [Hs.out]
           congr 1
           omega
         · have := Hk.out
           simp [intOf]
           omega
       · obtain rfl : k = y.length := by omega
         have e : s.tmod 4 - ((codesOf y).take y.length).sum = s.tmod 4 - csum y := by rw [← Hcl.out, List.take_length, HS.out]
         rw [e]
         clear e hlt hk hno
         have hL := hLt (s.tmod 4 - csum y) w1 hT
         rw [hml] at hL
         go_wp2_with (go_at_call 65; refine hL.mono ?_; rintro e w' ⟨rfl, rfl⟩)
         go_ret
         exact ⟨hB, .inl ⟨Hg.out, rfl⟩⟩
    · exact absurd hin hbad
end Go.Proofs.YtkibigbcdlilkaaGreatDoor.Gp
namespace Go.Proofs.YtkibigbcdlilkaaGreatDoor
open Go.RowKit Go.Shelf
attribute [local go_sem] Oper.semAt_some
set_option maxRecDepth 100000 in
set_option maxHeartbeats 2000000 in
theorem Valid_any (sv : Value) (bs : List UInt8) (hreach : bs.length ≤ 140737488351232) (w : World) (hS : Sl eB w.heap.size w sv bs) (hT : Tab w) :
    Calls Tryz.prog 28 #[sv] w fun e W' => e = .returned (.bool (decide ((-1 : Int) ∉ codesOf bs))) ∧ Below w.heap.size w W' := by
  refine (callsIn_wide (n := 5)).1 ?_
  obtain ⟨A, cap, rfl⟩ := hS.len
  refine callsIn_of_wp_marks Tryz.func28 rfl trivial ?_ rfl
  simp only [Tryz.ntmps28, List.size_toArray, List.length_cons, List.length_nil, Nat.reduceAdd, Nat.reduceSub, Array.replicate_succ, Array.replicate_zero, List.push_toArray, List.append_toArray, List.nil_append, List.cons_append]
  gi_wp2_with (refine ⟨trivial, ?_⟩; gi_at_call 46; refine (callsIn_wide.2 (codes_any _ _ _ _)).mono ?_; rintro e w' ⟨rfl, rfl⟩)
  obtain ⟨W0, hW0⟩ : ∃ W0, (w.alloc (Obj.cells #[Value.bool false] 4)).alloc (Obj.cells #[Value.slice A bs.length cap] 22) = W0 := ⟨_, rfl⟩
  have hs0 : W0.heap.size = w.heap.size + 2 := by rw [← hW0]; simp
  have hB0 : Below w.heap.size w W0 := by
   rw [← hW0]
   exact ((Below.refl _ w).alloc (Nat.le_refl _) _).alloc (by simp) _
  have b1 : Boxed W0 w.heap.size 4 (.bool false) := by
   rw [← hW0]
   exact (Boxed.new w 4 (.bool false)).alloc _
  have b3 : Boxed W0 (w.heap.size + 1) 22 (.slice A bs.length cap) := by
   rw [← hW0]
   have := Boxed.new (w.alloc (Obj.cells #[Value.bool false] 4)) 22 (Value.slice A bs.length cap)
   simpa only [World.size_alloc] using this
  have hT0 : Tab W0 := hT.below hB0
  rw [hW0]
  refine wpIn_rangeFunc_ownG rfl (by decide) (gf := 75) (lb := #[.pointer (some ⟨w.heap.size + 1, 0, none⟩)]) rfl trivial (enters_of Tryz.func75 (by kernel_rfl) rfl)
   (codes_stops 3 (w.heap.size + 1) w.heap.size _ bs (by omega) W0 (by omega) (by omega) hT.lt b3.cell (hS.below hB0) hT0) belowK_t (belowK_b (by omega)) (Below.refl _ _) (fun _ => rfl)
   (fun (pre : List Int) W => (Boxed W w.heap.size 4 (.bool false) ∧ (-1 : Int) ∉ pre) ∧ Below w.heap.size w W)
   (fun c (pre : List Int) W => (c = .ret ∧ Boxed W w.heap.size 4 (.bool false) ∧ (-1 : Int) ∈ pre) ∧ Below w.heap.size w W)
   (OwnFrom.and (OwnFrom.and (Own.from (boxed_own w.heap.size 4 (fun _ => .bool false)) _) (ownFrom_pure _ (fun (pre : List Int) => (-1 : Int) ∉ pre))) (ownFrom_below (Nat.le_refl _) (by omega)))
   (fun c => OwnFrom.and (OwnFrom.and (ownFrom_pure _ (fun _ => c = .ret)) (OwnFrom.and (Own.from (boxed_own w.heap.size 4 (fun _ => .bool false)) _) (ownFrom_pure _ (fun (pre : List Int) => (-1 : Int) ∈ pre)))) (ownFrom_below (Nat.le_refl _) (by omega)))
   ⟨⟨b1, by simp⟩, hB0⟩
   (fun x => { tmps := #[.slice A bs.length cap, undef, .pointer (some ⟨w.heap.size, 0, none⟩), .int .i64 x, .slice A bs.length cap, .func (.func 75) #[] #[.pointer (some ⟨w.heap.size + 1, 0, none⟩)], .int .i64 x, undef, undef], defers := [] }) ?assign ?body ?done ?stop
  case assign =>
   intro l x W K hK
   gi_wp2
   exact hK
  case body =>
   rintro l pre x W ⟨⟨hv, hnot⟩, hB⟩ hlt
   have hc := hv.cell
   have hf := hv.frozen
   by_cases hx : x = -1
   · subst hx
     gi_wp2
     exact ⟨(KeepsOthers.setCell W _ _).from _, ⟨rfl, hv.set _, by simp⟩, hB.setCell (p := ⟨w.heap.size, 0, none⟩) (Nat.le_refl _) _⟩
   · have hxb : (x == -1) = false := by simpa using hx
     gi_wp2
     refine ⟨KeepsFrom.refl _ _, Below.refl _ _, ⟨hv, ?_⟩, hB⟩
     simp only [List.mem_append, List.mem_singleton]
     exact fun h => h.elim hnot (fun e => hx e.symm)
  case done =>
   rintro D ys W hD rfl ⟨⟨hv, hnot⟩, hB⟩ hK
   have hc := hv.cell
   have hf := hv.frozen
   gi_wp2
   have hK' := (KeepsOthers.setCell W ⟨w.heap.size, 0, none⟩ (.bool true)).same D _ hK rfl
   refine ⟨by simp, .inl ⟨_, _, rfl, run_takeDeferred hK', ?_⟩⟩
   have hc5 := cell_kept (hv.set (.bool true)).cell (grownBy_putObj' _ D (.deferred none)) (fun r e => by cases e; exact ⟨_, hK', rfl⟩)
   refine ⟨.bool true, ?_, by simp [hnot], (hB.setCell (p := ⟨w.heap.size, 0, none⟩) (Nat.le_refl _) _).trans (belowK_b (w := w) (Nat.le_refl _) _ D _ _ (by omega) hK' rfl rfl)⟩
   simp [results, Tryz.f28, go_sem, hc5]
  case stop =>
   rintro D c pre W hD hpre ⟨⟨rfl, hv, hin⟩, hB⟩ hK
   have hc := hv.cell
   gi_wp2
   refine ⟨by simp, .inl ⟨_, _, rfl, run_takeDeferred hK, ?_⟩⟩
   have hc5 := cell_kept hc (grownBy_putObj' _ D (.deferred none)) (fun r e => by cases e; exact ⟨_, hK, rfl⟩)
   have hin' := hpre.subset hin
   refine ⟨.bool false, ?_, by simp [hin'], hB.trans (belowK_b (w := w) (Nat.le_refl _) _ D _ _ (by omega) hK rfl rfl)⟩
   simp [results, Tryz.f28, go_sem, hc5]
end Go.Proofs.YtkibigbcdlilkaaGreatDoor
