import Derived.Test.YtjclfkbhakjdaaaDoorBtCY
namespace Go.Proofs.YtjclfkbhakjdaaaDoor.Bt
open Go.RowKit Go.Shelf
attribute [local go_sem] Oper.semAt_some
def LetterAt (y : UInt8 × Nat) : Prop := y.1 = clsOf y.2 0 ∨ y.1 = clsOf y.2 1
def bitB (y : UInt8 × Nat) : UInt8 := if y.1 = clsOf y.2 0 then 0 else 1
theorem clsOf_ne (i : Nat) : clsOf i 0 ≠ clsOf i 1 := by
 unfold clsOf
 split <;> decide
theorem u8_beq_false {x y : UInt8} (h : x ≠ y) : ((x.toNat : Int) == (y.toNat : Int)) = false := by
 rw [beq_eq_false_iff_ne]
 intro e
 apply h
 apply UInt8.toNat_inj.1
 omega
set_option maxRecDepth 100000 in
set_option maxHeartbeats 2000000 in
theorem Back_any (sv : Value) (bs : List UInt8) (hreach : bs.length ≤ 17592186044416) (w : World) (hS : Sl eB w.heap.size w sv bs) (hT : Tab w) :
    Calls Tryd.prog 64 #[sv] w fun e W' => ∃ v, Below w.heap.size w W' ∧
      ((e = .returned (.tuple #[v, .int .i64 0]) ∧ (∀ y ∈ bs.zipIdx, LetterAt y) ∧ Sl eB W'.heap.size W' v (bs.zipIdx.map bitB)) ∨
       (e = .returned (.tuple #[.slice none 0 0, .int .i64 10]) ∧ ¬ ∀ y ∈ bs.zipIdx, LetterAt y)) := by
  refine (callsIn_wide (n := 5)).1 ?_
  obtain ⟨i0, hi, hz0, hz1, hz2⟩ := info_parts info_u8
  obtain ⟨A, cap, rfl⟩ := hS.len
  refine callsIn_of_wp_marks Tryd.func64 rfl trivial ?_ rfl
  simp only [Tryd.ntmps64, List.size_toArray, List.length_cons, List.length_nil, Nat.reduceAdd, Nat.reduceSub, Array.replicate_succ, Array.replicate_zero, List.push_toArray, List.append_toArray, List.nil_append, List.cons_append]
  obtain ⟨C, hCs, hmk⟩ : ∃ C : Array Value, C.size = bs.length ∧ ∀ w, (Instr.makeSlice 24 (.int .i64 0) (.int .i64 (bs.length : Int))).run Tryd.prog w = .ok (.slice (some ⟨w.heap.size, 0, none⟩) 0 bs.length) (w.alloc (.cells C 5)) := by
   refine ⟨madeCells (Value.cells (.int .u8 0)) (bs.length * i0.size), by simp [madeCells, hz1, Value.cells], fun w => ?_⟩
   have := run_make w 24 5 i0 (.int .u8 0) Tryd.underlying24 hi hz0 .i64 .i64 0 (bs.length : Int) (by omega) (by omega) (by rw [hz2]; omega) (by omega)
   simpa using this
  gi_wp2_with fail
  apply wpIn_scope_straight
  gi_wp2_with fail
  apply wpIn_label
  gi_wp2_with (refine ⟨trivial, ?_⟩; gi_at_call 59; refine (callsIn_wide.2 (places_any _ _ _ _)).mono ?_; rintro e w' ⟨rfl, rfl⟩)
  obtain ⟨W0, hW0⟩ : ∃ W0, ((((w.alloc (Obj.cells #[Value.slice none 0 0] 24)).alloc (Obj.cells #[Value.int IntKind.i64 0] 28)).alloc (Obj.cells C 5)).alloc (Obj.cells #[Value.slice (some { block := w.heap.size + 1 + 1, off := 0 }) 0 bs.length] 24)).alloc (Obj.cells #[Value.slice A bs.length cap] 24) = W0 := ⟨_, rfl⟩
  have hs0 : W0.heap.size = w.heap.size + 5 := by rw [← hW0]; simp
  have hB0 : Below w.heap.size w W0 := by
   rw [← hW0]
   exact (((((Below.refl _ w).alloc (Nat.le_refl _) _).alloc (by simp) _).alloc (by simp; omega) _).alloc (by simp; omega) _).alloc (by simp; omega) _
  have hT0 : Tab W0 := hT.below hB0
  have hrow0 : W0.ownsRow (w.heap.size + 1 + 1) 5 1 (Value.slice (some { block := w.heap.size + 1 + 1, off := 0 }) 0 bs.length) 0 [] := by
   rw [← hW0]
   have h0 : (((w.alloc (Obj.cells #[Value.slice none 0 0] 24)).alloc (Obj.cells #[Value.int IntKind.i64 0] 28)).alloc (Obj.cells C 5)).ownsRow ((w.alloc (Obj.cells #[Value.slice none 0 0] 24)).alloc (Obj.cells #[Value.int IntKind.i64 0] 28)).heap.size 5 1 (.slice (some ⟨((w.alloc (Obj.cells #[Value.slice none 0 0] 24)).alloc (Obj.cells #[Value.int IntKind.i64 0] 28)).heap.size, 0, none⟩) 0 bs.length) 0 [] := World.ownsRow_made _ C bs.length (Nat.le_refl _) (by unfold maxLen; omega) (by omega)
   have := (h0.alloc (Obj.cells #[Value.slice (some { block := w.heap.size + 1 + 1, off := 0 }) 0 bs.length] 24)).alloc (Obj.cells #[Value.slice A bs.length cap] 24)
   simpa only [World.size_alloc] using this
  have b1 : Boxed W0 w.heap.size 24 (.slice none 0 0) := by
   rw [← hW0]
   exact ((((Boxed.new w 24 (Value.slice none 0 0)).alloc _).alloc _).alloc _).alloc _
  have b2 : Boxed W0 (w.heap.size + 1) 28 (.int .i64 0) := by
   rw [← hW0]
   have := (((Boxed.new (w.alloc (Obj.cells #[Value.slice none 0 0] 24)) 28 (Value.int IntKind.i64 0)).alloc (Obj.cells C 5)).alloc (Obj.cells #[Value.slice (some { block := w.heap.size + 1 + 1, off := 0 }) 0 bs.length] 24)).alloc (Obj.cells #[Value.slice A bs.length cap] 24)
   simpa only [World.size_alloc] using this
  have b4 : Boxed W0 (w.heap.size + 1 + 1 + 1) 24 (Value.slice (some { block := w.heap.size + 1 + 1, off := 0 }) 0 bs.length) := by
   rw [← hW0]
   have := (Boxed.new (((w.alloc (Obj.cells #[Value.slice none 0 0] 24)).alloc (Obj.cells #[Value.int IntKind.i64 0] 28)).alloc (Obj.cells C 5)) 24 (Value.slice (some { block := w.heap.size + 1 + 1, off := 0 }) 0 bs.length)).alloc (Obj.cells #[Value.slice A bs.length cap] 24)
   simpa only [World.size_alloc] using this
  have b5 : Boxed W0 (w.heap.size + 1 + 1 + 1 + 1) 24 (Value.slice A bs.length cap) := by
   rw [← hW0]
   have := Boxed.new ((((w.alloc (Obj.cells #[Value.slice none 0 0] 24)).alloc (Obj.cells #[Value.int IntKind.i64 0] 28)).alloc (Obj.cells C 5)).alloc (Obj.cells #[Value.slice (some { block := w.heap.size + 1 + 1, off := 0 }) 0 bs.length] 24)) 24 (Value.slice A bs.length cap)
   simpa only [World.size_alloc] using this
  rw [hW0]
  refine wpIn_rangeFunc_ownH rfl (by decide) (gf := 83) (lb := #[.pointer (some ⟨w.heap.size + 1 + 1 + 1 + 1, 0, none⟩)]) rfl trivial (enters_of Tryd.func83 (by kernel_rfl) rfl)
   (places_stops id bs.zipIdx 3 (w.heap.size + 1 + 1 + 1 + 1) w.heap.size _ bs (by simp) (by omega) W0 (by omega) (by omega) hT.lt b5.cell (hS.below hB0) hT0) belowK_t (belowK_b (by omega)) (Below.refl _ _) (fun _ => rfl)
   (fun (pre : List (UInt8 × Nat)) W => ((∃ v, Boxed W (w.heap.size + 1 + 1 + 1) 24 v ∧ W.ownsRow (w.heap.size + 1 + 1) 5 1 v pre.length ((pre.map bitB).map eB) ∧ True) ∧ Boxed W w.heap.size 24 (.slice none 0 0) ∧ Boxed W (w.heap.size + 1) 28 (.int .i64 0) ∧ (∀ y ∈ pre, LetterAt y)) ∧ Below w.heap.size w W)
   (fun c (pre : List (UInt8 × Nat)) W => (c = .ret ∧ Boxed W w.heap.size 24 (.slice none 0 0) ∧ Boxed W (w.heap.size + 1) 28 (.int .i64 10) ∧ ¬ ∀ y ∈ pre, LetterAt y) ∧ Below w.heap.size w W)
   (OwnFrom.and (OwnFrom.and (Own.from (holdsRow_own (w.heap.size + 1 + 1) (w.heap.size + 1 + 1 + 1) 24 5 1 (fun (pre : List (UInt8 × Nat)) => pre.length) (fun (pre : List (UInt8 × Nat)) => (pre.map bitB).map eB) (fun _ _ => True)) _) (OwnFrom.and (Own.from (boxed_own w.heap.size 24 (fun _ => .slice none 0 0)) _) (OwnFrom.and (Own.from (boxed_own (w.heap.size + 1) 28 (fun _ => .int .i64 0)) _) (ownFrom_pure _ (fun (pre : List (UInt8 × Nat)) => ∀ y ∈ pre, LetterAt y))))) (ownFrom_below (Nat.le_refl _) (by omega)))
   (fun c => OwnFrom.and (OwnFrom.and (ownFrom_pure _ (fun _ => c = .ret)) (OwnFrom.and (Own.from (boxed_own w.heap.size 24 (fun _ => .slice none 0 0)) _) (OwnFrom.and (Own.from (boxed_own (w.heap.size + 1) 28 (fun _ => .int .i64 10)) _) (ownFrom_pure _ (fun (pre : List (UInt8 × Nat)) => ¬ ∀ y ∈ pre, LetterAt y))))) (ownFrom_below (Nat.le_refl _) (by omega)))
   ⟨⟨⟨_, b4, hrow0, trivial⟩, b1, b2, by simp⟩, hB0⟩
   (fun x a' W => ∃ p, Boxed2 W p 85 (eB (clsOf x.2 0)) (eB (clsOf x.2 1)) ∧ a' = { tmps := #[.slice A bs.length cap, undef, .pointer (some ⟨w.heap.size, 0, none⟩), .pointer (some ⟨w.heap.size + 1, 0, none⟩), .pointer (some ⟨w.heap.size + 1 + 1 + 1, 0, none⟩), eB x.1, .pointer (some ⟨p, 0, none⟩), undef, undef, .slice A bs.length cap, .int .i64 bs.length, .slice (some ⟨w.heap.size + 1 + 1, 0, none⟩) 0 bs.length, .slice A bs.length cap, .func (.func 83) #[] #[.pointer (some ⟨w.heap.size + 1 + 1 + 1 + 1, 0, none⟩)], eB x.1, clsV x.2, undef, undef, undef, undef, undef, undef, undef, undef, undef, undef, undef, undef, undef, undef, undef], defers := [] })
   ?hAx ?assign ?body ?done ?stop
  case hAx =>
   intro x a' s X Y row hs hg hrow
   obtain ⟨p, hp, e⟩ := hs
   exact ⟨p, (hg.block p hp.lt (fun e' => by obtain ⟨_, o, ho, hc⟩ := hrow p e'.symm; rw [show X.heap[p]? = _ from hp] at ho; cases ho; cases hc)).trans hp, e⟩
  case assign =>
   intro l pre x W K hI hK
   simp only [clsV] at hK ⊢
   gi_wp2
   obtain ⟨⟨⟨v, hv, hrow, -⟩, hb1, hb2, hok⟩, hB⟩ := hI
   exact hK _ _ ((KeepsOthers.alloc _ _).from _) ((Below.refl _ W).alloc hB.size _) ⟨⟨⟨v, hv.alloc _, hrow.alloc _, trivial⟩, hb1.alloc _, hb2.alloc _, hok⟩, hB.alloc hB.size _⟩ ⟨W.heap.size, World.alloc_heap_new W _, rfl⟩
  case body =>
   rintro l pre ⟨c, at_⟩ a' W - - ⟨⟨⟨v, hv, hrow, -⟩, hb1, hb2, hok⟩, hB⟩ ⟨p, hp, rfl⟩ hlt
   dsimp only at hp ⊢
   have hc0 := hp.cell0
   have hc1 := hp.cell1
   have hm1 : pre.length + 1 ≤ maxLen := by unfold maxLen; omega
   have hcv := hv.cell
   have hfv := hv.frozen
   have hne := clsOf_ne at_
   have hsz : w.heap.size + 1 + 1 ≤ W.heap.size := by have := hv.lt; omega
   have hix : ∀ (u v : Value) (w : World), (Instr.index 85 (.agg #[u, v]) (.int .i64 0)).run Tryd.prog w = .ok u w ∧ (Instr.index 85 (.agg #[u, v]) (.int .i64 1)).run Tryd.prog w = .ok v w := fun u v w => ⟨by kernel_rfl, by kernel_rfl⟩
   have hix0 := fun w => (hix (eB (clsOf at_ 0)) (eB (clsOf at_ 1)) w).1
   have hix1 := fun w => (hix (eB (clsOf at_ 0)) (eB (clsOf at_ 1)) w).2
   gi_wp2_with fail
   by_cases h0 : c = clsOf at_ 0
   · have HB := Lib.hid (show bitB (c, at_) = 0 by simp [bitB, h0])
     have HL := Lib.hid (show LetterAt (c, at_) from .inl h0)
     have he : ((c.toNat : Int) == ((clsOf at_ 0).toNat : Int)) = true := by rw [h0]; simp
     clear h0 hne hix
     refine wpIn_loop_rounds 3 ?_
     rw [roundsIn_succ]
     gi_wp2_with (gi_at_builtin; refine wpListIn_append_own _ rfl _ _ 24 rfl (w.heap.size + 1 + 1) 5 i0 (.int .u8 0) 1 1 Tryd.underlying24 hi hz0 hz1 hz2 rfl (by decide) _ _ _ rfl (hrow.alloc _) ⟨W.heap.size, 0, none⟩ 1 1 [.int .u8 0] rfl rfl (cell_one_new _ _ _) (by simp [Value.oneCell']) hm1 (by omega) (by have := hB.size; simp; omega) ?_; intro v' w2 hown' hgrow _; obtain ⟨g', cap', rfl⟩ := ownsRow_succ hown'; obtain ⟨hv1', hv2', hr2, hk2, hbl2⟩ := hv.appended (by decide) hrow hsz (Nat.le_succ _) hown' hgrow; have hcw1 := hv1'.cell; have hfw1 := hv1'.frozen)
     refine ⟨hk2.from _, hbl2.mono (by omega), ⟨⟨_, hv2', by simpa [HB.out, show eB 0 = .int .u8 0 from rfl, show eB 1 = .int .u8 1 from rfl] using hr2, trivial⟩, ?_, ?_, ?_⟩, hB.trans (hbl2.mono (by omega))⟩
     · exact (((hb1.alloc _).kept hgrow ((hb1.alloc (.cells #[.int .u8 0] 5)).not_row (by decide) (hrow.alloc (.cells #[.int .u8 0] 5)))).other (by omega) _)
     · exact (((hb2.alloc _).kept hgrow ((hb2.alloc (.cells #[.int .u8 0] 5)).not_row (by decide) (hrow.alloc (.cells #[.int .u8 0] 5)))).other (by omega) _)
     · intro y hy
       rcases List.mem_append.1 hy with hy | hy
       · exact hok y hy
       · rw [List.mem_singleton.1 hy]; exact HL.out
   · have hb0 := u8_beq_false h0
     by_cases h1 : c = clsOf at_ 1
     · have HB := Lib.hid (show bitB (c, at_) = 1 by simp [bitB, h0])
       have HL := Lib.hid (show LetterAt (c, at_) from .inr h1)
       have he : ((c.toNat : Int) == ((clsOf at_ 1).toNat : Int)) = true := by rw [h1]; simp
       clear h0 h1 hne hix
       refine wpIn_loop_rounds 3 ?_
       rw [roundsIn_succ]
       gi_wp2_with fail
       rw [roundsIn_succ]
       gi_wp2_with (gi_at_builtin; refine wpListIn_append_own _ rfl _ _ 24 rfl (w.heap.size + 1 + 1) 5 i0 (.int .u8 0) 1 1 Tryd.underlying24 hi hz0 hz1 hz2 rfl (by decide) _ _ _ rfl (hrow.alloc _) ⟨W.heap.size, 0, none⟩ 1 1 [.int .u8 1] rfl rfl (cell_one_new _ _ _) (by simp [Value.oneCell']) hm1 (by omega) (by have := hB.size; simp; omega) ?_; intro v' w2 hown' hgrow _; obtain ⟨g', cap', rfl⟩ := ownsRow_succ hown'; obtain ⟨hv1', hv2', hr2, hk2, hbl2⟩ := hv.appended (by decide) hrow hsz (Nat.le_succ _) hown' hgrow; have hcw1 := hv1'.cell; have hfw1 := hv1'.frozen)
       refine ⟨hk2.from _, hbl2.mono (by omega), ⟨⟨_, hv2', by simpa [HB.out, show eB 0 = .int .u8 0 from rfl, show eB 1 = .int .u8 1 from rfl] using hr2, trivial⟩, ?_, ?_, ?_⟩, hB.trans (hbl2.mono (by omega))⟩
       · exact (((hb1.alloc _).kept hgrow ((hb1.alloc (.cells #[.int .u8 1] 5)).not_row (by decide) (hrow.alloc (.cells #[.int .u8 1] 5)))).other (by omega) _)
       · exact (((hb2.alloc _).kept hgrow ((hb2.alloc (.cells #[.int .u8 1] 5)).not_row (by decide) (hrow.alloc (.cells #[.int .u8 1] 5)))).other (by omega) _)
       · intro y hy
         rcases List.mem_append.1 hy with hy | hy
         · exact hok y hy
         · rw [List.mem_singleton.1 hy]; exact HL.out
     · have hb1' := u8_beq_false h1
       have HN := Lib.hid (show ¬ LetterAt (c, at_) from fun h => h.elim h0 h1)
       clear h0 h1 hne hix
       have hcr1 := hb1.cell
       have hfr1 := hb1.frozen
       have hcr2 := hb2.cell
       have hfr2 := hb2.frozen
       refine wpIn_loop_rounds 3 ?_
       rw [roundsIn_succ]
       gi_wp2_with fail
       rw [roundsIn_succ]
       gi_wp2_with fail
       rw [roundsIn_succ]
       gi_wp2_with fail
       refine ⟨((KeepsOthers.setCell W _ _).trans (KeepsOthers.setCell _ _ _)).from _, ⟨rfl, ?_, ?_, ?_⟩, ?_⟩
       · exact (hb1.set _).other (by omega) _
       · exact (hb2.other (by omega) _).set _
       · exact fun h => HN.out (h (c, at_) (by simp))
       · exact (hB.setCell (p := ⟨w.heap.size, 0, none⟩) (by simp) _).setCell (p := ⟨w.heap.size + 1, 0, none⟩) (by simp) _
  case done =>
   rintro D ys W hD rfl ⟨⟨⟨v, hv, hrow, -⟩, hb1, hb2, hok⟩, hB⟩ hK
   have hc := hv.cell
   have hc1 := hb1.cell
   have hf1 := hb1.frozen
   have hc2 := hb2.cell
   have hf2 := hb2.frozen
   have hlv := hv.lt
   obtain ⟨Av, cv, ev⟩ := (Sl.of_own (enc := eB) (xs := bs.zipIdx.map bitB) hrow).len
   obtain rfl : v = .slice Av bs.length cv := by simpa using ev
   clear ev
   gi_wp2
   rw [Exit.noGoto_ret]
   have hK' := ((KeepsOthers.setCell W ⟨w.heap.size, 0, none⟩ (.slice Av bs.length cv)).trans (KeepsOthers.setCell _ ⟨w.heap.size + 1, 0, none⟩ (.int .i64 0))).same D _ hK rfl
   have hrow1 := hrow.kept (grownBy_setCell' W w.heap.size (.slice Av bs.length cv)) (.inr (hb1.not_row (by decide) hrow).symm)
   have hrow2 := hrow1.kept (grownBy_setCell' _ (w.heap.size + 1) (.int .i64 0)) (.inr ((hb2.other (by omega) (.slice Av bs.length cv)).not_row (by decide) hrow1).symm)
   refine ⟨by simp, .inl ⟨_, _, rfl, run_takeDeferred hK', ?_⟩⟩
   have hr1 : Boxed ((W.setCell ⟨w.heap.size, 0, none⟩ (.slice Av bs.length cv)).setCell ⟨w.heap.size + 1, 0, none⟩ (.int .i64 0)) w.heap.size 24 (.slice Av bs.length cv) := (hb1.set _).other (by omega) _
   have hr2 : Boxed ((W.setCell ⟨w.heap.size, 0, none⟩ (.slice Av bs.length cv)).setCell ⟨w.heap.size + 1, 0, none⟩ (.int .i64 0)) (w.heap.size + 1) 28 (.int .i64 0) := (hb2.other (by omega) _).set _
   have hc5 := cell_kept hr1.cell (grownBy_putObj' _ D (.deferred none)) (fun r e => by cases e; exact ⟨_, hK', rfl⟩)
   have hc6 := cell_kept hr2.cell (grownBy_putObj' _ D (.deferred none)) (fun r e => by cases e; exact ⟨_, hK', rfl⟩)
   refine ⟨.tuple #[(.slice Av bs.length cv), .int .i64 0], ?_, (.slice Av bs.length cv), ((hB.setCell (p := ⟨w.heap.size, 0, none⟩) (by simp) _).setCell (p := ⟨w.heap.size + 1, 0, none⟩) (by simp) _).trans (belowK_b (w := w) (Nat.le_refl _) _ D _ _ (by omega) hK' rfl rfl), .inl ⟨rfl, hok, ?_⟩⟩
   · simp [results, Tryd.f64, go_sem, hc5, hc6]
   · exact Sl.of_own (ownsRow_putObj hrow2 _ hK' rfl)
  case stop =>
   rintro D c pre W hD hpre ⟨⟨rfl, hb1, hb2, hin⟩, hB⟩ hK
   gi_wp2
   refine ⟨by simp, .inl ⟨_, _, rfl, run_takeDeferred hK, ?_⟩⟩
   have hc5 := cell_kept hb1.cell (grownBy_putObj' _ D (.deferred none)) (fun r e => by cases e; exact ⟨_, hK, rfl⟩)
   have hc6 := cell_kept hb2.cell (grownBy_putObj' _ D (.deferred none)) (fun r e => by cases e; exact ⟨_, hK, rfl⟩)
   refine ⟨.tuple #[.slice none 0 0, .int .i64 10], ?_, .slice none 0 0, hB.trans (belowK_b (w := w) (Nat.le_refl _) _ D _ _ (by omega) hK rfl rfl), .inr ⟨rfl, fun h => hin fun y hy => h y (hpre.subset hy)⟩⟩
   simp [results, Tryd.f64, go_sem, hc5, hc6]
end Go.Proofs.YtjclfkbhakjdaaaDoor.Bt
