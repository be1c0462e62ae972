import Derived.Test.YtjclfkbhakjdaaaDoorBtBY
namespace Go.Proofs.YtjclfkbhakjdaaaDoor.Bt
open Go.RowKit Go.Shelf
attribute [local go_sem] Oper.semAt_some
theorem info_u8 : (Tryd.prog.info? 5).map (fun i => (i.zero, i.size, i.bytes)) = some (some (.int .u8 0), 1, 1) := by kernel_rfl
def fieldOf (bs : List UInt8) : List UInt8 := bs.zipIdx.map fun y => clsOf y.2 y.1.toNat
theorem fieldOf_length (bs : List UInt8) : (fieldOf bs).length = bs.length := by simp [fieldOf]
abbrev BitAt := {y : UInt8 × Nat // y.1.toNat ≤ 1}
def Boxed2 (W : World) (B : Nat) (t : TypeId) (u v : Value) : Prop := W.heap[B]? = some (.cells #[u, v] t (0, 0))
theorem Boxed2.lt {W : World} {B : Nat} {t : TypeId} {u v : Value} (h : Boxed2 W B t u v) : B < W.heap.size := (Array.getElem?_eq_some_iff.1 h).1
theorem Boxed2.cell0 {W : World} {B : Nat} {t : TypeId} {u v : Value} (h : Boxed2 W B t u v) : W.cell? ⟨B, 0, none⟩ = some u := by simp [World.cell?, show W.heap[B]? = _ from h]
theorem Boxed2.cell1 {W : World} {B : Nat} {t : TypeId} {u v : Value} (h : Boxed2 W B t u v) : W.cell? ⟨B, 1, none⟩ = some v := by simp [World.cell?, show W.heap[B]? = _ from h]
set_option maxRecDepth 100000 in
set_option maxHeartbeats 2000000 in
theorem Field_any (sv : Value) (bs : List UInt8) (hreach : bs.length ≤ 17592186044416) (w : World) (hS : Sl eB w.heap.size w sv bs) (hT : Tab w) :
    Calls Tryd.prog 39 #[sv] w fun e W' => ∃ v, Below w.heap.size w W' ∧
      ((e = .returned (.tuple #[v, .int .i64 0]) ∧ (∀ b ∈ bs, b.toNat ≤ 1) ∧ ∃ B, w.heap.size ≤ B ∧ B ≤ W'.heap.size ∧ W'.ownsRow B 5 1 v (fieldOf bs).length ((fieldOf bs).map eB)) ∨
       (e = .returned (.tuple #[.slice none 0 0, .int .i64 2]) ∧ ¬ ∀ b ∈ bs, b.toNat ≤ 1)) := by
  refine (callsIn_wide (n := 5)).1 ?_
  obtain ⟨i0, hi, hz0, hz1, hz2⟩ := info_parts info_u8
  obtain ⟨A, cap, rfl⟩ := hS.len
  refine callsIn_of_wp_marks Tryd.func39 rfl trivial ?_ rfl
  simp only [Tryd.ntmps39, List.size_toArray, List.length_cons, List.length_nil, Nat.reduceAdd, Nat.reduceSub, Array.replicate_succ, Array.replicate_zero, List.push_toArray, List.append_toArray, List.nil_append, List.cons_append]
  gi_wp2_with fail
  refine ⟨trivial, ?_⟩
  gi_at_call 58
  refine (callsIn_wide.2 (areBits_any _ bs (by omega) _ hS hT)).mono ?_
  rintro e w1 ⟨rfl, hB1⟩
  by_cases hall : ∀ b ∈ bs, b.toNat ≤ 1
  · have hd : decide (∀ b ∈ bs, b.toNat ≤ 1) = true := decide_eq_true hall
    rw [hd]
    have hT1 : Tab w1 := hT.below hB1
    have hS1 := hS.next hB1
    have hsz1 : w.heap.size ≤ w1.heap.size := hB1.size
    obtain ⟨C, hCs, hmk⟩ : ∃ C : Array Value, C.size = bs.length ∧ ∀ w, (Instr.makeSlice 24 (.int .i64 0) (.int .i64 (bs.length : Int))).run Tryd.prog w = .ok (.slice (some ⟨w.heap.size, 0, none⟩) 0 bs.length) (w.alloc (.cells C 5)) := by
     refine ⟨madeCells (Value.cells (.int .u8 0)) (bs.length * i0.size), by simp [madeCells, hz1, Value.cells], fun w => ?_⟩
     have := run_make w 24 5 i0 (.int .u8 0) Tryd.underlying24 hi hz0 .i64 .i64 0 (bs.length : Int) (by omega) (by omega) (by rw [hz2]; omega) (by omega)
     simpa using this
    gi_wp2_with (refine ⟨trivial, ?_⟩; gi_at_call 59; refine (callsIn_wide.2 (places_any _ _ _ _)).mono ?_; rintro e w' ⟨rfl, rfl⟩)
    obtain ⟨W0, hW0⟩ : ∃ W0, ((w1.alloc (Obj.cells C 5)).alloc (Obj.cells #[Value.slice (some { block := w1.heap.size, off := 0 }) 0 bs.length] 24)).alloc (Obj.cells #[Value.slice A bs.length cap] 24) = W0 := ⟨_, rfl⟩
    have hs0 : W0.heap.size = w1.heap.size + 3 := by rw [← hW0]; simp
    have hB10 : Below w1.heap.size w1 W0 := by
     rw [← hW0]
     exact (((Below.refl _ w1).alloc (Nat.le_refl _) _).alloc (by simp) _).alloc (by simp; omega) _
    have hrow0 : W0.ownsRow w1.heap.size 5 1 (.slice (some ⟨w1.heap.size, 0, none⟩) 0 bs.length) 0 [] := by
     rw [← hW0]
     exact ((World.ownsRow_made w1 C bs.length (Nat.le_refl _) (by unfold maxLen; omega) (by omega)).alloc _).alloc _
    have b1 : Boxed W0 (w1.heap.size + 1) 24 (.slice (some ⟨w1.heap.size, 0, none⟩) 0 bs.length) := by
     rw [← hW0]
     have := (Boxed.new (w1.alloc (Obj.cells C 5)) 24 (Value.slice (some { block := w1.heap.size, off := 0 }) 0 bs.length)).alloc (Obj.cells #[Value.slice A bs.length cap] 24)
     simpa only [World.size_alloc] using this
    have b3 : Boxed W0 (w1.heap.size + 1 + 1) 24 (.slice A bs.length cap) := by
     rw [← hW0]
     have := Boxed.new ((w1.alloc (Obj.cells C 5)).alloc (Obj.cells #[Value.slice (some { block := w1.heap.size, off := 0 }) 0 bs.length] 24)) 24 (Value.slice A bs.length cap)
     simpa only [World.size_alloc] using this
    have hT0 : Tab W0 := hT1.below hB10
    rw [hW0]
    obtain ⟨xs, hxs⟩ : ∃ xs : List BitAt, xs.map Subtype.val = bs.zipIdx := ⟨bs.zipIdx.attachWith _ ((allBits_idx bs).1 hall), List.attachWith_map_subtype_val ..⟩
    refine wpIn_rangeFunc_ownH rfl (by decide) (gf := 83) (lb := #[.pointer (some ⟨w1.heap.size + 1 + 1, 0, none⟩)]) rfl trivial (enters_of Tryd.func83 (by kernel_rfl) rfl)
     (places_stops Subtype.val xs 3 (w1.heap.size + 1 + 1) w1.heap.size _ bs hxs (by omega) W0 (by omega) (by omega) hT1.lt b3.cell (hS1.below hB10) hT0) belowK_t (belowK_b (by omega)) (Below.refl _ _) (fun _ => rfl)
     (fun (pre : List BitAt) W => (∃ v, Boxed W (w1.heap.size + 1) 24 v ∧ W.ownsRow w1.heap.size 5 1 v pre.length ((pre.map fun x => clsOf x.1.2 x.1.1.toNat).map eB) ∧ True) ∧ Below w1.heap.size w1 W)
     (fun _ _ _ => False)
     (OwnFrom.and (Own.from (holdsRow_own w1.heap.size (w1.heap.size + 1) 24 5 1 (fun (pre : List BitAt) => pre.length) (fun (pre : List BitAt) => (pre.map fun x => clsOf x.1.2 x.1.1.toNat).map eB) (fun _ _ => True)) _) (ownFrom_below (Nat.le_refl _) (by omega)))
     (fun _ _ _ _ _ hs _ _ => hs)
     ⟨⟨_, b1, hrow0, trivial⟩, hB10⟩
     (fun x a' W => ∃ p, Boxed2 W p 85 (eB (clsOf x.1.2 0)) (eB (clsOf x.1.2 1)) ∧ a' = { tmps := #[.slice A bs.length cap, undef, .slice none 0 0, .int .i64 0, .pointer (some ⟨w1.heap.size + 1, 0, none⟩), eB x.1.1, .pointer (some ⟨p, 0, none⟩), .slice A bs.length cap, .bool true, .bool false, .slice A bs.length cap, .int .i64 bs.length, .slice (some ⟨w1.heap.size, 0, none⟩) 0 bs.length, .slice A bs.length cap, .func (.func 83) #[] #[.pointer (some ⟨w1.heap.size + 1 + 1, 0, none⟩)], eB x.1.1, clsV x.1.2, undef, undef, undef, undef, undef, undef, undef], defers := [] })
     ?hAx ?assign ?body ?done ?stop
    case hAx =>
     intro x a' s X Y row hs hg hrow
     obtain ⟨p, hp, e⟩ := hs
     exact ⟨p, (hg.block p hp.lt (fun e' => by obtain ⟨_, o, ho, hc⟩ := hrow p e'.symm; rw [show X.heap[p]? = _ from hp] at ho; cases ho; cases hc)).trans hp, e⟩
    case assign =>
     intro l pre x W K hI hK
     simp only [clsV] at hK ⊢
     gi_wp2
     obtain ⟨⟨v, hv, hrow, -⟩, hB⟩ := hI
     exact hK _ _ ((KeepsOthers.alloc _ _).from _) ((Below.refl _ W).alloc hB.size _) ⟨⟨v, hv.alloc _, hrow.alloc _, trivial⟩, hB.alloc hB.size _⟩ ⟨W.heap.size, World.alloc_heap_new W _, rfl⟩
    case body =>
     rintro l pre ⟨⟨c, at_⟩, hc01⟩ a' W - - ⟨⟨v, hv, hrow, -⟩, hB⟩ ⟨p, hp, rfl⟩ hlt
     dsimp only at hc01 hp ⊢
     have hm1 : pre.length + 1 ≤ maxLen := by unfold maxLen; omega
     have hcc : c = 0 ∨ c = 1 := by
      rcases (show c.toNat = 0 ∨ c.toNat = 1 by omega) with h | h
      · exact .inl (UInt8.toNat_inj.1 h)
      · exact .inr (UInt8.toNat_inj.1 h)
     obtain ⟨bit, hbit⟩ : ∃ bit, c.toNat = bit := ⟨_, rfl⟩
     gi_wp2_with fail
     refine wpIn_region_paths (by kernel_rfl) [[0, 1, 2, 3, 4, 5, 6], [1, 0, 2, 3, 4, 5, 6], [1, 2, 0, 3, 4, 5, 6], [1, 2, 3, 0, 4, 5, 6], [1, 2, 3, 4, 0, 5, 6]] (by kernel_rfl) ?_
     obtain ⟨Wd, hWd⟩ : ∃ Wd, W.drew = Wd := ⟨_, rfl⟩
     have hkd : KeepsOthers W Wd := by rw [← hWd]; exact KeepsOthers.drew _
     have hbd : Below w1.heap.size W Wd := by rw [← hWd]; exact (Below.refl _ _).drew
     have hvd : Boxed Wd (w1.heap.size + 1) 24 v := by rw [← hWd]; exact hv
     have hpd : Boxed2 Wd p 85 (eB (clsOf at_ 0)) (eB (clsOf at_ 1)) := by rw [← hWd]; exact hp
     have hrowd : Wd.ownsRow w1.heap.size 5 1 v pre.length ((pre.map fun x => clsOf x.1.2 x.1.1.toNat).map eB) := by rw [← hWd]; exact hrow
     have hBd : Below w1.heap.size w1 Wd := hB.trans hbd
     have hcd := hvd.cell
     have hfd := hvd.frozen
     have hld : w1.heap.size + 1 < Wd.heap.size := hvd.lt
     rw [hWd]
     clear hWd hrow hv hB hp
     simp only [EachPath, and_true, pick_cons, pick_nil, Option.toList_some, List.cons_append, List.nil_append, List.getElem?_cons_zero, List.getElem?_cons_succ]
     rcases hcc with rfl | rfl
     · have hq : Wd.cell? ⟨p, 0, none⟩ = some (eB (clsOf at_ 0)) := hpd.cell0
       generalize hu : clsOf at_ 0 = u at *
       have Hu := Lib.hid hu
       clear hu
       have hcd2 : (Wd.alloc (.cells #[eB u] 5)).cell? ⟨w1.heap.size + 1, 0, none⟩ = some v := (hvd.alloc _).cell
       clear hpd
       simp only [eB, show ((0 : UInt8).toNat : Int) = 0 from rfl]
       refine ⟨?_, ?_, ?_, ?_, ?_⟩
       all_goals
        gi_wp2_with (gi_at_builtin; refine wpListIn_append_own _ rfl _ _ 24 rfl w1.heap.size 5 i0 (.int .u8 0) 1 1 Tryd.underlying24 hi hz0 hz1 hz2 rfl (by decide) _ _ _ rfl (hrowd.alloc _) ⟨Wd.heap.size, 0, none⟩ 1 1 [eB u] rfl rfl (cell_one_new _ _ _) (by simp [Value.oneCell']) hm1 (by omega) (by have := hBd.size; simp; omega) ?_; intro v' w2 hown' hgrow _; obtain ⟨g', cap', rfl⟩ := ownsRow_succ hown'; obtain ⟨hv1', hv2', hr2, hk2, hbl2⟩ := hvd.appended (by decide) hrowd hBd.size (Nat.le_succ _) hown' hgrow; have hc1 := hv1'.cell; have hf1 := hv1'.frozen)
        exact ⟨(hkd.trans hk2).from _, hbd.trans hbl2, ⟨_, hv2', by simpa [Hu.out] using hr2, trivial⟩, hBd.trans hbl2⟩
     · have hq : Wd.cell? ⟨p, 1, none⟩ = some (eB (clsOf at_ 1)) := hpd.cell1
       generalize hu : clsOf at_ 1 = u at *
       have Hu := Lib.hid hu
       clear hu
       have hcd2 : (Wd.alloc (.cells #[eB u] 5)).cell? ⟨w1.heap.size + 1, 0, none⟩ = some v := (hvd.alloc _).cell
       clear hpd
       simp only [eB, show ((1 : UInt8).toNat : Int) = 1 from rfl]
       refine ⟨?_, ?_, ?_, ?_, ?_⟩
       all_goals
        gi_wp2_with (gi_at_builtin; refine wpListIn_append_own _ rfl _ _ 24 rfl w1.heap.size 5 i0 (.int .u8 0) 1 1 Tryd.underlying24 hi hz0 hz1 hz2 rfl (by decide) _ _ _ rfl (hrowd.alloc _) ⟨Wd.heap.size, 0, none⟩ 1 1 [eB u] rfl rfl (cell_one_new _ _ _) (by simp [Value.oneCell']) hm1 (by omega) (by have := hBd.size; simp; omega) ?_; intro v' w2 hown' hgrow _; obtain ⟨g', cap', rfl⟩ := ownsRow_succ hown'; obtain ⟨hv1', hv2', hr2, hk2, hbl2⟩ := hvd.appended (by decide) hrowd hBd.size (Nat.le_succ _) hown' hgrow; have hc1 := hv1'.cell; have hf1 := hv1'.frozen)
        exact ⟨(hkd.trans hk2).from _, hbd.trans hbl2, ⟨_, hv2', by simpa [Hu.out] using hr2, trivial⟩, hBd.trans hbl2⟩
    case done =>
     rintro D ys W hD rfl ⟨⟨v, hv, hrow, -⟩, hB⟩ hK
     have hc := hv.cell
     gi_wp2
     refine ⟨by simp, .inl ⟨_, _, rfl, run_takeDeferred hK, ?_⟩⟩
     refine ⟨_, results_tmp2 rfl _ _ _, v, below_trans hB1 (hB.trans (belowK_b (w := w1) (Nat.le_refl _) _ D _ _ (by omega) hK rfl rfl)), .inl ⟨rfl, hall, ?_⟩⟩
     have hlist : ys.map (fun x => clsOf x.1.2 x.1.1.toNat) = fieldOf bs := by
      rw [fieldOf, ← hxs, List.map_map]; rfl
     rw [← hlist, List.length_map]
     exact ⟨w1.heap.size, hB1.size, (hB.trans (belowK_b (w := w1) (Nat.le_refl _) _ D _ _ (by omega) hK rfl rfl)).size, ownsRow_putObj hrow _ hK rfl⟩
    case stop =>
     rintro D c pre W _ _ h _
     exact h.elim
  · have hd : decide (∀ b ∈ bs, b.toNat ≤ 1) = false := decide_eq_false hall
    rw [hd]
    gi_wp2
    exact ⟨_, results_tmp2 rfl _ _ _, .slice none 0 0, hB1, .inr ⟨rfl, hall⟩⟩
end Go.Proofs.YtjclfkbhakjdaaaDoor.Bt
