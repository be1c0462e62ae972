/- Contracts of shape.Groups, Count, Pieces. -/
import Derived.Test.YtjfhbhidnlgabaaDoorShE
namespace Go.Proofs.YtjfhbhidnlgabaaDoor
open Go.RowKit Go.Shelf
attribute [local go_sem] Oper.semAt_some run_store_func

set_option maxRecDepth 100000 in
set_option maxHeartbeats 2000000 in
theorem Groups1_is (p d r n m : Nat) (hn : n ≤ 4000) (hp : 0 < p) (hp2 : p ≤ 22) (hd : 0 < d) (hd2 : d ≤ 255) (hm : m = (n + p - 1) / p) (b1 b2 : Nat) (w : World) (hb1 : InBox w b1 p d r) (hb2 : w.cell? ⟨b2, 0, none⟩ = some (.int .i64 n)) :
    Calls Tryd.prog 41 #[.pointer (some ⟨b1, 0, none⟩), .pointer (some ⟨b2, 0, none⟩)] w fun e w' => e = .returned (.int .i64 (cntOf m d)) ∧ Below w.heap.size w w' := by
  refine (callsIn_wide (n := 5)).1 ?_
  have hcm := cnt_le m d hd
  have hm4 : m ≤ 4100 := by rw [hm]; exact Nat.le_trans (Nat.div_le_self _ _) (by omega)
  have Hm := Lib.hid hm
  clear hm
  refine callsIn_of_wp_marks Tryd.func41 rfl trivial ?_ rfl
  simp only [Tryd.ntmps41, List.size_toArray, List.length_cons, List.length_nil, Nat.reduceAdd, Nat.reduceSub, Array.replicate_succ, Array.replicate_zero, List.push_toArray, List.append_toArray, List.nil_append, List.cons_append]
  have hA := below_alloc w (.cells #[.int .i64 0] 3)
  have hb0 := Boxed.new w 3 (.int .i64 0)
  obtain ⟨c0, c1, c2⟩ := hb1.below hA hb1.lt
  have c3 := (hA.cell (p := ⟨b2, 0, none⟩) (World.block_lt_of_cell? w _ hb2)).trans hb2
  gi_wp2_with fail
  refine ⟨trivial, ?_⟩
  gi_at_call 42
  refine (callsIn_wide.2 (groups_yes p d r n hn _)).mono ?_
  rintro e w1 ⟨rfl, hB1, hI1, hc1⟩
  have hv1 : Boxed w1 w.heap.size 3 (.int .i64 0) := (hB1.block _ hb0.lt).trans hb0
  have hBw := below_trans hA hB1
  have hsz := hB1.size
  have hl1 := World.block_lt_of_cell? w1 _ hc1
  have hl2 := hI1.lt
  rw [World.size_alloc] at hI1 hc1 hsz hl1 hl2
  clear hA hb0 hB1
  gi_wp2_with fail
  refine wpIn_rangeFunc_ownG rfl (by decide) (gf := 53) (lb := #[.pointer (some ⟨w.heap.size + 1 + 1, 0, none⟩), .pointer (some ⟨w.heap.size + 1, 0, none⟩)]) rfl trivial (enters_of Tryd.func53 (by kernel_rfl) rfl)
    (groups_stops 3 (w.heap.size + 1 + 1) (w.heap.size + 1) w1.heap.size (w.heap.size) n p d r m hn hp hp2 hd hd2 Hm.out w1 (by omega) (by omega) (by omega) (Nat.le_refl _) hc1 hI1) keep_t (keep_b (Nat.le_refl _)) (Below.refl _ _) (fun _ => rfl)
    (fun (pre : List Nat) W => Boxed W w.heap.size 3 (.int .i64 (pre.length : Nat)) ∧ Below w.heap.size w W)
    (fun _ _ _ => False)
    (OwnFrom.and (Own.from (boxed_own w.heap.size 3 (fun (pre : List Nat) => .int .i64 (pre.length : Nat))) _) (ownFrom_below (by omega) (by omega)))
    (fun _ _ _ _ _ hs _ _ => hs)
    ⟨hv1, hBw⟩
    (fun x => { tmps := #[.pointer (some ⟨b1, 0, none⟩), .pointer (some ⟨b2, 0, none⟩), .int .i64 0, .pointer (some ⟨w.heap.size, 0, none⟩), .agg #[.int .i64 p, .int .i64 d, .int .i64 r], .int .i64 n, .func (.func 53) #[] #[.pointer (some ⟨w.heap.size + 1 + 1, 0, none⟩), .pointer (some ⟨w.heap.size + 1, 0, none⟩)], .int .i64 (x : Nat), undef, undef, undef], defers := [] }) ?assign ?body ?done ?stop
  case assign =>
    intro l x W K hK
    gi_wp2
    first | exact hK | simpa using hK
  case body =>
    rintro l pre x W ⟨hv, hB⟩ hlt
    have hc := hv.cell
    have hf := hv.frozen
    have hset := hv.set (.int .i64 ((pre.length : Int) + 1))
    gi_wp2
    exact ⟨(KeepsOthers.setCell W _ _).from _, keep_set _ _ _ _ _, by simpa using hset, hB.setCell (p := ⟨w.heap.size, 0, none⟩) (Nat.le_refl _) _⟩
  case done =>
    rintro D ys W hD rfl ⟨hv, hB⟩ hK
    have hc := hv.cell
    rw [grp_length] at hc
    gi_wp2
    refine ⟨by simp, .inl ⟨_, _, rfl, run_takeDeferred hK, ?_⟩⟩
    exact ⟨_, results_tmp rfl _ _ _, rfl, hB.trans (belowK_b (w := w) (Nat.le_refl _) _ D _ _ (by omega) hK rfl rfl)⟩
  case stop =>
    rintro D c pre W hD hpre h hK
    exact h.elim

/-- What the counts of the groups sum up to, round by round. -/
def sumW (r : Nat) (pre : List Nat) : Int := pre.foldl (fun (s : Int) (x : Nat) => wrap64 (s + wrap64 ((x : Int) + r))) 0
theorem sumW_snoc (r : Nat) (pre : List Nat) (x : Nat) : sumW r (pre ++ [x]) = wrap64 (sumW r pre + wrap64 ((x : Int) + r)) := by simp [sumW]
set_option maxRecDepth 100000 in
set_option maxHeartbeats 2000000 in
theorem Count1_is (p d r n m : Nat) (hn : n ≤ 4000) (hp : 0 < p) (hp2 : p ≤ 22) (hd : 0 < d) (hd2 : d ≤ 255) (hm : m = (n + p - 1) / p) (b1 b2 : Nat) (w : World) (hb1 : InBox w b1 p d r) (hb2 : w.cell? ⟨b2, 0, none⟩ = some (.int .i64 n)) :
    Calls Tryd.prog 46 #[.pointer (some ⟨b1, 0, none⟩), .pointer (some ⟨b2, 0, none⟩)] w fun e w' => e = .returned (.int .i64 (sumW r (grp m d))) ∧ Below w.heap.size w w' := by
  refine (callsIn_wide (n := 5)).1 ?_
  have Hm := Lib.hid hm
  clear hm
  have hl0 := hb1.lt
  have hI0 := hb1
  refine callsIn_of_wp_marks Tryd.func46 rfl trivial ?_ rfl
  simp only [Tryd.ntmps46, List.size_toArray, List.length_cons, List.length_nil, Nat.reduceAdd, Nat.reduceSub, Array.replicate_succ, Array.replicate_zero, List.push_toArray, List.append_toArray, List.nil_append, List.cons_append]
  have hA := below_alloc w (.cells #[.int .i64 0] 3)
  have hb0 := Boxed.new w 3 (.int .i64 0)
  obtain ⟨c0, c1, c2⟩ := hb1.below hA hb1.lt
  have c3 := (hA.cell (p := ⟨b2, 0, none⟩) (World.block_lt_of_cell? w _ hb2)).trans hb2
  gi_wp2_with fail
  refine ⟨trivial, ?_⟩
  gi_at_call 42
  refine (callsIn_wide.2 (groups_yes p d r n hn _)).mono ?_
  rintro e w1 ⟨rfl, hB1, hI1, hc1⟩
  have hv1 : Boxed w1 w.heap.size 3 (.int .i64 0) := (hB1.block _ hb0.lt).trans hb0
  have hBw := below_trans hA hB1
  have hsz := hB1.size
  have hl1 := World.block_lt_of_cell? w1 _ hc1
  have hl2 := hI1.lt
  rw [World.size_alloc] at hI1 hc1 hsz hl1 hl2
  clear hA hb0 hB1
  gi_wp2_with fail
  refine wpIn_rangeFunc_ownG rfl (by decide) (gf := 53) (lb := #[.pointer (some ⟨w.heap.size + 1 + 1, 0, none⟩), .pointer (some ⟨w.heap.size + 1, 0, none⟩)]) rfl trivial (enters_of Tryd.func53 (by kernel_rfl) rfl)
    (groups_stops 3 (w.heap.size + 1 + 1) (w.heap.size + 1) w1.heap.size (w.heap.size) n p d r m hn hp hp2 hd hd2 Hm.out w1 (by omega) (by omega) (by omega) (Nat.le_refl _) hc1 hI1) keep_t (keep_b (Nat.le_refl _)) (Below.refl _ _) (fun _ => rfl)
    (fun (pre : List Nat) W => Boxed W w.heap.size 3 (.int .i64 (sumW r pre)) ∧ Below w.heap.size w W)
    (fun _ _ _ => False)
    (OwnFrom.and (Own.from (boxed_own w.heap.size 3 (fun (pre : List Nat) => .int .i64 (sumW r pre))) _) (ownFrom_below (by omega) (by omega)))
    (fun _ _ _ _ _ hs _ _ => hs)
    ⟨hv1, hBw⟩
    (fun x => { tmps := #[.pointer (some ⟨b1, 0, none⟩), .pointer (some ⟨b2, 0, none⟩), .int .i64 0, .pointer (some ⟨w.heap.size, 0, none⟩), .int .i64 (x : Nat), .agg #[.int .i64 p, .int .i64 d, .int .i64 r], .int .i64 n, .func (.func 53) #[] #[.pointer (some ⟨w.heap.size + 1 + 1, 0, none⟩), .pointer (some ⟨w.heap.size + 1, 0, none⟩)], .int .i64 (x : Nat), undef, undef, undef, undef, undef, undef, undef], defers := [] }) ?assign ?body ?done ?stop
  case assign =>
    intro l x W K hK
    gi_wp2
    first | exact hK | simpa using hK
  case body =>
    rintro l pre x W ⟨hv, hB⟩ hlt
    obtain ⟨s, hs⟩ : ∃ s, sumW r pre = s := ⟨_, rfl⟩
    have Hs := Lib.hid (show sumW r (pre ++ [x]) = wrap64 (s + wrap64 ((x : Int) + r)) by rw [sumW_snoc, hs])
    rw [hs] at hv
    clear hs
    have hc := hv.cell
    have hf := hv.frozen
    have k2 := (hI0.below hB hl0).2.2
    have hset := hv.set (.int .i64 (wrap64 (s + wrap64 ((x : Int) + r))))
    clear hI0
    gi_wp2
    exact ⟨(KeepsOthers.setCell W _ _).from _, keep_set _ _ _ _ _, by rw [Hs.out]; exact hset, hB.setCell (p := ⟨w.heap.size, 0, none⟩) (Nat.le_refl _) _⟩
  case done =>
    rintro D ys W hD rfl ⟨hv, hB⟩ hK
    have hc := hv.cell
    gi_wp2
    refine ⟨by simp, .inl ⟨_, _, rfl, run_takeDeferred hK, ?_⟩⟩
    exact ⟨_, results_tmp rfl _ _ _, rfl, hB.trans (belowK_b (w := w) (Nat.le_refl _) _ D _ _ (by omega) hK rfl rfl)⟩
  case stop =>
    rintro D c pre W hD hpre h hK
    exact h.elim

/-- How many pieces a group has. -/
def pcs (m d : Nat) (G : Int) : Nat := if 0 ≤ G ∧ G.toNat < cntOf m d then min (m - G.toNat * d) d else 0
theorem grp_prefix (m d : Nat) (pre : List Nat) (x : Nat) (h : pre ++ [x] <+: grp m d) : pre.length < cntOf m d ∧ x = min (m - pre.length * d) d := by
  have hl := h.length_le
  rw [List.length_append, List.length_singleton, grp_length] at hl
  refine ⟨by omega, ?_⟩
  have h1 := h.getElem (i := pre.length) (by simp)
  rw [List.getElem_append_right (Nat.le_refl _)] at h1
  simp [grp] at h1
  exact h1
set_option maxRecDepth 100000 in
set_option maxHeartbeats 2000000 in
theorem Pieces1_is (p d r n m : Nat) (G : Int) (hn : n ≤ 4000) (hp : 0 < p) (hp2 : p ≤ 22) (hd : 0 < d) (hd2 : d ≤ 255) (hm : m = (n + p - 1) / p) (b1 b2 b3 : Nat) (w : World) (hb1 : InBox w b1 p d r) (hb2 : w.cell? ⟨b2, 0, none⟩ = some (.int .i64 n)) (hb3 : w.cell? ⟨b3, 0, none⟩ = some (.int .i64 G)) :
    Calls Tryd.prog 45 #[.pointer (some ⟨b1, 0, none⟩), .pointer (some ⟨b2, 0, none⟩), .pointer (some ⟨b3, 0, none⟩)] w fun e w' => e = .returned (.int .i64 (pcs m d G)) ∧ Below w.heap.size w w' := by
  refine (callsIn_wide (n := 5)).1 ?_
  have hcm := cnt_le m d hd
  have hm4 : m ≤ 4100 := by rw [hm]; exact Nat.le_trans (Nat.div_le_self _ _) (by omega)
  have Hm := Lib.hid hm
  clear hm
  have hl0 := World.block_lt_of_cell? w _ hb3
  have hG0 := hb3
  refine callsIn_of_wp_marks Tryd.func45 rfl trivial ?_ rfl
  simp only [Tryd.ntmps45, List.size_toArray, List.length_cons, List.length_nil, Nat.reduceAdd, Nat.reduceSub, Array.replicate_succ, Array.replicate_zero, List.push_toArray, List.append_toArray, List.nil_append, List.cons_append]
  have hA1 := below_alloc w (.cells #[.int .i64 0] 3)
  have hA2 := below_alloc (w.alloc (.cells #[.int .i64 0] 3)) (.cells #[.int .i64 0] 3)
  have hA := below_trans hA1 hA2
  have hb0 := (Boxed.new w 3 (.int .i64 0)).alloc (.cells #[.int .i64 0] 3)
  have hn0 := Boxed.new (w.alloc (.cells #[.int .i64 0] 3)) 3 (.int .i64 0)
  rw [World.size_alloc] at hn0
  obtain ⟨c0, c1, c2⟩ := hb1.below hA hb1.lt
  have c3 := (hA.cell (p := ⟨b2, 0, none⟩) (World.block_lt_of_cell? w _ hb2)).trans hb2
  have c4 := (hA.cell (p := ⟨b3, 0, none⟩) hl0).trans hb3
  gi_wp2_with fail
  refine ⟨trivial, ?_⟩
  gi_at_call 42
  refine (callsIn_wide.2 (groups_yes p d r n hn _)).mono ?_
  rintro e w1 ⟨rfl, hB1, hI1, hc1⟩
  have hv1 : Boxed w1 w.heap.size 3 (.int .i64 0) := (hB1.block _ hb0.lt).trans hb0
  have hw1 : Boxed w1 (w.heap.size + 1) 3 (.int .i64 0) := (hB1.block _ hn0.lt).trans hn0
  have hBw := below_trans hA hB1
  have hsz := hB1.size
  have hl1 := World.block_lt_of_cell? w1 _ hc1
  have hl2 := hI1.lt
  rw [World.size_alloc, World.size_alloc] at hI1 hc1 hsz hl1 hl2
  clear hA hA1 hA2 hb0 hn0 hB1 c0 c1 c2 c3 c4
  gi_wp2_with fail
  refine wpIn_rangeFunc_ownG rfl (by decide) (gf := 53) (lb := #[.pointer (some ⟨w.heap.size + 1 + 1 + 1, 0, none⟩), .pointer (some ⟨w.heap.size + 1 + 1, 0, none⟩)]) rfl trivial (enters_of Tryd.func53 (by kernel_rfl) rfl)
    (groups_stops 3 (w.heap.size + 1 + 1 + 1) (w.heap.size + 1 + 1) w1.heap.size (w.heap.size + 1) n p d r m hn hp hp2 hd hd2 Hm.out w1 (by omega) (by omega) (by omega) (Nat.le_refl _) hc1 hI1) keep_t (keep_b (Nat.le_refl _)) (Below.refl _ _) (fun _ => rfl)
    (fun (pre : List Nat) W => ((Boxed W w.heap.size 3 (.int .i64 0) ∧ Boxed W (w.heap.size + 1) 3 (.int .i64 (pre.length : Nat))) ∧ ∀ j, j < pre.length → (j : Int) ≠ G) ∧ Below w.heap.size w W)
    (fun c (pre : List Nat) W => (Boxed W w.heap.size 3 (.int .i64 (pre.getLast?.getD 0 : Nat)) ∧ (c = .ret ∧ ∃ pre' x, pre = pre' ++ [x] ∧ (pre'.length : Int) = G)) ∧ Below w.heap.size w W)
    (OwnFrom.and (OwnFrom.and (OwnFrom.and (Own.from (boxed_own w.heap.size 3 (fun (_ : List Nat) => .int .i64 0)) _) (Own.from (boxed_own (w.heap.size + 1) 3 (fun (pre : List Nat) => .int .i64 (pre.length : Nat))) _)) (ownFrom_pure _ (fun (pre : List Nat) => ∀ j, j < pre.length → (j : Int) ≠ G))) (ownFrom_below (by omega) (by omega)))
    (fun c => OwnFrom.and (OwnFrom.and (Own.from (boxed_own w.heap.size 3 (fun (pre : List Nat) => .int .i64 (pre.getLast?.getD 0 : Nat))) _) (ownFrom_pure _ (fun (pre : List Nat) => c = .ret ∧ ∃ pre' x, pre = pre' ++ [x] ∧ (pre'.length : Int) = G))) (ownFrom_below (by omega) (by omega)))
    ⟨⟨⟨hv1, hw1⟩, fun j hj => absurd hj (by simp)⟩, hBw⟩
    (fun x => { tmps := #[.pointer (some ⟨b1, 0, none⟩), .pointer (some ⟨b2, 0, none⟩), .pointer (some ⟨b3, 0, none⟩), .pointer (some ⟨w.heap.size, 0, none⟩), .pointer (some ⟨w.heap.size + 1, 0, none⟩), .int .i64 (x : Nat), .agg #[.int .i64 p, .int .i64 d, .int .i64 r], .int .i64 n, .func (.func 53) #[] #[.pointer (some ⟨w.heap.size + 1 + 1 + 1, 0, none⟩), .pointer (some ⟨w.heap.size + 1 + 1, 0, none⟩)], .int .i64 (x : Nat), undef, undef, undef, undef, undef, undef], defers := [] }) ?assign ?body ?done ?stop
  case assign =>
    intro l x W K hK
    gi_wp2
    first | exact hK | simpa using hK
  case body =>
    rintro l pre x W ⟨⟨⟨hv, hr⟩, hall⟩, hB⟩ hlt
    have hc := hv.cell
    have hf := hv.frozen
    have hc2 := hr.cell
    have hf2 := hr.frozen
    have k3 := (hB.cell (p := ⟨b3, 0, none⟩) hl0).trans hG0
    have Hall := Lib.hid hall
    clear hG0 hb3 hall
    by_cases hx : (pre.length : Int) = G
    · have hq : ((pre.length : Int) == G) = true := beq_iff_eq.2 hx
      have Hx := Lib.hid hx
      clear hx
      gi_wp2
      refine ⟨(KeepsOthers.setCell W _ _).from _, ⟨?_, rfl, pre, x, rfl, Hx.out⟩, hB.setCell (p := ⟨w.heap.size, 0, none⟩) (Nat.le_refl _) _⟩
      rw [List.getLast?_concat]
      exact hv.set _
    · have hq : ((pre.length : Int) == G) = false := beq_eq_false_iff_ne.2 hx
      have Hx := Lib.hid hx
      clear hx
      have hset := hr.set (.int .i64 ((pre.length : Int) + 1))
      have hv' : Boxed (W.setCell ⟨w.heap.size + 1, 0, none⟩ (.int .i64 ((pre.length : Int) + 1))) w.heap.size 3 (.int .i64 0) := Boxed.kept hv (grownBy_setCellAt W (w.heap.size + 1) 0 _) (by simp)
      gi_wp2
      refine ⟨(KeepsOthers.setCell W _ _).from _, keep_set _ _ _ _ _, ⟨⟨hv', by simpa using hset⟩, fun j hj => ?_⟩, hB.setCell (p := ⟨w.heap.size + 1, 0, none⟩) (by simp) _⟩
      rw [List.length_append, List.length_singleton] at hj
      rcases (show j < pre.length ∨ j = pre.length by omega) with h | rfl
      · exact Hall.out j h
      · exact Hx.out
  case done =>
    rintro D ys W hD rfl ⟨⟨⟨hv, hr⟩, hall⟩, hB⟩ hK
    rw [grp_length] at hall
    have hz : pcs m d G = 0 := by
      unfold pcs
      split
      · rename_i h
        exact absurd (by omega) (hall G.toNat h.2)
      · rfl
    have Hz := Lib.hid hz
    have hc := hv.cell
    have hf := hv.frozen
    have hset := hv.set (.int .i64 0)
    have hB' := hB.setCell (p := ⟨w.heap.size, 0, none⟩) (Nat.le_refl _) (.int .i64 0)
    clear hall hz
    gi_wp2
    refine ⟨by simp, .inl ⟨_, _, rfl, run_takeDeferred (by simpa [World.setCell, Array.getElem?_modify, show w.heap.size ≠ D by omega] using hK), ?_⟩⟩
    have hK' : (W.setCell ⟨w.heap.size, 0, none⟩ (.int .i64 0)).heap[D]? = some (.deferred (some [])) := (Below.heap_setCell W ⟨w.heap.size, 0, none⟩ _ D (by show D ≠ w.heap.size; omega)).trans hK
    have hc5 := cell_kept hset.cell (grownBy_putObj' _ D (.deferred none)) (fun r e => by cases e; exact ⟨_, hK', rfl⟩)
    refine ⟨.int .i64 0, ?_, by rw [Hz.out]; rfl, hB'.trans (belowK_b (w := w) (Nat.le_refl _) _ D _ _ (by omega) hK' rfl rfl)⟩
    simp [results, Tryd.f45, go_sem, hc5]
  case stop =>
    rintro D c pre W hD hpre ⟨⟨hr, rfl, pre', x, rfl, hx⟩, hB⟩ hK
    obtain ⟨h1, h2⟩ := grp_prefix m d pre' x hpre
    have hz : pcs m d G = x := by
      rw [pcs, if_pos ⟨by omega, by omega⟩, h2, ← hx]; simp
    rw [List.getLast?_concat] at hr
    have Hz := Lib.hid hz
    have hc := hr.cell
    clear hpre hz h2 hx
    gi_wp2
    refine ⟨by simp, .inl ⟨_, _, rfl, run_takeDeferred hK, ?_⟩⟩
    have hc5 := cell_kept hc (grownBy_putObj' _ D (.deferred none)) (fun r e => by cases e; exact ⟨_, hK, rfl⟩)
    refine ⟨.int .i64 (x : Nat), ?_, by rw [Hz.out], hB.trans (belowK_b (w := w) (Nat.le_refl _) _ D _ _ (by omega) hK rfl rfl)⟩
    simp only [Option.getD_some] at hc5
    simp [results, Tryd.f45, go_sem, hc5]
end Go.Proofs.YtjfhbhidnlgabaaDoor
