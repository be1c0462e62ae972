/- Contracts of balance.strong and balance.find. -/
import Derived.Test.YtbodielilaedeaaDoorBlF
namespace Go.Proofs.YtbodielilaedeaaDoor
open Go.RowKit Go.Shelf
attribute [local go_sem] Oper.semAt_some run_store_func

set_option maxRecDepth 100000 in
set_option maxHeartbeats 1000000 in
theorem strong_any (sv : Value) (bs : List UInt8) (hreach : bs.length ≤ 17592186044416) (w : World) (hS : Sl eB w.heap.size w sv bs) (hT : Tab w) (hO : TabO w) :
    Calls Tryd.prog 28 #[sv] w fun e W' => Below w.heap.size w W' ∧
      ((∃ av B2, e = .returned (.func (.func 31) #[] #[.pointer (some ⟨w.heap.size, 0, none⟩), .pointer (some ⟨B2, 0, none⟩)]) ∧ (-1 : Int) ∉ codesOf bs ∧ B2 < W'.heap.size ∧
          W'.cell? ⟨w.heap.size, 0, none⟩ = some sv ∧ W'.cell? ⟨B2, 0, none⟩ = some av ∧ Sl eB W'.heap.size W' av (flipOf bs bs.length)) ∨
       (e = .panicked [{ v := .iface 25 (.int .i64 10), recovered := false }] ∧ (-1 : Int) ∈ codesOf bs)) := by
  obtain ⟨A, cap, rfl⟩ := hS.len
  have hA := (Below.refl w.heap.size w).alloc (Nat.le_refl _) (.cells #[.slice A bs.length cap] 22)
  have hb0 := Boxed.new w 22 (.slice A bs.length cap)
  have hc0 := hb0.cell
  go_enter Tryd.func28, Tryd.ntmps28
  go_wp2_with fail
  generalize w.alloc _ = w0 at *
  go_at_call 19
  refine (flipped_any _ bs bs.length hreach _ w0 (hS.next hA) (Nat.le_refl _) (hT.below hA) (hO.below hA)).mono ?_
  rintro e w1 ⟨hB, ⟨v, rfl, hfine, hfr, hv⟩ | ⟨rfl, hbad⟩⟩
  · obtain ⟨A2, c2, rfl⟩ := hv.len
    have hb1 : Boxed w1 w.heap.size 22 (.slice A bs.length cap) := (hB.block _ hb0.lt).trans hb0
    have hA1 := (Below.refl w1.heap.size w1).alloc (Nat.le_refl _) (.cells #[.slice A2 (flipOf bs bs.length).length c2] 22)
    have hb2 := Boxed.new w1 22 (.slice A2 (flipOf bs bs.length).length c2)
    have hb1' := hb1.alloc (.cells #[.slice A2 (flipOf bs bs.length).length c2] 22)
    clear hc0
    go_wp2
    go_ret
    exact ⟨below_trans hA (below_trans hB hA1), .inl ⟨_, w1.heap.size, rfl, hfine, by simp, hb1'.cell, hb2.cell, hv.next hA1⟩⟩
  · go_wp2
    exact ⟨rfl, below_trans hA hB, .inr ⟨rfl, hbad⟩⟩
theorem strong_stops (n : Nat) (B1 B2 n₀ : Nat) (sv av : Value) (bs : List UInt8) (hreach : bs.length ≤ 17592186044416) (w : World) (hl1 : B1 < n₀) (hl2 : B2 < n₀) (hn₀ : n₀ ≤ w.heap.size)
    (h1 : w.cell? ⟨B1, 0, none⟩ = some sv) (h2 : w.cell? ⟨B2, 0, none⟩ = some av) (hS : Sl eB n₀ w sv bs) (hA : Sl eB n₀ w av (flipOf bs bs.length)) :
    SeqStopsK Fence.wide (n + 1) Tryd.prog 31 #[.pointer (some ⟨B1, 0, none⟩), .pointer (some ⟨B2, 0, none⟩)] (fun x : Nat × Int => #[.int .i64 (x.1 : Nat), .int .i64 x.2]) (Below n₀) (fun ys => ys = pairs bs) (fun pre => pre <+: pairs bs) (bs.length + 1) w := fun l J Jx W hW hab _ hY h0 =>
  strong1_in n l B1 B2 n₀ sv av bs hreach J Jx hY W ((hW.cell (p := ⟨B1, 0, none⟩) (by simp; omega)).trans h1) ((hW.cell (p := ⟨B2, 0, none⟩) (by simp; omega)).trans h2) hl1 hl2 (hS.below (hW.mono hn₀)) (hA.below (hW.mono hn₀)) h0 hab

theorem pairs_prefix (bs : List UInt8) (pre : List (Nat × Int)) (k : Nat) (m : Int) (h : pre ++ [(k, m)] <+: pairs bs) : k ≤ bs.length ∧ m = mk bs k ∧ pre = (pairs bs).take k := by
  have hl := h.length_le
  have hpl : (pairs bs).length = bs.length + 1 := by simp [pairs]
  rw [List.length_append, List.length_singleton, hpl] at hl
  have ht := List.prefix_iff_eq_take.1 h
  rw [List.length_append, List.length_singleton, List.take_succ_eq_append_getElem (by omega)] at ht
  obtain ⟨e1, e2⟩ := List.append_inj' ht rfl
  have e3 : (pairs bs)[pre.length]'(by omega) = (pre.length, mk bs pre.length) := by simp [pairs]
  rw [e3] at e2
  have e4 : k = pre.length ∧ m = mk bs pre.length := by simpa using e2
  obtain ⟨rfl, rfl⟩ := e4
  exact ⟨by omega, rfl, e1⟩

set_option maxRecDepth 100000 in
set_option maxHeartbeats 2000000 in
theorem find_any (sv : Value) (bs : List UInt8) (hreach : bs.length ≤ 17592186044416) (w : World) (hS : Sl eB w.heap.size w sv bs) (hT : Tab w) (hO : TabO w) :
    Calls Tryd.prog 22 #[sv] w fun e W' => Below w.heap.size w W' ∧
      ((∃ k, k ≤ bs.length ∧ e = .returned (.int .i64 (k : Nat)) ∧ (-1 : Int) ∉ codesOf bs ∧ 2 * mk bs k = bs.length ∧ ∀ j, j < k → 2 * mk bs j ≠ bs.length) ∨
       (e = .panicked [{ v := .iface 25 (.int .i64 2), recovered := false }] ∧ (-1 : Int) ∉ codesOf bs ∧ ∀ k, k ≤ bs.length → 2 * mk bs k ≠ bs.length) ∨
       (e = .panicked [{ v := .iface 25 (.int .i64 10), recovered := false }] ∧ (-1 : Int) ∈ codesOf bs)) := by
  refine (callsIn_wide (n := 5)).1 ?_
  obtain ⟨A, cap, rfl⟩ := hS.len
  refine callsIn_of_wp_marks Tryd.func22 rfl trivial ?_ rfl
  simp only [Tryd.ntmps22, List.size_toArray, List.length_cons, List.length_nil, Nat.reduceAdd, Nat.reduceSub, Array.replicate_succ, Array.replicate_zero, List.push_toArray, List.append_toArray, List.nil_append, List.cons_append]
  obtain ⟨W0, hW0⟩ : ∃ W0, (w.alloc (Obj.cells #[Value.slice A bs.length cap] 22)).alloc (Obj.cells #[Value.int IntKind.i64 0] 3) = W0 := ⟨_, rfl⟩
  have hs0 : W0.heap.size = w.heap.size + 2 := by rw [← hW0]; simp
  have hB0 : Below w.heap.size w W0 := by rw [← hW0]; exact ((Below.refl _ w).alloc (Nat.le_refl _) _).alloc (by simp) _
  have b1 : Boxed W0 w.heap.size 22 (.slice A bs.length cap) := by rw [← hW0]; exact (Boxed.new w _ _).alloc _
  have b2 : Boxed W0 (w.heap.size + 1) 3 (.int .i64 0) := by
    rw [← hW0]
    have := Boxed.new (w.alloc (Obj.cells #[Value.slice A bs.length cap] 22)) 3 (.int .i64 0)
    rw [World.size_alloc] at this
    exact this
  have c1 := b1.cell
  gi_wp2_with fail
  refine ⟨trivial, ?_⟩
  gi_at_call 28
  refine (callsIn_wide.2 (strong_any _ bs hreach _ (hS.next hB0) (hT.below hB0) (hO.below hB0))).mono ?_
  rintro e w1 ⟨hB1, ⟨av, B2, rfl, hfine, hB2l, hca, hcb, hav⟩ | ⟨rfl, hbad⟩⟩
  · have hBw := below_trans hB0 hB1
    have hS1 := (hS.next hB0).next hB1
    have d1 : Boxed w1 w.heap.size 22 (.slice A bs.length cap) := (hB1.block _ b1.lt).trans b1
    have d2 : Boxed w1 (w.heap.size + 1) 3 (.int .i64 0) := (hB1.block _ b2.lt).trans b2
    have hsz := hB1.size
    rw [hs0] at hca hsz
    clear hW0 c1
    gi_wp2_with fail
    refine wpIn_rangeFunc_ownG rfl (by decide) (gf := 31) (lb := #[.pointer (some ⟨w.heap.size + 2, 0, none⟩), .pointer (some ⟨B2, 0, none⟩)]) rfl trivial (enters_of Tryd.func31 (by kernel_rfl) rfl)
      (strong_stops 3 (w.heap.size + 2) B2 w1.heap.size _ av bs hreach w1 (World.block_lt_of_cell? w1 _ hca) hB2l (Nat.le_refl _) hca hcb hS1 hav) belowK_t (belowK_b (Nat.le_refl _)) (Below.refl _ _) (fun _ => rfl)
      (fun (pre : List (Nat × Int)) W => ((Boxed W w.heap.size 22 (.slice A bs.length cap) ∧ Boxed W (w.heap.size + 1) 3 (.int .i64 0)) ∧ ∀ y ∈ pre, wrap64 (2 * y.2) ≠ bs.length) ∧ Below w.heap.size w W)
      (fun c (pre : List (Nat × Int)) W => (Boxed W (w.heap.size + 1) 3 (.int .i64 ((pre.getLast?.map Prod.fst).getD 0 : Nat)) ∧ (c = .ret ∧ ∃ pre' k m, pre = pre' ++ [(k, m)] ∧ wrap64 (2 * m) = bs.length ∧ ∀ y ∈ pre', wrap64 (2 * y.2) ≠ bs.length)) ∧ Below w.heap.size w W)
      (OwnFrom.and (OwnFrom.and (OwnFrom.and (Own.from (boxed_own w.heap.size 22 (fun (_ : List (Nat × Int)) => .slice A bs.length cap)) _) (Own.from (boxed_own (w.heap.size + 1) 3 (fun (_ : List (Nat × Int)) => .int .i64 0)) _)) (ownFrom_pure _ (fun (pre : List (Nat × Int)) => ∀ y ∈ pre, wrap64 (2 * y.2) ≠ bs.length))) (ownFrom_below (by omega) (by omega)))
      (fun c => OwnFrom.and (OwnFrom.and (Own.from (boxed_own (w.heap.size + 1) 3 (fun (pre : List (Nat × Int)) => .int .i64 ((pre.getLast?.map Prod.fst).getD 0 : Nat))) _) (ownFrom_pure _ (fun (pre : List (Nat × Int)) => c = .ret ∧ ∃ pre' k m, pre = pre' ++ [(k, m)] ∧ wrap64 (2 * m) = bs.length ∧ ∀ y ∈ pre', wrap64 (2 * y.2) ≠ bs.length))) (ownFrom_below (by omega) (by omega)))
      ⟨⟨⟨d1, d2⟩, by simp⟩, hBw⟩
      (fun x => { tmps := #[.slice A bs.length cap, .pointer (some ⟨w.heap.size, 0, none⟩), .pointer (some ⟨w.heap.size + 1, 0, none⟩), .int .i64 (x.1 : Nat), .int .i64 x.2, .slice A bs.length cap, .func (.func 31) #[] #[.pointer (some ⟨w.heap.size + 2, 0, none⟩), .pointer (some ⟨B2, 0, none⟩)], .int .i64 (x.1 : Nat), .int .i64 x.2, undef, undef, undef, undef, undef, undef, undef], defers := [] }) ?assign ?body ?done ?stop
    case assign =>
      intro l x W K hK
      gi_wp2
      exact hK
    case body =>
      rintro l pre ⟨k, m⟩ W ⟨⟨⟨hv, hr⟩, hall⟩, hB⟩ hlt
      have hc := hv.cell
      have hc2 := hr.cell
      have hf2 := hr.frozen
      by_cases hx : wrap64 (2 * m) = bs.length
      · have hq : (wrap64 (2 * m) == (bs.length : Int)) = true := beq_iff_eq.2 hx
        have Hx := Lib.hid hx
        clear hx
        gi_wp2
        all_goals first
          | (exfalso
             have h : (wrap64 (2 * m) == (bs.length : Int)) = false := by assumption
             exact absurd (h.symm.trans hq) (by decide))
          | (refine ⟨(KeepsOthers.setCell W _ _).from _, ⟨?_, rfl, pre, k, m, rfl, Hx.out, hall⟩, hB.setCell (p := ⟨w.heap.size + 1, 0, none⟩) (by simp) _⟩
             rw [List.getLast?_concat]
             exact hr.set _)
      · have hq : (wrap64 (2 * m) == (bs.length : Int)) = false := beq_eq_false_iff_ne.2 hx
        have Hx := Lib.hid hx
        clear hx
        have hall' : ∀ y ∈ pre ++ [(k, m)], wrap64 (2 * y.2) ≠ bs.length := by
          intro y hy
          rcases List.mem_append.1 hy with hy | hy
          · exact hall y hy
          · rw [List.mem_singleton.1 hy]; exact Hx.out
        gi_wp2
        all_goals first
          | (exfalso
             have h : (wrap64 (2 * m) == (bs.length : Int)) = true := by assumption
             exact absurd (h.symm.trans hq) (by decide))
          | exact ⟨KeepsFrom.refl _ _, Below.refl _ _, ⟨⟨hv, hr⟩, hall'⟩, hB⟩
    case done =>
      rintro D ys W hD rfl ⟨⟨⟨hv, hr⟩, hall⟩, hB⟩ hK
      have hall2 := Lib.hid (show ∀ k, k ≤ bs.length → 2 * mk bs k ≠ bs.length by
        intro k hk e
        have hm := mk_range bs k
        refine hall (k, mk bs k) (List.mem_map.2 ⟨k, by simp; omega, rfl⟩) ?_
        rw [IntWalk.wrap64_in _ (by omega)]; exact e)
      clear hall
      gi_wp2
      refine ⟨by simp, .inl ⟨_, _, rfl, run_takeDeferred hK, ?_⟩⟩
      exact ⟨hB.trans (belowK_b (w := w) (Nat.le_refl _) _ D _ _ (by omega) hK rfl rfl), .inr (.inl ⟨rfl, hfine, hall2.out⟩)⟩
    case stop =>
      rintro D c pre W hD hpre ⟨⟨hr, rfl, pre', k, m, rfl, hm, hall⟩, hB⟩ hK
      obtain ⟨h1, rfl, h3⟩ := pairs_prefix bs pre' k m hpre
      rw [List.getLast?_concat] at hr
      have hmr := mk_range bs k
      rw [IntWalk.wrap64_in _ (by omega)] at hm
      have hall2 := Lib.hid (show ∀ j, j < k → 2 * mk bs j ≠ bs.length by
        intro j hj e
        have hmj := mk_range bs j
        refine hall (j, mk bs j) ?_ ?_
        · rw [h3, pairs_take bs k (by omega)]; exact List.mem_map.2 ⟨j, by simp [hj], rfl⟩
        · rw [IntWalk.wrap64_in _ (by omega)]; exact e)
      have hm := Lib.hid hm
      have hc := hr.cell
      clear hall hpre h3
      gi_wp2
      refine ⟨by simp, .inl ⟨_, _, rfl, run_takeDeferred hK, ?_⟩⟩
      have hc5 := cell_kept hc (grownBy_putObj' _ D (.deferred none)) (fun r e => by cases e; exact ⟨_, hK, rfl⟩)
      refine ⟨.int .i64 (k : Nat), ?_, hB.trans (belowK_b (w := w) (Nat.le_refl _) _ D _ _ (by omega) hK rfl rfl), .inl ⟨k, h1, rfl, hfine, hm.out, hall2.out⟩⟩
      simp [results, Tryd.f22, go_sem, hc5]
  · gi_wp2
    exact ⟨below_trans hB0 hB1, .inr (.inr ⟨rfl, hbad⟩)⟩
end Go.Proofs.YtbodielilaedeaaDoor
