import Derived.Test.YtjclfkbhakjdaaaDoorBlFY
namespace Go.Proofs.YtjclfkbhakjdaaaDoor.Bl
open Go.RowKit Go.Shelf
attribute [local go_sem] Oper.semAt_some run_store_func
set_option maxRecDepth 100000 in
set_option maxHeartbeats 1000000 in
theorem strong_any (sv : Value) (bs : List UInt8) (hreach : bs.length ≤ 17592186044416) (w : World) (hS : Sl eB w.heap.size w sv bs) (hT : Tab w) (hO : TabO w) :
    Calls Tryd.prog 97 #[sv] w fun e W' => Below w.heap.size w W' ∧
      ((∃ av B2, e = .returned (.func (.func 101) #[] #[.pointer (some ⟨w.heap.size, 0, none⟩), .pointer (some ⟨B2, 0, none⟩)]) ∧ (-1 : Int) ∉ codesOf bs ∧ B2 < W'.heap.size ∧
          W'.cell? ⟨w.heap.size, 0, none⟩ = some sv ∧ W'.cell? ⟨B2, 0, none⟩ = some av ∧ Sl eB W'.heap.size W' av (flipOf bs bs.length)) ∨
       (e = .panicked [{ v := .iface 28 (.int .i64 10), recovered := false }] ∧ (-1 : Int) ∈ codesOf bs)) := by
  obtain ⟨A, cap, rfl⟩ := hS.len
  have hA := (Below.refl w.heap.size w).alloc (Nat.le_refl _) (.cells #[.slice A bs.length cap] 24)
  have hb0 := Boxed.new w 24 (.slice A bs.length cap)
  have hc0 := hb0.cell
  go_enter Tryd.func97, Tryd.ntmps97
  go_wp2_with fail
  generalize w.alloc _ = w0 at *
  go_at_call 80
  refine (flipped_any _ bs bs.length hreach _ w0 (hS.next hA) (Nat.le_refl _) (hT.below hA) (hO.below hA)).mono ?_
  rintro e w1 ⟨hB, ⟨v, rfl, hfine, hfr, hv⟩ | ⟨rfl, hbad⟩⟩
  · obtain ⟨A2, c2, rfl⟩ := hv.len
    have hb1 : Boxed w1 w.heap.size 24 (.slice A bs.length cap) := (hB.block _ hb0.lt).trans hb0
    have hA1 := (Below.refl w1.heap.size w1).alloc (Nat.le_refl _) (.cells #[.slice A2 (flipOf bs bs.length).length c2] 24)
    have hb2 := Boxed.new w1 24 (.slice A2 (flipOf bs bs.length).length c2)
    have hb1' := hb1.alloc (.cells #[.slice A2 (flipOf bs bs.length).length c2] 24)
    clear hc0
    go_wp2
    go_ret
    exact ⟨below_trans hA (below_trans hB hA1), .inl ⟨_, w1.heap.size, rfl, hfine, by simp, hb1'.cell, hb2.cell, hv.next hA1⟩⟩
  · go_wp2
    exact ⟨rfl, below_trans hA hB, .inr ⟨rfl, hbad⟩⟩
theorem strong_stops (n : Nat) (B1 B2 n₀ : Nat) (sv av : Value) (bs : List UInt8) (hreach : bs.length ≤ 17592186044416) (w : World) (hl1 : B1 < n₀) (hl2 : B2 < n₀) (hn₀ : n₀ ≤ w.heap.size)
    (h1 : w.cell? ⟨B1, 0, none⟩ = some sv) (h2 : w.cell? ⟨B2, 0, none⟩ = some av) (hS : Sl eB n₀ w sv bs) (hA : Sl eB n₀ w av (flipOf bs bs.length)) :
    SeqStopsK Fence.wide (n + 1) Tryd.prog 101 #[.pointer (some ⟨B1, 0, none⟩), .pointer (some ⟨B2, 0, none⟩)] (fun x : Nat × Int => #[.int .i64 (x.1 : Nat), .int .i64 x.2]) (Below n₀) (fun ys => ys = pairs bs) (fun pre => pre <+: pairs bs) (bs.length + 1) w := fun l J Jx W hW hab _ hY h0 =>
 strong1_in n l B1 B2 n₀ sv av bs hreach J Jx hY W ((hW.cell (p := ⟨B1, 0, none⟩) (by simp; omega)).trans h1) ((hW.cell (p := ⟨B2, 0, none⟩) (by simp; omega)).trans h2) hl1 hl2 (hS.below (hW.mono hn₀)) (hA.below (hW.mono hn₀)) h0 hab
theorem pairs_prefix (bs : List UInt8) (pre : List (Nat × Int)) (k : Nat) (m : Int) (h : pre ++ [(k, m)] <+: pairs bs) : k ≤ bs.length ∧ m = mk bs k ∧ pre = (pairs bs).take k := by
 have hl := h.length_le
 have hpl : (pairs bs).length = bs.length + 1 := by simp [pairs]
 rw [List.length_append, List.length_singleton, hpl] at hl
 have ht := List.prefix_iff_eq_take.1 h
 rw [List.length_append, List.length_singleton, List.take_succ_eq_append_getElem (by omega)] at ht
 obtain ⟨e1, e2⟩ := List.append_inj' ht rfl
 have e3 : (pairs bs)[pre.length]'(by omega) = (pre.length, mk bs pre.length) := by simp [pairs]
 rw [e3] at e2
 have e4 : k = pre.length ∧ m = mk bs pre.length := by simpa using e2
 obtain ⟨rfl, rfl⟩ := e4
 exact ⟨by omega, rfl, e1⟩
set_option maxRecDepth 100000 in
set_option maxHeartbeats 2000000 in
theorem find_any (sv : Value) (bs : List UInt8) (hreach : bs.length ≤ 17592186044416) (w : World) (hS : Sl eB w.heap.size w sv bs) (hT : Tab w) (hO : TabO w) :
    Calls Tryd.prog 78 #[sv] w fun e W' => Below w.heap.size w W' ∧
      ((∃ k, k ≤ bs.length ∧ e = .returned (.int .i64 (k : Nat)) ∧ (-1 : Int) ∉ codesOf bs ∧ 2 * mk bs k = bs.length ∧ ∀ j, j < k → 2 * mk bs j ≠ bs.length) ∨
       (e = .panicked [{ v := .iface 28 (.int .i64 2), recovered := false }] ∧ (-1 : Int) ∉ codesOf bs ∧ ∀ k, k ≤ bs.length → 2 * mk bs k ≠ bs.length) ∨
       (e = .panicked [{ v := .iface 28 (.int .i64 10), recovered := false }] ∧ (-1 : Int) ∈ codesOf bs)) := by
  refine (callsIn_wide (n := 5)).1 ?_
  obtain ⟨A, cap, rfl⟩ := hS.len
  refine callsIn_of_wp_marks Tryd.func78 rfl trivial ?_ rfl
  simp only [Tryd.ntmps78, List.size_toArray, List.length_cons, List.length_nil, Nat.reduceAdd, Nat.reduceSub, Array.replicate_succ, Array.replicate_zero, List.push_toArray, List.append_toArray, List.nil_append, List.cons_append]
  obtain ⟨W0, hW0⟩ : ∃ W0, (w.alloc (Obj.cells #[Value.slice A bs.length cap] 24)).alloc (Obj.cells #[Value.int IntKind.i64 0] 3) = W0 := ⟨_, rfl⟩
  have hs0 : W0.heap.size = w.heap.size + 2 := by rw [← hW0]; simp
  have hB0 : Below w.heap.size w W0 := by rw [← hW0]; exact ((Below.refl _ w).alloc (Nat.le_refl _) _).alloc (by simp) _
  have b1 : Boxed W0 w.heap.size 24 (.slice A bs.length cap) := by rw [← hW0]; exact (Boxed.new w _ _).alloc _
  have b2 : Boxed W0 (w.heap.size + 1) 3 (.int .i64 0) := by
   rw [← hW0]
   have := Boxed.new (w.alloc (Obj.cells #[Value.slice A bs.length cap] 24)) 3 (.int .i64 0)
   rw [World.size_alloc] at this
   exact this
  have c1 := b1.cell
  gi_wp2_with fail
  refine ⟨trivial, ?_⟩
  gi_at_call 97
  refine (callsIn_wide.2 (strong_any _ bs hreach _ (hS.next hB0) (hT.below hB0) (hO.below hB0))).mono ?_
  rintro e w1 ⟨hB1, ⟨av, B2, rfl, hfine, hB2l, hca, hcb, hav⟩ | ⟨rfl, hbad⟩⟩
  · have hBw := below_trans hB0 hB1
    have hS1 := (hS.next hB0).next hB1
    have d1 : Boxed w1 w.heap.size 24 (.slice A bs.length cap) := (hB1.block _ b1.lt).trans b1
    have d2 : Boxed w1 (w.heap.size + 1) 3 (.int .i64 0) := (hB1.block _ b2.lt).trans b2
    have hsz := hB1.size
    rw [hs0] at hca hsz
    clear hW0 c1
    gi_wp2_with fail
    refine wpIn_rangeFunc_ownG rfl (by decide) (gf := 101) (lb := #[.pointer (some ⟨w.heap.size + 2, 0, none⟩), .pointer (some ⟨B2, 0, none⟩)]) rfl trivial (enters_of Tryd.func101 (by kernel_rfl) rfl)
     (strong_stops 3 (w.heap.size + 2) B2 w1.heap.size _ av bs hreach w1 (World.block_lt_of_cell? w1 _ hca) hB2l (Nat.le_refl _) hca hcb hS1 hav) belowK_t (belowK_b (Nat.le_refl _)) (Below.refl _ _) (fun _ => rfl)
     (fun (pre : List (Nat × Int)) W => ((Boxed W w.heap.size 24 (.slice A bs.length cap) ∧ Boxed W (w.heap.size + 1) 3 (.int .i64 0)) ∧ ∀ y ∈ pre, wrap64 (2 * y.2) ≠ bs.length) ∧ Below w.heap.size w W)
     (fun c (pre : List (Nat × Int)) W => (Boxed W (w.heap.size + 1) 3 (.int .i64 ((pre.getLast?.map Prod.fst).getD 0 : Nat)) ∧ (c = .ret ∧ ∃ pre' k m, pre = pre' ++ [(k, m)] ∧ wrap64 (2 * m) = bs.length ∧ ∀ y ∈ pre', wrap64 (2 * y.2) ≠ bs.length)) ∧ Below w.heap.size w W)
     (OwnFrom.and (OwnFrom.and (OwnFrom.and (Own.from (boxed_own w.heap.size 24 (fun (_ : List (Nat × Int)) => .slice A bs.length cap)) _) (Own.from (boxed_own (w.heap.size + 1) 3 (fun (_ : List (Nat × Int)) => .int .i64 0)) _)) (ownFrom_pure _ (fun (pre : List (Nat × Int)) => ∀ y ∈ pre, wrap64 (2 * y.2) ≠ bs.length))) (ownFrom_below (by omega) (by omega)))
     (fun c => OwnFrom.and (OwnFrom.and (Own.from (boxed_own (w.heap.size + 1) 3 (fun (pre : List (Nat × Int)) => .int .i64 ((pre.getLast?.map Prod.fst).getD 0 : Nat))) _) (ownFrom_pure _ (fun (pre : List (Nat × Int)) => c = .ret ∧ ∃ pre' k m, pre = pre' ++ [(k, m)] ∧ wrap64 (2 * m) = bs.length ∧ ∀ y ∈ pre', wrap64 (2 * y.2) ≠ bs.length))) (ownFrom_below (by omega) (by omega)))
     ⟨⟨⟨d1, d2⟩, by simp⟩, hBw⟩
     (fun x => { tmps := #[.slice A bs.length cap, .pointer (some ⟨w.heap.size, 0, none⟩), .pointer (some ⟨w.heap.size + 1, 0, none⟩), .int .i64 (x.1 : Nat), .int .i64 x.2, .slice A bs.length cap, .func (.func 101) #[] #[.pointer (some ⟨w.heap.size + 2, 0, none⟩), .pointer (some ⟨B2, 0, none⟩)], .int .i64 (x.1 : Nat), .int .i64 x.2, undef, undef, undef, undef, undef, undef, undef], defers := [] }) ?assign ?body ?done ?stop
    case assign =>
     intro l x W K hK
     gi_wp2
     exact hK
    case body =>
     rintro l pre ⟨k, m⟩ W ⟨⟨⟨hv, hr⟩, hall⟩, hB⟩ hlt
     have hc := hv.cell
     have hc2 := hr.cell
     have hf2 := hr.frozen
     by_cases hx : wrap64 (2 * m) = bs.length
     · have hq : (wrap64 (2 * m) == (bs.length : Int)) = true := beq_iff_eq.2 hx
       have Hx := Lib.hid hx
       clear hx
       gi_wp2
       all_goals first
        | (exfalso
           have h : (wrap64 (2 * m) == (bs.length : Int)) = false := by assumption
           exact absurd (h.symm.trans hq) (by decide))
        | (refine ⟨(KeepsOthers.setCell W _ _).from _, ⟨?_, rfl, pre, k, m, rfl, Hx.out, hall⟩, hB.setCell (p := ⟨w.heap.size + 1, 0, none⟩) (by simp) _⟩
           rw [List.getLast?_concat]
           exact hr.set _)
     · have hq : (wrap64 (2 * m) == (bs.length : Int)) = false := beq_eq_false_iff_ne.2 hx
       have Hx := Lib.hid hx
       clear hx
       have hall' : ∀ y ∈ pre ++ [(k, m)], wrap64 (2 * y.2) ≠ bs.length := by
        intro y hy
        rcases List.mem_append.1 hy with hy | hy
        · exact hall y hy
        · rw [List.mem_singleton.1 hy]; exact Hx.out
       gi_wp2
       all_goals first
        | (exfalso
           have h : (wrap64 (2 * m) == (bs.length : Int)) = true := by assumption
           exact absurd (h.symm.trans hq) (by decide))
        | exact ⟨KeepsFrom.refl _ _, Below.refl _ _, ⟨⟨hv, hr⟩, hall'⟩, hB⟩
    case done =>
     rintro D ys W hD rfl ⟨⟨⟨hv, hr⟩, hall⟩, hB⟩ hK
     have hall2 := Lib.hid (show ∀ k, k ≤ bs.length → 2 * mk bs k ≠ bs.length by
      intro k hk e
      have hm := mk_range bs k
      refine hall (k, mk bs k) (List.mem_map.2 ⟨k, by simp; omega, rfl⟩) ?_
      rw [IntWalk.wrap64_in _ (by omega)]; exact e)
     clear hall
     gi_wp2
     refine ⟨by simp, .inl ⟨_, _, rfl, run_takeDeferred hK, ?_⟩⟩
     exact ⟨hB.trans (belowK_b (w := w) (Nat.le_refl _) _ D _ _ (by omega) hK rfl rfl), .inr (.inl ⟨rfl, hfine, hall2.out⟩)⟩
    case stop =>
     rintro D c pre W hD hpre ⟨⟨hr, rfl, pre', k, m, rfl, hm, hall⟩, hB⟩ hK
     obtain ⟨h1, rfl, h3⟩ := pairs_prefix bs pre' k m hpre
     rw [List.getLast?_concat] at hr
     have hmr := mk_range bs k
     rw [IntWalk.wrap64_in _ (by omega)] at hm
     have hall2 := Lib.hid (show ∀ j, j < k → 2 * mk bs j ≠ bs.length by
      intro j hj e
      have hmj := mk_range bs j
      refine hall (j, mk bs j) ?_ ?_
      · rw [h3, pairs_take bs k (by omega)]; exact List.mem_map.2 ⟨j, by simp [hj], rfl⟩
      · rw [IntWalk.wrap64_in _ (by omega)]; exact e)
     have hm := Lib.hid hm
     have hc := hr.cell
     clear hall hpre h3
     gi_wp2
     refine ⟨by simp, .inl ⟨_, _, rfl, run_takeDeferred hK, ?_⟩⟩
     have hc5 := cell_kept hc (grownBy_putObj' _ D (.deferred none)) (fun r e => by cases e; exact ⟨_, hK, rfl⟩)
     refine ⟨.int .i64 (k : Nat), ?_, hB.trans (belowK_b (w := w) (Nat.le_refl _) _ D _ _ (by omega) hK rfl rfl), .inl ⟨k, h1, rfl, hfine, hm.out, hall2.out⟩⟩
     simp [results, Tryd.f78, go_sem, hc5]
  · gi_wp2
    exact ⟨below_trans hB0 hB1, .inr (.inr ⟨rfl, hbad⟩)⟩
end Go.Proofs.YtjclfkbhakjdaaaDoor.Bl
namespace Go.Proofs.YtjclfkbhakjdaaaDoor.Bl
open Go.RowKit Go.Shelf
attribute [local go_sem] Oper.semAt_some run_store_func
def FindYes (bs : List UInt8) (k : Nat) : Prop := k ≤ bs.length ∧ (-1 : Int) ∉ codesOf bs ∧ 2 * mk bs k = bs.length ∧ ∀ j, j < k → 2 * mk bs j ≠ bs.length
def FindNo (bs : List UInt8) (n : Int) : Prop := (n = 2 ∧ (-1 : Int) ∉ codesOf bs ∧ ∀ k, k ≤ bs.length → 2 * mk bs k ≠ bs.length) ∨ (n = 10 ∧ (-1 : Int) ∈ codesOf bs)
set_option maxRecDepth 100000 in
set_option maxHeartbeats 2000000 in
theorem Find1_any (sv v0 : Value) (bs : List UInt8) (b1 b2 : Nat) (hreach : bs.length ≤ 17592186044416) (w : World) (hS : Sl eB w.heap.size w sv bs) (hT : Tab w) (hO : TabO w)
    (h1 : w.cell? ⟨b1, 0, none⟩ = some sv) (h2 : Boxed w b2 3 v0) :
    Calls Tryd.prog 77 #[.pointer (some ⟨b1, 0, none⟩), .pointer (some ⟨b2, 0, none⟩)] w fun e W' =>
     (∃ k w1, e = .returned (.tuple #[]) ∧ Below w.heap.size w w1 ∧ FindYes bs k ∧ W' = w1.setCell ⟨b2, 0, none⟩ (.int .i64 (k : Nat))) ∨
     (∃ n, e = .panicked [{ v := .iface 28 (.int .i64 n), recovered := false }] ∧ Below w.heap.size w W' ∧ FindNo bs n) := by
 go_enter Tryd.func77, Tryd.ntmps77
 go_wp2_with fail
 go_at_call 78
 refine (find_any sv bs hreach w hS hT hO).mono ?_
 rintro e w1 ⟨hB, ⟨k, hk, rfl, hfine, heq, hleast⟩ | ⟨rfl, hfine, hno⟩ | ⟨rfl, hbad⟩⟩
 · have h2' : Boxed w1 b2 3 v0 := (hB.block b2 h2.lt).trans h2
   have hc := h2'.cell
   have hf := h2'.frozen
   have Hy := Lib.hid (show FindYes bs k from ⟨hk, hfine, heq, hleast⟩)
   clear heq hleast hfine
   go_wp2
   go_end0
   exact .inl ⟨k, w1, rfl, hB, Hy.out, rfl⟩
 · go_wp2
   exact ⟨rfl, .inr ⟨2, rfl, hB, .inl ⟨rfl, hfine, hno⟩⟩⟩
 · go_wp2
   exact ⟨rfl, .inr ⟨10, rfl, hB, .inr ⟨rfl, hbad⟩⟩⟩
set_option maxRecDepth 100000 in
set_option maxHeartbeats 2000000 in
theorem caughtD (sv v0 : Value) (bs : List UInt8) (b1 b2 : Nat) (hreach : bs.length ≤ 17592186044416) (w : World) (hS : Sl eB w.heap.size w sv bs) (hT : Tab w) (hO : TabO w)
    (h1 : w.cell? ⟨b1, 0, none⟩ = some sv) (hl1 : b1 < w.heap.size) (h2 : Boxed w b2 3 v0) :
    Calls Tryd.prog 76 #[.func (.func 77) #[] #[.pointer (some ⟨b1, 0, none⟩), .pointer (some ⟨b2, 0, none⟩)]] w fun e W' =>
     (∃ k w1, e = .returned (.int .i64 0) ∧ Below w.heap.size w w1 ∧ FindYes bs k ∧ W' = (w1.setCell ⟨b2, 0, none⟩ (.int .i64 (k : Nat))).setCell ⟨w.heap.size, 0, none⟩ (.int .i64 0)) ∨
     (∃ n w1, e = .returned (.int .i64 n) ∧ Below w.heap.size w w1 ∧ FindNo bs n ∧ W' = w1.setCell ⟨w.heap.size, 0, none⟩ (.int .i64 n)) := by
 have hmf : ∀ (fn : Fn) (first cap : Array Value) (w : World), (Instr.makeFunc fn first cap).run Tryd.prog w = .ok (.func fn first cap) w := fun _ _ _ _ => rfl
 have hA := (Below.refl w.heap.size w).alloc (Nat.le_refl _) (.cells #[.int .i64 0] 28)
 have hb0 := Boxed.new w 28 (.int .i64 0)
 go_enter_defers Tryd.func76, Tryd.ntmps76
 go_wp2_with fail
 go_at_call 77
 refine (Find1_any sv v0 bs b1 b2 hreach _ (hS.next hA) (hT.below hA) (hO.below hA) ((hA.cell (p := ⟨b1, 0, none⟩) hl1).trans h1) (h2.alloc _)).mono ?_
 have hb0l := hb0.lt
 rintro e w1 (⟨k, w2, rfl, hB, hy, rfl⟩ | ⟨n, rfl, hB, hno⟩)
 · have hb2l := h2.lt
   have hb2 : Boxed (w2.setCell ⟨b2, 0, none⟩ (.int .i64 (k : Nat))) w.heap.size 28 (.int .i64 0) := Boxed.kept (W := w2) ((hB.block w.heap.size hb0l).trans hb0) (grownBy_setCellAt w2 b2 0 _) (by simp; omega)
   have hc := hb2.cell
   have hf := hb2.frozen
   go_wp2
   refine leaves_cons (f := 96) (args := #[.pointer (some ⟨w.heap.size, 0, none⟩)]) (by simp) (by simp [go_sem]) ?_
   refine (catch_idle ⟨w.heap.size, 0, none⟩ _).mono ?_
   rintro e u' w'' ⟨rfl, rfl, rfl⟩
   have hc5 := (hb2.set (.int .i64 0)).cell
   have hB' : Below w.heap.size w w2 := hA.trans (hB.mono (by simp))
   refine ⟨.int .i64 0, ?_, .inl ⟨k, w2, rfl, hB', hy, rfl⟩⟩
   simp [results, Tryd.f76, go_sem, hc5]
 · have hb2 : Boxed w1 w.heap.size 28 (.int .i64 0) := (hB.block w.heap.size hb0l).trans hb0
   have hc := hb2.cell
   have hf := hb2.frozen
   go_wp2
   refine leaves_cons (f := 96) (args := #[.pointer (some ⟨w.heap.size, 0, none⟩)]) (by simp) (by simp [go_sem]) ?_
   refine (catch_take w.heap.size n _ w1 hc hf).mono ?_
   rintro e u' w'' ⟨rfl, rfl, rfl⟩
   have hc5 := (hb2.set (.int .i64 n)).cell
   have hB' : Below w.heap.size w w1 := hA.trans (hB.mono (by simp))
   refine ⟨.int .i64 n, ?_, .inr ⟨n, w1, rfl, hB', hno, rfl⟩⟩
   simp [results, Tryd.f76, go_sem, hc5]
set_option maxRecDepth 100000 in
set_option maxHeartbeats 2000000 in
theorem Find_any (sv : Value) (bs : List UInt8) (hreach : bs.length ≤ 17592186044416) (w : World) (hS : Sl eB w.heap.size w sv bs) (hT : Tab w) (hO : TabO w) :
    Calls Tryd.prog 53 #[sv] w fun e W' => Below w.heap.size w W' ∧
      ((∃ k, e = .returned (.tuple #[.int .i64 (k : Nat), .int .i64 0]) ∧ FindYes bs k) ∨
       (∃ n, e = .returned (.tuple #[.int .i64 0, .int .i64 n]) ∧ FindNo bs n)) := by
  obtain ⟨A, cap, rfl⟩ := hS.len
  obtain ⟨W0, hW0⟩ : ∃ W0, (w.alloc (Obj.cells #[Value.slice A bs.length cap] 24)).alloc (Obj.cells #[Value.int IntKind.i64 0] 3) = W0 := ⟨_, rfl⟩
  have hs0 : W0.heap.size = w.heap.size + 2 := by rw [← hW0]; simp
  have hB0 : Below w.heap.size w W0 := by rw [← hW0]; exact ((Below.refl _ w).alloc (Nat.le_refl _) _).alloc (by simp) _
  have b1 : Boxed W0 w.heap.size 24 (.slice A bs.length cap) := by rw [← hW0]; exact (Boxed.new w _ _).alloc _
  have b2 : Boxed W0 (w.heap.size + 1) 3 (.int .i64 0) := by
   rw [← hW0]
   have := Boxed.new (w.alloc (Obj.cells #[Value.slice A bs.length cap] 24)) 3 (.int .i64 0)
   rw [World.size_alloc] at this
   exact this
  go_enter Tryd.func53, Tryd.ntmps53
  go_wp2_with fail
  go_at_call 76
  refine (caughtD _ _ bs w.heap.size (w.heap.size + 1) hreach W0 (hS.next hB0) (hT.below hB0) (hO.below hB0) b1.cell b1.lt b2).mono ?_
  rintro e W' (⟨k, w1, rfl, hB, hy, rfl⟩ | ⟨n, w1, rfl, hB, hno, rfl⟩)
  · have hb : Boxed w1 (w.heap.size + 1) 3 (.int .i64 0) := (hB.block _ b2.lt).trans b2
    have hb' : Boxed ((w1.setCell ⟨w.heap.size + 1, 0, none⟩ (.int .i64 (k : Nat))).setCell ⟨W0.heap.size, 0, none⟩ (.int .i64 0)) (w.heap.size + 1) 3 (.int .i64 (k : Nat)) :=
     Boxed.kept (W := w1.setCell ⟨w.heap.size + 1, 0, none⟩ (.int .i64 (k : Nat))) (hb.set _) (grownBy_setCellAt _ W0.heap.size 0 _) (by simp; omega)
    have hBw : Below w.heap.size w ((w1.setCell ⟨w.heap.size + 1, 0, none⟩ (.int .i64 (k : Nat))).setCell ⟨W0.heap.size, 0, none⟩ (.int .i64 0)) :=
     ((below_trans hB0 hB).setCell (p := ⟨w.heap.size + 1, 0, none⟩) (by simp) _).setCell (p := ⟨W0.heap.size, 0, none⟩) (by simp; omega) _
    clear hW0
    generalize World.setCell _ _ _ = W2 at *
    have hc := hb'.cell
    have hf := hb'.frozen
    go_wp2
    have hb5 := hb'.set (.int .i64 (k : Nat))
    have hc5 := hb5.cell
    refine bodyPost_ret (v := .tuple #[.int .i64 (k : Nat), .int .i64 0]) ?_ rfl ⟨hBw.setCell (p := ⟨w.heap.size + 1, 0, none⟩) (by simp) _, .inl ⟨k, rfl, hy⟩⟩
    simp [results, Tryd.f53, go_sem, hc5]
  · have hb : Boxed w1 (w.heap.size + 1) 3 (.int .i64 0) := (hB.block _ b2.lt).trans b2
    have hb' : Boxed (w1.setCell ⟨W0.heap.size, 0, none⟩ (.int .i64 n)) (w.heap.size + 1) 3 (.int .i64 0) :=
     Boxed.kept (W := w1) hb (grownBy_setCellAt _ W0.heap.size 0 _) (by simp; omega)
    have hBw : Below w.heap.size w (w1.setCell ⟨W0.heap.size, 0, none⟩ (.int .i64 n)) :=
     (below_trans hB0 hB).setCell (p := ⟨W0.heap.size, 0, none⟩) (by simp; omega) _
    clear hW0
    generalize World.setCell _ _ _ = W2 at *
    have hc := hb'.cell
    have hf := hb'.frozen
    go_wp2
    have hb5 := hb'.set (.int .i64 0)
    have hc5 := hb5.cell
    refine bodyPost_ret (v := .tuple #[.int .i64 0, .int .i64 n]) ?_ rfl ⟨hBw.setCell (p := ⟨w.heap.size + 1, 0, none⟩) (by simp) _, .inr ⟨n, rfl, hno⟩⟩
    simp [results, Tryd.f53, go_sem, hc5]
end Go.Proofs.YtjclfkbhakjdaaaDoor.Bl
