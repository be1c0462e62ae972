/- Contract of poly.Add. -/
import Derived.Test.YtgidhkfmelpjfaaPoD
namespace Go.Proofs.Ytgidhkfmelpjfaa
open Go.RowKit Go.Shelf
attribute [local go_sem] Oper.semAt_some run_store_func

set_option maxRecDepth 100000 in
set_option maxHeartbeats 2000000 in
theorem Add_any (pv qv : Value) (p q : List UInt8) (hp : p.length ≤ 100000) (hq : q.length ≤ 100000) (w : World) (hP : Sl eB w.heap.size w pv p) (hQ : Sl eB w.heap.size w qv q) :
    Calls Try.prog 15 #[pv, qv] w fun e w' => ∃ v, e = .returned v ∧ Own8 w.heap.size w' v (tr (fun k => C p k ^^^ C q k) (max p.length q.length)) ∧ Below w.heap.size w w' := by
  refine (callsIn_wide (n := 5)).1 ?_
  obtain ⟨Ap, cp, rfl⟩ := hP.len
  obtain ⟨Aq, cq, rfl⟩ := hQ.len
  obtain ⟨N, hN⟩ : ∃ N : Nat, max p.length q.length = N := ⟨_, rfl⟩
  have hNp : p.length ≤ N := by omega
  have hNq : q.length ≤ N := by omega
  have hN1 : N ≤ 100000 := by omega
  have hcase : (q.length ≤ p.length ∧ ∀ w, (Instr.makeSlice 22 (.int .i64 (p.length : Int)) (.int .i64 (p.length : Int))).run Try.prog w = .ok (.slice (some ⟨w.heap.size, 0, none⟩) N N) (w.alloc (.cells (cellsF (fun _ => 0) N) 5))) ∨
      (p.length < q.length ∧ ∀ w, (Instr.makeSlice 22 (.int .i64 (q.length : Int)) (.int .i64 (q.length : Int))).run Try.prog w = .ok (.slice (some ⟨w.heap.size, 0, none⟩) N N) (w.alloc (.cells (cellsF (fun _ => 0) N) 5))) := by
    rcases Nat.lt_or_ge p.length q.length with h | h
    · exact .inr ⟨h, fun w => make_run N (by omega) _ (by omega) w⟩
    · exact .inl ⟨h, fun w => make_run N (by omega) _ (by omega) w⟩
  rw [hN]
  clear hN
  have hfa := fun w => factors_any Aq q.length cq w
  refine callsIn_of_wp_marks Try.func15 rfl trivial ?_ rfl
  simp only [Try.ntmps15, List.size_toArray, List.length_cons, List.length_nil, Nat.reduceAdd, Nat.reduceSub, Array.replicate_succ, Array.replicate_zero, List.push_toArray, List.append_toArray, List.nil_append, List.cons_append]
  have hA1 := below_alloc w (.cells (cellsF (fun _ => 0) N) 5)
  have hA2 := below_alloc (w.alloc (.cells (cellsF (fun _ => 0) N) 5)) (.cells #[.slice (some ⟨w.heap.size, 0, none⟩) N N] 22)
  have hA := below_trans hA1 hA2
  have hR := (Rowed.new w 5 (cellsF (fun _ => 0) N)).alloc (.cells #[.slice (some ⟨w.heap.size, 0, none⟩) N N] 22)
  have hb := Boxed.new (w.alloc (.cells (cellsF (fun _ => 0) N) 5)) 22 (.slice (some ⟨w.heap.size, 0, none⟩) N N)
  rw [World.size_alloc] at hb
  have hs0 : ((w.alloc (.cells (cellsF (fun _ => 0) N) 5)).alloc (.cells #[.slice (some ⟨w.heap.size, 0, none⟩) N N] 22)).heap.size = w.heap.size + 2 := by simp
  have hP0 := hP.below hA
  obtain ⟨w1, hcp, hR1, hB1, hO1, hz1⟩ := copy_run 22 22 3 5 Try.underlying22 u8_size w.heap.size N N (.slice Ap p.length cp) (cellsF (fun _ => 0) N) 5 hR (cellsF_size _ _) w.heap.size p hP0 hNp
  rw [copy_cells p N hNp] at hR1
  have hb1 : Boxed w1 (w.heap.size + 1) 22 (.slice (some ⟨w.heap.size, 0, none⟩) N N) := (hO1 _ (by omega)).trans hb
  have hBw1 := hA.trans (hB1 w.heap.size (Nat.le_refl _))
  have hQ1 := hQ.below hBw1
  have hsz1 : w1.heap.size = w.heap.size + 2 := hz1.trans hs0
  clear hR hb hP0 hA1 hA2 hB1 hO1 hz1 hs0 hA
  have hcb := hb1.cell
  have hA3 := below_alloc w1 (.cells #[.slice Aq q.length cq] 22)
  have hbf := Boxed.new w1 22 (.slice Aq q.length cq)
  have hb2 := hb1.alloc (.cells #[.slice Aq q.length cq] 22)
  have hR2 := hR1.alloc (.cells #[.slice Aq q.length cq] 22)
  have hBw2 := hBw1.trans (hA3.mono (by omega))
  have hQ2 := hQ.below hBw2
  have hsz2 : (w1.alloc (.cells #[.slice Aq q.length cq] 22)).heap.size = w.heap.size + 3 := by simp [hsz1]
  rcases hcase with ⟨hle, hmk⟩ | ⟨hle, hmk⟩
  · gi_wp2_with (refine ⟨trivial, ?_⟩; gi_at_call 33; refine (callsIn_wide.2 (hfa _)).mono ?_; rintro e w' ⟨rfl, rfl⟩)
    all_goals first | (exfalso; omega) | skip
    clear hmk hcp hfa
    rw [hsz1] at hbf
    generalize w1.alloc (.cells #[.slice Aq q.length cq] 22) = w2 at *
    refine wpIn_rangeFunc_ownG rfl (by decide) (gf := 41) (lb := #[.pointer (some ⟨w.heap.size + 2, 0, none⟩)]) rfl trivial (enters_of Try.func41 (by kernel_rfl) rfl)
      (factors_stops 3 (w.heap.size + 2) w.heap.size w2.heap.size w.heap.size _ q (by omega) w2 (by omega) (Nat.le_refl _) (by omega) hbf.cell hQ2) keep_t (keep_b (Nat.le_refl _)) (Below.refl _ _) (fun _ => rfl)
      (fun (pre : List (Fin q.length)) W => (Rowed W w.heap.size 5 (cellsF (acc 0 (C q) (C p) pre) N) ∧ Boxed W (w.heap.size + 1) 22 (.slice (some ⟨w.heap.size, 0, none⟩) N N)) ∧ Below w.heap.size w W)
      (fun _ _ _ => False)
      (OwnFrom.and (OwnFrom.and (rowed_ownFrom w.heap.size 5 (fun (pre : List (Fin q.length)) => cellsF (acc 0 (C q) (C p) pre) N) _) (Own.from (boxed_own (w.heap.size + 1) 22 (fun (_ : List (Fin q.length)) => .slice (some ⟨w.heap.size, 0, none⟩) N N)) _)) (ownFrom_below (by omega) (by omega)))
      (fun _ _ _ _ _ hs _ _ => hs)
      ⟨⟨hR2, hb2⟩, hBw2⟩
      (fun x => { tmps := #[.slice Ap p.length cp, .slice Aq q.length cq, undef, undef, .slice none 0 0, .pointer (some ⟨w.heap.size + 1, 0, none⟩), .int .i64 (x.val : Nat), eB q[x], .slice Ap p.length cp, .int .i64 p.length, .slice Aq q.length cq, .int .i64 q.length, .int .i64 p.length, .slice (some ⟨w.heap.size, 0, none⟩) N N, .slice (some ⟨w.heap.size, 0, none⟩) N N, .slice Ap p.length cp, .int .i64 p.length, .slice Aq q.length cq, .func (.func 41) #[] #[.pointer (some ⟨w.heap.size + 2, 0, none⟩)], .int .i64 (x.val : Nat), eB q[x], undef, undef, undef, undef, undef, undef, undef, undef, undef], defers := [] }) ?assign ?body ?done ?stop
    case assign =>
      intro l x W K hK
      gi_wp2
      first | exact hK | simpa using hK
    case body =>
      rintro l pre x W ⟨⟨hr, hv⟩, hB⟩ hlt
      have hxN : x.val < N := Nat.lt_of_lt_of_le x.isLt hNq
      have hc := hv.cell
      have cg := hr.cell x.val
      rw [cellsF_get _ N _ hxN] at cg
      have fg := hr.frozen x.val
      have hxor := eB_xor (acc 0 (C q) (C p) pre x.val) q[x]
      have hset := hr.set x.val (eB (acc 0 (C q) (C p) pre x.val ^^^ q[x]))
      rw [cellsF_set] at hset
      have Hacc := Lib.hid (show (fun k => if k = x.val then acc 0 (C q) (C p) pre x.val ^^^ q[x] else acc 0 (C q) (C p) pre k) = acc 0 (C q) (C p) (pre ++ [x]) by
        rw [acc_snoc]
        funext k
        simp only [upd, Nat.zero_add, C_get q x.val x.isLt]
        split
        · rename_i h; rw [h]; rfl
        · rfl)
      have hvk := Boxed.kept hv (grownBy_setCellAt W w.heap.size x.val (eB (acc 0 (C q) (C p) pre x.val ^^^ q[x]))) (by simp)
      rw [Hacc.out] at hset
      generalize acc 0 (C q) (C p) pre x.val = u at *
      generalize q[x] = y at *
      gi_wp2
      simp only [eB, xor_toNat] at hset hvk ⊢
      exact ⟨(KeepsOthers.setCell _ _ _).from _, keep_set _ _ _ _ _, ⟨hset, hvk⟩, hB.setCell (p := ⟨w.heap.size, x.val, none⟩) (Nat.le_refl _) _⟩
    case done =>
      rintro D ys W hD rfl ⟨⟨hr, hv⟩, hB⟩ hK
      rw [sum_acc p q] at hr
      have hc := hv.cell
      have hDl := (Array.getElem?_eq_some_iff.1 hK).1
      have hSr := sl_cellsF hr W.heap.size hr.lt
      have htr := fun W hS => Trim_any (.slice (some ⟨w.heap.size, 0, none⟩) N N) ((List.range N).map fun k => C p k ^^^ C q k) (by simp; omega) W hS
      rw [C_range _ N (sum_big p q N hNp hNq), List.length_map, List.length_range] at htr
      gi_wp2_with fail
      refine ⟨trivial, ?_⟩
      gi_at_call 13
      refine (callsIn_wide.2 (htr _ hSr)).mono ?_
      rintro e w4 ⟨v4, rfl, hv4, hB4⟩
      have hK4 := (hB4.block D hDl).trans hK
      gi_wp2
      refine ⟨by simp, .inl ⟨_, _, rfl, run_takeDeferred hK4, ?_⟩⟩
      have hsW := hB.size
      exact ⟨_, results_tmp rfl _ _ _, v4, rfl, (hv4.put D _ hDl).mono (by omega), (hB.trans (hB4.mono hsW)).trans (belowK_b (w := w) (Nat.le_refl _) _ D _ _ (by omega) hK4 rfl rfl)⟩
    case stop =>
      rintro D c pre W hD hpre h hK
      exact h.elim
  · gi_wp2_with (refine ⟨trivial, ?_⟩; gi_at_call 33; refine (callsIn_wide.2 (hfa _)).mono ?_; rintro e w' ⟨rfl, rfl⟩)
    all_goals first | (exfalso; omega) | skip
    clear hmk hcp hfa
    rw [hsz1] at hbf
    generalize w1.alloc (.cells #[.slice Aq q.length cq] 22) = w2 at *
    refine wpIn_rangeFunc_ownG rfl (by decide) (gf := 41) (lb := #[.pointer (some ⟨w.heap.size + 2, 0, none⟩)]) rfl trivial (enters_of Try.func41 (by kernel_rfl) rfl)
      (factors_stops 3 (w.heap.size + 2) w.heap.size w2.heap.size w.heap.size _ q (by omega) w2 (by omega) (Nat.le_refl _) (by omega) hbf.cell hQ2) keep_t (keep_b (Nat.le_refl _)) (Below.refl _ _) (fun _ => rfl)
      (fun (pre : List (Fin q.length)) W => (Rowed W w.heap.size 5 (cellsF (acc 0 (C q) (C p) pre) N) ∧ Boxed W (w.heap.size + 1) 22 (.slice (some ⟨w.heap.size, 0, none⟩) N N)) ∧ Below w.heap.size w W)
      (fun _ _ _ => False)
      (OwnFrom.and (OwnFrom.and (rowed_ownFrom w.heap.size 5 (fun (pre : List (Fin q.length)) => cellsF (acc 0 (C q) (C p) pre) N) _) (Own.from (boxed_own (w.heap.size + 1) 22 (fun (_ : List (Fin q.length)) => .slice (some ⟨w.heap.size, 0, none⟩) N N)) _)) (ownFrom_below (by omega) (by omega)))
      (fun _ _ _ _ _ hs _ _ => hs)
      ⟨⟨hR2, hb2⟩, hBw2⟩
      (fun x => { tmps := #[.slice Ap p.length cp, .slice Aq q.length cq, undef, undef, .slice none 0 0, .pointer (some ⟨w.heap.size + 1, 0, none⟩), .int .i64 (x.val : Nat), eB q[x], .slice Ap p.length cp, .int .i64 p.length, .slice Aq q.length cq, .int .i64 q.length, .int .i64 q.length, .slice (some ⟨w.heap.size, 0, none⟩) N N, .slice (some ⟨w.heap.size, 0, none⟩) N N, .slice Ap p.length cp, .int .i64 p.length, .slice Aq q.length cq, .func (.func 41) #[] #[.pointer (some ⟨w.heap.size + 2, 0, none⟩)], .int .i64 (x.val : Nat), eB q[x], undef, undef, undef, undef, undef, undef, undef, undef, undef], defers := [] }) ?assignB ?bodyB ?doneB ?stopB
    case assignB =>
      intro l x W K hK
      gi_wp2
      first | exact hK | simpa using hK
    case bodyB =>
      rintro l pre x W ⟨⟨hr, hv⟩, hB⟩ hlt
      have hxN : x.val < N := Nat.lt_of_lt_of_le x.isLt hNq
      have hc := hv.cell
      have cg := hr.cell x.val
      rw [cellsF_get _ N _ hxN] at cg
      have fg := hr.frozen x.val
      have hxor := eB_xor (acc 0 (C q) (C p) pre x.val) q[x]
      have hset := hr.set x.val (eB (acc 0 (C q) (C p) pre x.val ^^^ q[x]))
      rw [cellsF_set] at hset
      have Hacc := Lib.hid (show (fun k => if k = x.val then acc 0 (C q) (C p) pre x.val ^^^ q[x] else acc 0 (C q) (C p) pre k) = acc 0 (C q) (C p) (pre ++ [x]) by
        rw [acc_snoc]
        funext k
        simp only [upd, Nat.zero_add, C_get q x.val x.isLt]
        split
        · rename_i h; rw [h]; rfl
        · rfl)
      have hvk := Boxed.kept hv (grownBy_setCellAt W w.heap.size x.val (eB (acc 0 (C q) (C p) pre x.val ^^^ q[x]))) (by simp)
      rw [Hacc.out] at hset
      generalize acc 0 (C q) (C p) pre x.val = u at *
      generalize q[x] = y at *
      gi_wp2
      simp only [eB, xor_toNat] at hset hvk ⊢
      exact ⟨(KeepsOthers.setCell _ _ _).from _, keep_set _ _ _ _ _, ⟨hset, hvk⟩, hB.setCell (p := ⟨w.heap.size, x.val, none⟩) (Nat.le_refl _) _⟩
    case doneB =>
      rintro D ys W hD rfl ⟨⟨hr, hv⟩, hB⟩ hK
      rw [sum_acc p q] at hr
      have hc := hv.cell
      have hDl := (Array.getElem?_eq_some_iff.1 hK).1
      have hSr := sl_cellsF hr W.heap.size hr.lt
      have htr := fun W hS => Trim_any (.slice (some ⟨w.heap.size, 0, none⟩) N N) ((List.range N).map fun k => C p k ^^^ C q k) (by simp; omega) W hS
      rw [C_range _ N (sum_big p q N hNp hNq), List.length_map, List.length_range] at htr
      gi_wp2_with fail
      refine ⟨trivial, ?_⟩
      gi_at_call 13
      refine (callsIn_wide.2 (htr _ hSr)).mono ?_
      rintro e w4 ⟨v4, rfl, hv4, hB4⟩
      have hK4 := (hB4.block D hDl).trans hK
      gi_wp2
      refine ⟨by simp, .inl ⟨_, _, rfl, run_takeDeferred hK4, ?_⟩⟩
      have hsW := hB.size
      exact ⟨_, results_tmp rfl _ _ _, v4, rfl, (hv4.put D _ hDl).mono (by omega), (hB.trans (hB4.mono hsW)).trans (belowK_b (w := w) (Nat.le_refl _) _ D _ _ (by omega) hK4 rfl rfl)⟩
    case stopB =>
      rintro D c pre W hD hpre h hK
      exact h.elim
end Go.Proofs.Ytgidhkfmelpjfaa
