/- Contracts of slices.AppendSeq and Collect at an iterator that loops over another; of rs.syndromes and its iterator. -/
import Derived.Test.YtkldapdebjlfmaaRsI
import Derived.Test.YtkldapdebjlfmaaRO
namespace Go.Proofs.Ytkldapdebjlfmaa
open Go.RowKit Go.Shelf
attribute [local go_sem] Oper.semAt_some run_store_func

set_option maxRecDepth 100000 in
set_option maxHeartbeats 4000000 in
theorem AppendSeqO_any (gf : Nat) (lb : Array Value) (xs : List UInt8) (hxs : xs.length ≤ 1000) (w : World) (hen : ∀ args w, (callFunc gf args).run Try.prog w = .ok (.enter gf args) w)
    (hseq : SeqO Try.prog gf lb (fun x : UInt8 => #[eB x]) (KB w.heap.size 53) xs w) :
    Calls Try.prog 41 #[.slice none 0 0, .func (.func gf) #[] lb] w fun e w' => ∃ v, e = .returned v ∧ Own8 w.heap.size w' v xs ∧ Below w.heap.size w w' := by
  refine (callsIn_wide (n := 5)).1 ?_
  obtain ⟨i0, hi, hz0, hz1, hz2⟩ := info_parts info_u8
  refine callsIn_of_wp_marks Try.func41 rfl trivial ?_ rfl
  simp only [Try.ntmps41, List.size_toArray, List.length_cons, List.length_nil, Nat.reduceAdd, Nat.reduceSub, Array.replicate_succ, Array.replicate_zero, List.push_toArray, List.append_toArray, List.nil_append, List.cons_append]
  have hA := below_alloc w (.cells #[.slice none 0 0] 22)
  have hb0 := Boxed.new w 22 (.slice none 0 0)
  have hsz := World.size_alloc w (.cells #[.slice none 0 0] 22)
  gi_wp2_with fail
  generalize w.alloc (.cells #[.slice none 0 0] 22) = w0 at *
  refine wpIn_range_all (by decide) rfl hen hseq (fun X Y Z h k => h.tr X Y Z k) (KB.put (by omega)) hA (fun _ => rfl)
    (fun (pre : List UInt8) W => (∃ v, Boxed W w.heap.size 22 v ∧ W.ownsRow w.heap.size 5 1 v pre.length (pre.map eB) ∧ True) ∧ Below w.heap.size w W)
    (OwnFrom.and (Own.from (holdsRow_own w.heap.size w.heap.size 22 5 1 (fun (pre : List UInt8) => pre.length) (fun (pre : List UInt8) => pre.map eB) (fun _ _ => True)) _) (ownFrom_below (Nat.le_refl _) (by omega)))
    ⟨⟨_, hb0, ⟨rfl, .inl ⟨rfl, rfl⟩⟩, trivial⟩, hA⟩
    (fun x => { tmps := #[.slice none 0 0, .func (.func gf) #[] lb, .pointer (some ⟨w.heap.size, 0, none⟩), undef, .slice none 0 0, eB x, .func (.func gf) #[] lb, eB x, undef, undef, undef, undef, undef], defers := [] }) ?assign ?body ?done
  case assign =>
    intro l x W K hK
    gi_wp2
    exact hK
  case body =>
    rintro l pre x W ⟨⟨v, hv, hrow, -⟩, hB⟩ hlt
    have hc := hv.cell
    have hf := hv.frozen
    have hm1 : pre.length + 1 ≤ maxLen := by unfold maxLen; omega
    gi_wp2_with
      (gi_at_builtin; refine wpListIn_append_own _ rfl _ _ 22 rfl w.heap.size 5 i0 (.int .u8 0) 1 1 Try.underlying22 hi hz0 hz1 hz2 rfl (by decide) _ _ _ rfl (hrow.alloc _) ⟨W.heap.size, 0, none⟩ 1 1 [eB x] rfl rfl (cell_one_new _ _ _) (by simp [Value.oneCell']) hm1 (by omega) (by have := hB.size; simp; omega) ?_
       intro v' w2 hown' hgrow _
       obtain ⟨g', cap', rfl⟩ := ownsRow_succ hown'
       obtain ⟨hv1', hv2', hr2, hk2, hbl2⟩ := hv.appended (by decide) hrow hB.size (Nat.le_refl _) hown' hgrow
       have hc1 := hv1'.cell
       have hf1 := hv1'.frozen)
    have hboxes : ∀ b u, Boxed W b 53 u → Boxed (w2.setCell ⟨w.heap.size, 0, none⟩ (.slice (some ⟨g', 0, none⟩) (pre.length + 1) cap')) b 53 u := by
      intro b u hu
      have hne : b ≠ w.heap.size := by
        rintro rfl
        have h1 : W.heap[w.heap.size]? = some (.cells #[u] 53 (0, 0)) := hu
        have h2 : W.heap[w.heap.size]? = some (.cells #[v] 22 (0, 0)) := hv
        rw [h1] at h2
        injection h2 with h3
        injection h3 with h4 h5
        exact absurd h5 (by decide)
      exact boxed_setOther ((hu.alloc _).kept hgrow (hu.not_row (by decide) hrow)) hne 0 _
    exact ⟨hk2.from _, ⟨hbl2, hboxes⟩, ⟨_, hv2', by simpa using hr2, trivial⟩, hB.trans hbl2⟩
  case done =>
    rintro D W hD ⟨⟨v, hv, hrow, -⟩, hB⟩ hK
    have hc := hv.cell
    gi_wp2
    refine ⟨by simp, .inl ⟨_, _, rfl, run_takeDeferred hK, ?_⟩⟩
    exact ⟨_, results_tmp rfl _ _ _, v, rfl, ownsRow_putObj hrow _ hK rfl, hB.trans (belowK_b (w := w) (Nat.le_refl _) _ D _ _ (by omega) hK rfl rfl)⟩
set_option maxHeartbeats 1000000 in
theorem CollectO_any (gf : Nat) (lb : Array Value) (xs : List UInt8) (hxs : xs.length ≤ 1000) (w : World) (hen : ∀ args w, (callFunc gf args).run Try.prog w = .ok (.enter gf args) w)
    (hseq : SeqO Try.prog gf lb (fun x : UInt8 => #[eB x]) (KB w.heap.size 53) xs w) :
    Calls Try.prog 24 #[.func (.func gf) #[] lb] w fun e w' => ∃ v, e = .returned v ∧ Own8 w.heap.size w' v xs ∧ Below w.heap.size w w' := by
  go_enter Try.func24, Try.ntmps24
  go_wp2_with fail
  go_at_call 41
  refine (AppendSeqO_any gf lb xs hxs w hen hseq).mono ?_
  rintro e w' ⟨v, rfl, hv, hB⟩
  go_wp2
  go_ret
  exact ⟨v, rfl, hv, hB⟩

/-- The values at the first p powers of 2. -/
def synL (R : List UInt8) (p : Nat) : List UInt8 := (pows2 p).map (ev R)
theorem synL_length (R : List UInt8) (p : Nat) : (synL R p).length = p := by simp [synL, pows2_length]
set_option maxRecDepth 100000 in
set_option maxHeartbeats 8000000 in
theorem syn1_seq (bp bl p n c : Nat) (hp : p ≤ 255) (A : Option Addr) (R : List UInt8) (hR : R.length ≤ 1000) (n₀ : Nat) (w0 : World) (hn₀ : n₀ ≤ w0.heap.size) (h1 : w0.cell? ⟨bp, 0, none⟩ = some (.int .i64 p)) (h2 : w0.cell? ⟨bl, 0, none⟩ = some (.slice A n c)) (hS : Sl eB n₀ w0 (.slice A n c) R) (hl : bl < n₀) :
    SeqO Try.prog 55 #[.pointer (some ⟨bp, 0, none⟩), .pointer (some ⟨bl, 0, none⟩)] (fun x : UInt8 => #[eB x]) (KB n₀ 53) (synL R p) w0 := by
  intro l J W hW hJ hY hJ0
  refine (callsIn_wide (n := 5)).1 ?_
  have k1 := (hW.cell (p := ⟨bp, 0, none⟩) (World.block_lt_of_cell? w0 _ h1)).trans h1
  have hWn : Below n₀ w0 W := hW.mono hn₀
  have hSW := hS.below hWn
  have k2 := (hWn.cell (p := ⟨bl, 0, none⟩) hl).trans h2
  have hnW : n₀ ≤ W.heap.size := by have := hW.size; omega
  clear h1 h2 hS hW hWn hn₀
  have hA1 := below_alloc W (.cells #[.func (.yield l) #[] #[]] 53)
  have hy0 := Boxed.new W 53 (.func (.yield l) #[] #[])
  have z1 := World.size_alloc W (.cells #[.func (.yield l) #[] #[]] 53)
  have hJ1 := hJ.alloc (.cells #[.func (.yield l) #[] #[]] 53) hJ0
  obtain ⟨W1, hW1⟩ : ∃ W1, W.alloc (.cells #[.func (.yield l) #[] #[]] 53) = W1 := ⟨_, rfl⟩
  rw [hW1] at hA1 hy0 z1 hJ1
  have k11 := (hA1.cell (p := ⟨bp, 0, none⟩) (World.block_lt_of_cell? W _ k1)).trans k1
  refine callsIn_of_wp_marks Try.func55 rfl trivial ?_ rfl
  simp only [Try.ntmps55, List.size_toArray, List.length_cons, List.length_nil, Nat.reduceAdd, Nat.reduceSub, Array.replicate_succ, Array.replicate_zero, List.push_toArray, List.append_toArray, List.nil_append, List.cons_append]
  gi_wp2_with (refine ⟨trivial, ?_⟩; gi_at_call 25; refine (callsIn_wide.2 (powers_any p _)).mono ?_; rintro e w' ⟨rfl, rfl⟩)
  have hJ2 := hJ.alloc (.cells #[.int .i64 p] 3) hJ1
  have hy2 := hy0.alloc (.cells #[.int .i64 p] 3)
  have bp2 := Boxed.new W1 3 (.int .i64 p)
  have z2 := World.size_alloc W1 (.cells #[.int .i64 p] 3)
  have hA2 := below_alloc W1 (.cells #[.int .i64 p] 3)
  have hB2 : Below n₀ W (W1.alloc (.cells #[.int .i64 p] 3)) := (hA1.mono hnW).trans (hA2.mono (by omega))
  obtain ⟨W2, hW2⟩ : ∃ W2, W1.alloc (.cells #[.int .i64 p] 3) = W2 := ⟨_, rfl⟩
  rw [hW2] at hJ2 hy2 bp2 z2 hB2
  rw [hW2]
  rw [z1] at bp2
  rw [synL_length] at hY
  have hsz : W2.heap.size = W.heap.size + 2 := by omega
  clear hW1 hW2 hA1 hA2 hy0 z1 z2 hJ1 hJ0 k11 k1
  refine wpIn_rangeFunc_ownG rfl (by decide) (gf := 42) (lb := #[.pointer (some ⟨W.heap.size + 1, 0, none⟩)]) rfl trivial (enters_of Try.func42 (by kernel_rfl) rfl)
    (powers_stops 3 (W.heap.size + 1) 0 p hp W2 (Nat.zero_le _) bp2.cell) belowK_t (belowK_b (Nat.zero_le _)) (Below.refl _ _) (fun _ => rfl)
    (fun (pre : List UInt8) X => (J (pre.map (ev R)) X ∧ Boxed X W.heap.size 53 (.func (.yield l) #[] #[])) ∧ Below n₀ W2 X)
    (fun _ _ _ => False)
    (OwnFrom.and (OwnFrom.and (fun s X Y row hs hg hr => hJ _ X Y row hs hg (fun r e => ⟨by have := (hr r e).1; omega, (hr r e).2⟩)) (Own.from (boxed_own W.heap.size 53 (fun (_ : List UInt8) => .func (.yield l) #[] #[])) _)) (ownFrom_below (by omega) (by omega)))
    (fun _ _ _ _ _ hs _ _ => hs)
    ⟨⟨hJ2, hy2⟩, Below.refl _ _⟩
    (fun x => { tmps := #[.func (.yield l) #[] #[], .pointer (some ⟨bp, 0, none⟩), .pointer (some ⟨bl, 0, none⟩), .pointer (some ⟨W.heap.size, 0, none⟩), eB x, .int .i64 p, .func (.func 42) #[] #[.pointer (some ⟨W.heap.size + 1, 0, none⟩)], eB x, undef, undef, undef, undef, undef, undef], defers := [] }) ?assign ?body ?done ?stop
  case assign =>
    intro l x W K hK
    gi_wp2
    exact hK
  case body =>
    rintro l' pre x X ⟨⟨hj, hb⟩, hB⟩ hlt
    have hBX := hB2.trans hB
    have hjd : J (pre.map (ev R)) X.drew := hJ _ X X.drew none hj ⟨rfl, rfl, rfl, Nat.le_refl _, fun _ _ _ => rfl⟩ (fun r e => by cases e)
    have hbd : Boxed X.drew W.heap.size 53 (.func (.yield l) #[] #[]) := hb
    have hBd : Below n₀ W X.drew := hBX.trans ⟨rfl, rfl, rfl, Nat.le_refl _, fun _ _ => rfl⟩
    have hB0 : Below n₀ W2 X.drew := hB.trans ⟨rfl, rfl, rfl, Nat.le_refl _, fun _ _ => rfl⟩
    have hkX : KeepsFrom W.heap.size X X.drew := (KeepsOthers.drew X).from _
    have hX0 : Below 0 X X.drew := ⟨rfl, rfl, rfl, Nat.le_refl _, fun _ _ => rfl⟩
    gi_wp2_with fail
    refine wpIn_region_paths (by kernel_rfl) [[0, 1, 2, 3, 4, 5], [0, 2, 1, 3, 4, 5], [1, 0, 2, 3, 4, 5], [1, 2, 0, 3, 4, 5], [1, 2, 3, 0, 4, 5], [2, 0, 1, 3, 4, 5], [2, 1, 0, 3, 4, 5], [2, 1, 3, 0, 4, 5]] (by kernel_rfl) ?_
    generalize X.drew = Xd at *
    have kb := hbd.cell
    have kl := (hBd.cell (p := ⟨bl, 0, none⟩) hl).trans k2
    have hSd := (hSW.below hBd).more (show n₀ ≤ Xd.heap.size by have := hBd.size; omega)
    have hEv := Eval_any (.slice A n c) R x (by omega) Xd hSd
    simp only [EachPath, and_true, pick_cons, pick_nil, Option.toList_some, List.cons_append, List.nil_append, List.getElem?_cons_zero, List.getElem?_cons_succ]
    refine ⟨?_, ?_, ?_, ?_, ?_, ?_, ?_, ?_⟩
    all_goals
      gi_wp2_with (refine ⟨trivial, ?_⟩; gi_at_call 56; refine (CallsIn.inRound l' (callsIn_wide.2 hEv)).mono ?_; rintro e w' ⟨rfl, hB3⟩; have kb3 := (hB3.block _ hbd.lt).trans hbd; have kb4 := Boxed.cell kb3)
      have hJ3 : J (pre.map (ev R)) w' := hJ _ Xd w' none hjd (grown_of hB3) (fun r e => by cases e)
      obtain ⟨fn, tmps, assign, body, hy, hR3⟩ := yield_wide (m := 2) (hY _ (ev R x) w' hJ3 (by simpa using hlt))
      rw [hy, Oper.uponIn_round]
      refine ⟨fun h => (by cases h), ?_⟩
      refine RoundIn.mono (F := Fence.wide.inRound l') hR3 ?_
      rintro e W3 ⟨rfl, hJ4, hk4, hkf⟩
      have hk5 : KeepsFrom W2.heap.size X W3 := by
        have h := (hkX.trans (KeepsFrom.of_grownBy (B := W.heap.size) (grown_of hB3) (fun j e => by cases e))).trans hkf
        exact ⟨h.size, fun k o hk ho hc => h.same k o (by omega) ho hc⟩
      have hz5 : Below 0 X W3 := (hX0.trans (hB3.mono (Nat.zero_le _))).trans (hk4.1.mono (Nat.zero_le _))
      have hj5 : J ((pre ++ [x]).map (ev R)) W3 := by rw [List.map_append]; exact hJ4
      have hb5 := hk4.2 _ _ kb3
      have hB5 : Below n₀ W2 W3 := (hB0.trans (hB3.mono (by have := hBd.size; omega))).trans hk4.1
      clear hJ4 hk4 hkf hJ3 hy hR3 hB3 kb3 kb4
      gi_wp2
      exact ⟨hk5, hz5, ⟨hj5, hb5⟩, hB5⟩
  case done =>
    rintro D ys X hD rfl ⟨⟨hj, hb⟩, hB⟩ hK
    have hjD : J (synL R p) (X.putObj D (.deferred none)) := hJ _ X _ (some D) hj (grownBy_putObj' X D _) (fun r e => by cases e; exact ⟨by omega, _, hK, rfl⟩)
    gi_wp2
    refine ⟨by simp, .inl ⟨_, _, rfl, run_takeDeferred hK, ?_⟩⟩
    exact ⟨_, results_none rfl _ _ _, ⟨_, rfl⟩, hjD⟩
  case stop =>
    rintro D c pre W _ _ h _
    exact h.elim
end Go.Proofs.Ytkldapdebjlfmaa
