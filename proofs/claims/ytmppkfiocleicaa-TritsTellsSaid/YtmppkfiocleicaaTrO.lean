/- TritsOrder. -/
import Derived.Test.YtmppkfiocleicaaTrX
import Derived.Test.YtmppkfiocleicaaTrN
import Derived.Test.YtmppkfiocleicaaIV
import Derived.StillTailTactics
namespace Go.Proofs.Ytmppkfiocleicaa
open Go.RowKit Go.Shelf
attribute [local go_sem] Oper.semAt_some run_store_func

theorem Five_L (L : List UInt8) (hl : L.length = 5) (w : World) : Calls Try.prog 14 #[aB L] w fun e w' => e = .returned (aB (trL (nb L 5))) ∧ Below w.heap.size w w' := by
  obtain ⟨b0, b1, b2, b3, b4, rfl⟩ := of5 L hl
  exact Five_any b0 b1 b2 b3 b4 w
theorem run_conv_arr {W : World} {g m : Nat} {t : TypeId} {L : List UInt8} (h : Row8 W g t L) (hm : L.length = m) : (convert 24 9 (.slice (some ⟨g, 0, none⟩) m m)).run Try.prog W = .ok (.string ⟨L.toArray⟩) W :=
  run_str (sl_row h (g + 1) (by omega) m hm) _ _ 5 Try.underlying24 Try.underlying5 Try.underlying9

theorem ready_wp {P : Program} {o : Oper} {a : Act} {w : World} {K : Act → World → Prop} {Q : Exit → Act → World → Prop} {b : Bool} {R : Prop} (hb : b = true) (h : o.wp P a w K Q) : if b = true then o.wp P a w K Q else R := by
  rw [if_pos hb]; exact h
/-- What holds in the first region, whichever of its operations are done. -/
def OrI (w0 : World) (t : Value → Value → Value → Value → Value → Value → Act) (A B X Y Z : List UInt8) (D : Nat → Bool) (a : Act) (w : World) : Prop :=
  ∃ x5 x6 x7 x8 x9 x10, a = t x5 x6 x7 x8 x9 x10 ∧ Below w0.heap.size w0 w ∧
    (D 0 = true → x7 = aB A) ∧ (D 1 = true → x8 = aB X) ∧ (D 2 = true → x9 = aB B) ∧ (D 3 = true → x10 = aB Y) ∧
    (D 4 = true → ∃ g, x5 = .pointer (some ⟨g, 0, none⟩) ∧ w0.heap.size ≤ g ∧ Row8 w g 23 (if D 6 then X else Z)) ∧
    (D 5 = true → ∃ g, x6 = .pointer (some ⟨g, 0, none⟩) ∧ w0.heap.size ≤ g ∧ Row8 w g 23 (if D 7 then Y else Z)) ∧
    (D 4 = true → D 5 = true → x5 ≠ x6) ∧ (D 6 = true → D 4 = true) ∧ (D 7 = true → D 5 = true)

set_option maxRecDepth 100000 in
set_option maxHeartbeats 4000000 in
theorem TritsOrder_any (A B : List UInt8) (hA : A.length = 5) (hB : B.length = 5) (w : World) :
    Calls Try.prog 6 #[aB A, aB B] w fun e w' => e = .returned (.bool true) ∧ Below w.heap.size w w' := by
  have hw := wakes_any
  have hcA := cells_aB A
  have hcB := cells_aB B
  have hA1 := ((Below.refl w.heap.size w).alloc (Nat.le_refl _) (.cells (A.map eB).toArray 22)).alloc (by simp) (.cells (B.map eB).toArray 22)
  have hr1 := (Rowed.new w 22 (A.map eB).toArray).alloc (.cells (B.map eB).toArray 22)
  have hr2 := Rowed.new (w.alloc (.cells (A.map eB).toArray 22)) 22 (B.map eB).toArray
  rw [World.size_alloc] at hr2
  have hs1 : ((w.alloc (.cells (A.map eB).toArray 22)).alloc (.cells (B.map eB).toArray 22)).heap.size = w.heap.size + 2 := by simp
  go_enter Try.func6, Try.ntmps6
  go_wp2_with fail
  generalize (w.alloc (.cells (A.map eB).toArray 22)).alloc (.cells (B.map eB).toArray 22) = w0 at *
  obtain ⟨T, hT⟩ : ∃ T : Value → Value → Value → Value → Value → Value → Act, T = fun x5 x6 x7 x8 x9 x10 => { tmps := #[aB A, aB B, .pointer (some ⟨w.heap.size, 0, none⟩), .pointer (some ⟨w.heap.size + 1, 0, none⟩), .bool false, x5, x6, x7, x8, x9, x10, undef, undef, undef, undef, undef, undef, undef, undef, undef, undef, undef, undef, undef, undef, undef, undef, undef, undef, undef, undef, undef, undef, undef], defers := [] } := ⟨_, rfl⟩
  dsimp only at hT
  have HT := Lib.hid hT
  clear hT
  obtain ⟨hz, hsz⟩ := zero_of_info info26
  rw [z26_eq] at hz
  have hc0 := cells_aB (List.replicate 26 0)
  generalize hZ : List.replicate 26 (0 : UInt8) = Z at *
  have hX := Five_L A hA
  have hY := Five_L B hB
  have sX := size26 (trL (nb A 5)) (trL_length _)
  have sY := size26 (trL (nb B 5)) (trL_length _)
  have zX : (Z.map eB).toArray.size = ((trL (nb A 5)).map eB).toArray.size := by rw [← hZ]; simp [trL_length]
  have zY : (Z.map eB).toArray.size = ((trL (nb B 5)).map eB).toArray.size := by rw [← hZ]; simp [trL_length]
  clear hZ
  generalize hXe : trL (nb A 5) = X at *
  generalize hYe : trL (nb B 5) = Y at *
  have s5A := size5 A hA
  have s5B := size5 B hB
  refine wp_region_any (by kernel_rfl) (wpAny_inv (OrI w0 T A B X Y Z) (by kernel_rfl) ?step ?fin _ _ _ _ rfl (by kernel_rfl) ?start)
  case start =>
    refine ⟨undef, undef, undef, undef, undef, undef, by rw [HT.out], ⟨rfl, rfl, rfl, Nat.le_refl _, fun _ _ => rfl⟩, ?_, ?_, ?_, ?_, ?_, ?_, ?_, ?_, ?_⟩ <;> (intro h; simp at h)
  case step =>
    intro D a w' i o ho hDi hdep ⟨x5, x6, x7, x8, x9, x10, ha, hBw, h0, h1, h2, h3, h4, h5, h45, h64, h75⟩ K hK
    subst ha
    rw [HT.out] at hK ⊢
    rcases i with _ | _ | _ | _ | _ | _ | _ | _ | i
    all_goals
      simp only [List.getElem?_toArray, List.getElem?_cons_zero, List.getElem?_cons_succ, Option.some.injEq, List.getElem?_nil, reduceCtorEq, Nat.zero_add] at ho
    all_goals
      subst ho
      simp [Region.binds] at hdep
      refine ready_wp rfl ?_
      dsimp only
    · refine wp_load_row 22 (.tmp 2) rfl w.heap.size rfl _ (A.map eB).toArray _ _ (hr1.below hBw (by omega)) Try.underlying22 rfl s5A (hK _ _ ?_)
      exact ⟨x5, x6, aB A, x8, x9, x10, rfl, hBw, fun _ => rfl, by simpa [upd] using h1, by simpa [upd] using h2, by simpa [upd] using h3, by simpa [upd] using h4, by simpa [upd] using h5, by simpa [upd] using h45, by simpa [upd] using h64, by simpa [upd] using h75⟩
    · obtain rfl := h0 hdep
      go_simp
      refine (hX _).mono ?_
      rintro e w2 ⟨rfl, hB2⟩
      refine hK _ _ ⟨x5, x6, aB A, aB X, x9, x10, rfl, below_trans hBw hB2, fun _ => rfl, fun _ => rfl, by simpa [upd] using h2, by simpa [upd] using h3, ?_, ?_, by simpa [upd] using h45, by simpa [upd] using h64, by simpa [upd] using h75⟩
      · intro h
        obtain ⟨g, e, hg, hr⟩ := h4 (by simpa [upd] using h)
        exact ⟨g, e, hg, by simpa [upd] using hr.below hB2 hr.lt⟩
      · intro h
        obtain ⟨g, e, hg, hr⟩ := h5 (by simpa [upd] using h)
        exact ⟨g, e, hg, by simpa [upd] using hr.below hB2 hr.lt⟩
    · refine wp_load_row 22 (.tmp 3) rfl (w.heap.size + 1) rfl _ (B.map eB).toArray _ _ (hr2.below hBw (by omega)) Try.underlying22 rfl s5B (hK _ _ ?_)
      exact ⟨x5, x6, x7, x8, aB B, x10, rfl, hBw, by simpa [upd] using h0, by simpa [upd] using h1, fun _ => rfl, by simpa [upd] using h3, by simpa [upd] using h4, by simpa [upd] using h5, by simpa [upd] using h45, by simpa [upd] using h64, by simpa [upd] using h75⟩
    · obtain rfl := h2 hdep.1
      obtain rfl := h1 hdep.2
      go_simp
      refine (hY _).mono ?_
      rintro e w2 ⟨rfl, hB2⟩
      refine hK _ _ ⟨x5, x6, x7, aB X, aB B, aB Y, rfl, below_trans hBw hB2, by simpa [upd] using h0, fun _ => rfl, fun _ => rfl, fun _ => rfl, ?_, ?_, by simpa [upd] using h45, by simpa [upd] using h64, by simpa [upd] using h75⟩
      · intro h
        obtain ⟨g, e, hg, hr⟩ := h4 (by simpa [upd] using h)
        exact ⟨g, e, hg, by simpa [upd] using hr.below hB2 hr.lt⟩
      · intro h
        obtain ⟨g, e, hg, hr⟩ := h5 (by simpa [upd] using h)
        exact ⟨g, e, hg, by simpa [upd] using hr.below hB2 hr.lt⟩
    · have h6 : D 6 = false := by
        cases h : D 6 with
        | false => rfl
        | true => have := h64 h; rw [hDi] at this; cases this
      go_simp
      refine hK _ _ ⟨_, x6, x7, x8, x9, x10, rfl, hBw.alloc hBw.size _, by simpa [upd] using h0, by simpa [upd] using h1, by simpa [upd] using h2, by simpa [upd] using h3, fun _ => ⟨_, rfl, hBw.size, ?_⟩, ?_, ?_, by simp [upd], by simpa [upd] using h75⟩
      · simpa [upd, h6] using Rowed.new w' 23 (Z.map eB).toArray
      · intro h
        obtain ⟨g, e, hg, hr⟩ := h5 (by simpa [upd] using h)
        exact ⟨g, e, hg, by simpa [upd] using hr.alloc _⟩
      · intro _ h e
        obtain ⟨g, e', hg, hr⟩ := h5 (by simpa [upd] using h)
        rw [e'] at e
        have := hr.lt
        injection e with e
        injection e with e
        injection e with e
        omega
    · have h7 : D 7 = false := by
        cases h : D 7 with
        | false => rfl
        | true => have := h75 h; rw [hDi] at this; cases this
      go_simp
      refine hK _ _ ⟨x5, _, x7, x8, x9, x10, rfl, hBw.alloc hBw.size _, by simpa [upd] using h0, by simpa [upd] using h1, by simpa [upd] using h2, by simpa [upd] using h3, ?_, fun _ => ⟨_, rfl, hBw.size, ?_⟩, ?_, by simpa [upd] using h64, by simp [upd]⟩
      · intro h
        obtain ⟨g, e, hg, hr⟩ := h4 (by simpa [upd] using h)
        exact ⟨g, e, hg, by simpa [upd] using hr.alloc _⟩
      · simpa [upd, h7] using Rowed.new w' 23 (Z.map eB).toArray
      · intro h _ e
        obtain ⟨g, e', hg, hr⟩ := h4 (by simpa [upd] using h)
        rw [e'] at e
        have := hr.lt
        injection e with e
        injection e with e
        injection e with e
        omega
    · obtain ⟨d4, d1, d3, d0, _, d2, _, _, d5⟩ := hdep
      obtain ⟨g, rfl, hg, hr⟩ := h4 d4
      obtain ⟨g', rfl, hg', hr'⟩ := h5 d5
      obtain rfl := h1 d1
      have hne : g ≠ g' := fun e => h45 d4 d5 (by rw [e])
      rw [hDi] at hr
      refine wp_store_row 23 (.tmp 5) (.tmp 8) rfl g (X.map eB).toArray rfl rfl _ _ hr sX zX (one_map X) (hK _ _ ?_)
      refine ⟨_, _, x7, _, x9, x10, rfl, below_setRow hBw g _ hg, by simpa [upd] using h0, fun _ => rfl, by simpa [upd] using h2, by simpa [upd] using h3, fun _ => ⟨g, rfl, hg, ?_⟩, fun _ => ⟨g', rfl, hg', ?_⟩, fun _ _ => h45 d4 d5, fun _ => by simpa [upd] using d4, by simpa [upd] using h75⟩
      · simpa [upd] using Row8.put hr X
      · simpa [upd] using hr'.put_other (fun e => hne e.symm)
    · obtain ⟨d5, d3, d6, d0, d1, d2, _, d4, _⟩ := hdep
      obtain ⟨g, rfl, hg, hr⟩ := h4 d4
      obtain ⟨g', rfl, hg', hr'⟩ := h5 d5
      obtain rfl := h3 d3
      have hne : g ≠ g' := fun e => h45 d4 d5 (by rw [e])
      rw [hDi] at hr'
      refine wp_store_row 23 (.tmp 6) (.tmp 10) rfl g' (Y.map eB).toArray rfl rfl _ _ hr' sY zY (one_map Y) (hK _ _ ?_)
      refine ⟨_, _, x7, x8, x9, _, rfl, below_setRow hBw g' _ hg', by simpa [upd] using h0, by simpa [upd] using h1, by simpa [upd] using h2, fun _ => rfl, fun _ => ⟨g, rfl, hg, ?_⟩, fun _ => ⟨g', rfl, hg', ?_⟩, fun _ _ => h45 d4 d5, by simpa [upd] using h64, fun _ => by simpa [upd] using d5⟩
      · simpa [upd] using hr.put_other hne
      · simpa [upd] using Row8.put hr' Y
  case fin =>
    intro D a w' hall ⟨x5, x6, x7, x8, x9, x10, ha, hBw, h0, h1, h2, h3, h4, h5, h45, _, _⟩
    have hD : ∀ i, i < 8 → D i = true := hall
    obtain ⟨g, rfl, hg, hr⟩ := h4 (hD 4 (by omega))
    obtain ⟨g', rfl, hg', hr'⟩ := h5 (hD 5 (by omega))
    rw [hD 6 (by omega), if_pos rfl] at hr
    rw [hD 7 (by omega), if_pos rfl] at hr'
    subst ha
    rw [HT.out]
    have hrA := hr1.below hBw (by omega)
    have hrB := hr2.below hBw (by omega)
    have hA2 := hA1.trans (hBw.mono (by omega))
    clear h0 h1 h2 h3 h4 h5 h45 hD hall hX hY hr1 hr2 hBw zX zY hz hc0 hA1
    have hX26 : X.length = 26 := by rw [← hXe]; exact trL_length _
    have hY26 : Y.length = 26 := by rw [← hYe]; exact trL_length _
    have hl1 : Op.bytesLess X Y = Op.bytesLess A B := by
      rw [← hXe, ← hYe, trL_less _ _ (nb5_lt A) (nb5_lt B), nb_less A B hA hB]
    have hl2 : decide (X = Y) = decide (A = B) := by
      rw [decide_eq_decide, ← hXe, ← hYe]
      exact ⟨fun h => nb_inj A B hA hB (trL_inj _ _ (nb5_lt A) (nb5_lt B) h), fun h => by rw [h]⟩
    have q1 := eql26 X Y hX26 hY26
    have q2 := eql5 A B hA hB
    rw [hl2] at q1
    have tX : (⟨X.toArray⟩ : ByteArray).toList = X := by rw [ByteArray.toList_eq]
    have tY : (⟨Y.toArray⟩ : ByteArray).toList = Y := by rw [ByteArray.toList_eq]
    have tA : (⟨A.toArray⟩ : ByteArray).toList = A := by rw [ByteArray.toList_eq]
    have tB : (⟨B.toArray⟩ : ByteArray).toList = B := by rw [ByteArray.toList_eq]
    have v1 := arr_slice (P := Try.prog) Try.underlying23 size1 g
    have v2 := arr_slice (P := Try.prog) Try.underlying23 size1 g'
    have v3 := arr_slice (P := Try.prog) Try.underlying22 size1 w.heap.size
    have v4 := arr_slice (P := Try.prog) Try.underlying22 size1 (w.heap.size + 1)
    have c1 : (convert 24 9 (.slice (some ⟨g, 0, none⟩) 26 26)).run Try.prog w'.drew = .ok (.string ⟨X.toArray⟩) w'.drew := run_conv_arr (W := w'.drew) hr hX26
    have c2 : (convert 24 9 (.slice (some ⟨g', 0, none⟩) 26 26)).run Try.prog w'.drew = .ok (.string ⟨Y.toArray⟩) w'.drew := run_conv_arr (W := w'.drew) hr' hY26
    have c3 : (convert 24 9 (.slice (some ⟨w.heap.size, 0, none⟩) 5 5)).run Try.prog w'.drew = .ok (.string ⟨A.toArray⟩) w'.drew := run_conv_arr (W := w'.drew) hrA hA
    have c4 : (convert 24 9 (.slice (some ⟨w.heap.size + 1, 0, none⟩) 5 5)).run Try.prog w'.drew = .ok (.string ⟨B.toArray⟩) w'.drew := run_conv_arr (W := w'.drew) hrB hB
    have l1 : (Instr.loadAt 23 (.pointer (some ⟨g, 0, none⟩))).run Try.prog w'.drew = .ok (aB X) w'.drew := run_loadAt_row w'.drew g _ 23 _ _ _ hr Try.underlying23 rfl sX
    have l2 : (Instr.loadAt 23 (.pointer (some ⟨g', 0, none⟩))).run Try.prog w'.drew = .ok (aB Y) w'.drew := run_loadAt_row w'.drew g' _ 23 _ _ _ hr' Try.underlying23 rfl sY
    have l3 : (Instr.loadAt 22 (.pointer (some ⟨w.heap.size, 0, none⟩))).run Try.prog w'.drew = .ok (aB A) w'.drew := run_loadAt_row w'.drew w.heap.size _ 22 _ _ _ hrA Try.underlying22 rfl s5A
    have l4 : (Instr.loadAt 22 (.pointer (some ⟨w.heap.size + 1, 0, none⟩))).run Try.prog w'.drew = .ok (aB B) w'.drew := run_loadAt_row w'.drew (w.heap.size + 1) _ 22 _ _ _ hrB Try.underlying22 rfl s5B
    have g1 := guard_agg .eql 23 (X.map eB).toArray (Y.map eB).toArray (by kernel_rfl)
    have g2 := guard_agg .eql 22 (A.map eB).toArray (B.map eB).toArray (by kernel_rfl)
    obtain ⟨bl, hbl⟩ : ∃ bl, Op.bytesLess A B = bl := ⟨_, rfl⟩
    rw [hbl] at hl1
    have e1 : (bl == bl) = true := by simp
    have e2 : (decide (A = B) == decide (A = B)) = true := by simp
    have hdr := hA2.trans (⟨rfl, rfl, rfl, Nat.le_refl _, fun _ _ => rfl⟩ : Below w.heap.size w' w'.drew)
    generalize hdm : decide (A = B) = dm at *
    clear hdm hl2 hXe hYe hr hr' hrA hrB hA2 hsz sX sY s5A s5B hX26 hY26 hs1 hA hB hcA hcB HT
    go_wp2_with fail
    go_still_tail 21, (by kernel_rfl)
    refine still_load 23 (.tmp 5) rfl rfl _ l1 ?_
    refine still_load 23 (.tmp 6) rfl rfl _ l2 ?_
    clear l1 l2
    repeat still_step
    refine still_load 22 (.tmp 2) rfl rfl _ l3 ?_
    refine still_load 22 (.tmp 3) rfl rfl _ l4 ?_
    clear l3 l4
    repeat still_step
    refine wpStill_nil ?_
    change wpList _ _ _ _ _ w'.drew
    generalize w'.drew = wd at *
    go_wp2_with (go_at_call 7; refine (hw _).mono ?_; rintro e w3 ⟨rfl, hB3⟩)
    go_ret
    exact ⟨rfl, below_trans hdr hB3⟩
end Go.Proofs.Ytmppkfiocleicaa
