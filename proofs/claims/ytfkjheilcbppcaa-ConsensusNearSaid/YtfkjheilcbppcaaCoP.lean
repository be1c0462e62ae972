/- Contract of consensus.Of. (Seat s27.) -/
import Derived.Test.YtfkjheilcbppcaaCoO
import Derived.Test.YtfkjheilcbppcaaGC
namespace Go.Proofs.Ytfkjheilcbppcaa
open Go.RowKit Go.Maps
attribute [local go_sem] Oper.semAt_some run_store_func

theorem gh_put {P : Program} {md : Region.Mode} {ops : Array Oper} {S : (Nat → Bool) → (Nat → Value) → World → Prop} {A : (Nat → Value) → Act} {i : Nat} {o : Oper} {s : Tmp} (hi : ops[i]? = some o) (hd : o.dst = some s)
    (hA : ∀ g v, A (fun j => if j = i then v else g j) = (A g).put (some s) v)
    (hrun : ∀ D g w, D i = false → (o.after.all fun e => !Region.binds md e || D e.on) = true → S D g w →
      if Region.wanted o (yielded ops (A g).tmps) = true then o.wp P (A g) w (fun a' w' => ∃ v, a' = (A g).put (some s) v ∧ S (upd D i) (fun j => if j = i then v else g j) w') (fun _ _ _ => False) else False) : GhOk P md ops S A i o := by
  intro D g w hD hdep hS
  have h := hrun D g w hD hdep hS
  split
  · rename_i hw
    rw [if_pos hw] at h
    refine Oper.wp_mono (fun a' w' ⟨v, e, hS'⟩ => ?_) h
    refine ⟨fun j => if j = i then v else g j, ?_, ?_, ?_, hS'⟩
    · rw [hA, e]
    · intro s' _
      rw [e, hA]
    · intro s' hs'
      rw [hA]
      have hne : s ≠ s' := by
        rintro rfl
        have := hs' i o hi hd
        rw [hD] at this
        cases this
      simp only [Act.put]
      rw [Array.getElem?_setIfInBounds_ne hne]
  · rename_i hw
    rw [if_neg hw] at h
    exact h.elim
set_option maxRecDepth 100000 in
set_option maxHeartbeats 4000000 in
theorem CoOfm_any (v0 : Value) (rows : List RowC) (hr : rows.length ≤ 1000) (hl8 : ∀ p ∈ rows, p.bs.length ≤ 5000) (w : World) (h0 : RowsIn w v0 rows) :
    Calls Try.prog 14 #[v0] w fun e w' => Below w.heap.size w w' ∧ ((bsL rows = [] ∧ e = .returned (.tuple #[.slice none 0 0, .bool false])) ∨ (bsL rows ≠ [] ∧ ∃ v, e = .returned (.tuple #[v, .bool true]) ∧ w'.ownsRow w.heap.size 5 1 v (ofG (bsL rows)).length ((ofG (bsL rows)).map eB))) := by
  have hL := CoLength_any v0 rows hr hl8 w h0
  obtain ⟨i0, hi, hz0, hz1, hz2⟩ := info_parts info_u8
  by_cases hne : bsL rows = []
  · rw [hne, lenG_nil] at hL
    go_enter Try.func14, Try.ntmps14
    go_wp2_with fail
    go_at_call 10
    refine hL.mono ?_
    rintro e w1 ⟨rfl, hB⟩
    clear hL
    go_wp2_with fail
    go_ret2
    exact ⟨hB, .inl ⟨hne, rfl⟩⟩
  · have hpos := (lenG_is (bsL rows) hne).1
    rw [decide_eq_true hpos] at hL
    have hlen8 : (lenG (bsL rows)).1 ≤ 5000 := by
      obtain ⟨p1, p2⟩ := lenG_is (bsL rows) hne
      obtain ⟨r, hr, hl⟩ := cntL_pos.1 (show 0 < cntL (bsL rows) (lenG (bsL rows)).1 by omega)
      have := bsL_le hl8 r hr
      omega
    have hO := fun w' h' => CoOf_own v0 rows (lenG (bsL rows)).1 hr w' h'
    have hlo := ofG_length (bsL rows)
    have HQ := Lib.hid (fun B g bl br v w0 h1 h2 h3 h4 => columns_seq B g bl br rows hr hlen8 hne v w0 h1 h2 h3 h4)
    go_enter Try.func14, Try.ntmps14
    go_wp2_with fail
    go_at_call 10
    refine hL.mono ?_
    rintro e w1 ⟨rfl, hB⟩
    have h1 := h0.next hB
    generalize hnn : (lenG (bsL rows)).1 = n at *
    clear hL
    go_wp2_with fail
    have hRd : ∀ p ∈ ofL rows n, Sl eB w1.heap.size w1.drew (eC p) p.bs := fun p hp => h1.2 p (List.mem_filter.1 hp).1
    have HN := Lib.hid (show ∀ (W : World), Below w1.heap.size w1.drew W → RowsIn W v0 rows from fun W hb => h1.next (Below.trans (show Below w1.heap.size w1 w1.drew from ⟨rfl, rfl, rfl, Nat.le_refl _, fun _ _ => rfl⟩) hb))
    clear h1
    generalize hY : ofG (bsL rows) = Y at *
    refine wp_region_ghost (OfS w1.heap.size n (ofL rows n) Y w1.drew) (fun g => [(13, .int .i64 n), (14, g 1), (15, v0), (16, .int .i64 n), (17, g 4), (18, .int .i64 n), (19, g 6), (20, g 7), (2, g 8), (3, .bool true)]) (fun _ => undef)
      (by kernel_rfl) (by kernel_rfl) (by kernel_rfl) (by kernel_rfl) (fun _ => by kernel_rfl) ?start ?ok ?fin
    case start =>
      intro D hD
      have e1 := hD 1 (by decide)
      have e4 := hD 4 (by decide)
      have e6 := hD 6 (by decide)
      have e7 := hD 7 (by decide)
      have e8 := hD 8 (by decide)
      refine ⟨Below.refl _ _, ?_, ?_, ?_, ?_, ?_, ?_, ?_, ?_⟩
      all_goals (intro h; simp [e1, e4, e6, e7, e8] at h)
    case ok =>
      intro T hT
      simp only [putAll, Act.put, List.setIfInBounds_toArray, List.set_cons_zero, List.set_cons_succ] at hT
      simp only [ghAll]
      refine ⟨?_, ?_, ?_, ?_, ?_, ?_, ?_, ?_, ?_, ?_, trivial⟩
      · refine gh_same fun D g w' hD hdp hS => ?_
        rw [hT g]
        clear hT
        go_simp
        exact hS.keep (by decide) (by decide) (by decide) (by decide) (by decide)
      · refine gh_put rfl rfl (fun g v => by rw [hT, hT]; rfl) fun D g w' hD hdp hS => ?_
        rw [hT g]
        have hsz := hS.1.size
        rw [if_pos (by rfl)]
        clear hT
        obtain ⟨w2, hrun, r1, r2⟩ := run_make_own (P := Try.prog) w' w1.heap.size 23 5 i0 (.int .u8 0) 1 Try.underlying23 hi hz0 hz1 .i64 .i64 n (by rw [hz2]; omega) (by unfold maxLen; omega) hsz
        unfold Oper.wp
        go_simp
        exact hS.op1 hD r1 r2 (Nat.le_refl _)
      · refine gh_same fun D g w' hD hdp hS => ?_
        rw [hT g]
        clear hT
        go_simp
        exact hS.keep (by decide) (by decide) (by decide) (by decide) (by decide)
      · refine gh_same fun D g w' hD hdp hS => ?_
        rw [hT g]
        clear hT
        go_simp
        exact hS.keep (by decide) (by decide) (by decide) (by decide) (by decide)
      · refine gh_put rfl rfl (fun g v => by rw [hT, hT]; rfl) fun D g w' hD hdp hS => ?_
        rw [hT g, if_pos (by rfl)]
        clear hT
        unfold Oper.wp
        go_simp
        refine (hO _ (HN.out _ hS.1)).mono ?_
        rintro e w2 ⟨v, rfl, hrow, hB2⟩
        exact hS.op4 hD hrow hB2 (Nat.le_refl _)
      · refine gh_same fun D g w' hD hdp hS => ?_
        rw [hT g]
        clear hT
        go_simp
        exact hS.keep (by decide) (by decide) (by decide) (by decide) (by decide)
      · refine gh_put rfl rfl (fun g v => by rw [hT, hT]; rfl) fun D g w' hD hdp hS => ?_
        have h4 : D 4 = true := dep_on hdp (by kernel_rfl)
        have n7 : D 7 = false := bool_no fun h => by rw [(hS.2.2.2.2.2.2.2.1 h).2] at hD; cases hD
        obtain ⟨A4, m4, c4, e4⟩ : ∃ A m c, g 4 = .slice A m c := by
          rcases (hS.2.2.1 h4 n7).2 with ⟨h1, -⟩ | ⟨g', cap', cur, h1, -⟩
          · exact ⟨_, _, _, h1⟩
          · exact ⟨_, _, _, h1⟩
        rw [hT g, if_pos (by rfl), e4]
        clear hT
        unfold Oper.wp
        go_simp
        refine (CoColumns_any A4 m4 c4 n _).mono ?_
        rintro e w2 ⟨rfl, b1, b2, hB2⟩
        rw [← e4] at b1
        exact hS.op6 hD h4 rfl b1 b2 hB2 (Nat.le_refl _)
      · refine gh_put rfl rfl (fun g v => by rw [hT, hT]; rfl) fun D g w' hD hdp hS => ?_
        have h6 : D 6 = true := dep_on hdp (by kernel_rfl)
        have h1 : D 1 = true := dep_on hdp (by kernel_rfl)
        obtain ⟨p, q, e1, hp, hown, e6, hask⟩ := hS.ask hD h1 h6 hRd (Nat.le_refl _)
        have hsz := hS.1.size
        rw [hT g, if_pos (by rfl), e1, e6]
        clear hT
        have hap := AppendSeqF_any 30 #[.pointer (some ⟨q + 1, 0, none⟩), .pointer (some ⟨q, 0, none⟩)] Y w1.heap.size p n (by omega) w' (enters_of Try.func30 (by kernel_rfl) rfl) hown
          (fun W hW _ => HQ.out w'.heap.size p (q + 1) q (g 4) W (fun W2 hk => (hask W2 (keep_t (keep_of hW) hk)).1) (fun W2 hk => (hask W2 (keep_t (keep_of hW) hk)).2.1) (fun W2 hk => (hask W2 (keep_t (keep_of hW) hk)).2.2) hW.size)
        unfold Oper.wp
        go_simp
        refine hap.mono ?_
        rintro e w2 ⟨rfl, hrow, hK⟩
        exact hS.op7 hD h1 h6 hrow ⟨hK.1.1, hK.1.2.1, hK.1.2.2.1, hK.1.2.2.2, fun k hk => hK.2 k (by show k < w'.heap.size; have : w1.drew.heap.size = w1.heap.size := rfl; omega) (by omega)⟩
      · refine gh_put rfl rfl (fun g v => by rw [hT, hT]; rfl) fun D g w' hD hdp hS => ?_
        have h7 : D 7 = true := dep_on hdp (by kernel_rfl)
        rw [hT g]
        clear hT
        go_simp
        exact hS.op8 h7
      · refine gh_same fun D g w' hD hdp hS => ?_
        rw [hT g]
        clear hT
        go_simp
        exact hS.keep (by decide) (by decide) (by decide) (by decide) (by decide)
    case fin =>
      intro T hT D g W2 hall hS
      rw [hT g]
      simp only [putAll, Act.put, List.setIfInBounds_toArray, List.set_cons_zero, List.set_cons_succ]
      obtain ⟨hB2, hrow⟩ := hS.end (hall 8 (by decide))
      clear hT hS
      go_wp2_with fail
      go_ret2
      have hB3 : Below w1.heap.size w1 W2 := Below.trans (show Below w1.heap.size w1 w1.drew from ⟨rfl, rfl, rfl, Nat.le_refl _, fun _ _ => rfl⟩) hB2
      refine ⟨below_trans hB hB3, .inr ⟨hne, _, rfl, ?_⟩⟩
      rw [hY]
      exact ownsRow_base hrow hB.size
end Go.Proofs.Ytfkjheilcbppcaa
