/- Contract of the reference's Pack. -/
import Derived.Test.YtmppkfiocleicaaTsA
import Derived.Test.YtmppkfiocleicaaGH
namespace Go.Proofs.Ytmppkfiocleicaa
open Go.RowKit Go.Shelf
attribute [local go_sem] Oper.semAt_some run_store_func

/-- What holds in Pack's region, whichever of its operations are done: g is the block's place. -/
def RpS (w0 : World) (X Z : List UInt8) (D : Nat → Bool) (g : Nat) (w : World) : Prop :=
  Below w0.heap.size w0 w ∧ (D 26 = true → w0.heap.size ≤ g ∧ Row8 w g 23 (if D 27 then X else Z)) ∧ (D 27 = true → D 26 = true)
theorem RpS.keep {w0 w w' : World} {X Z : List UInt8} {D : Nat → Bool} {g i : Nat} (h : RpS w0 X Z D g w) (h1 : i ≠ 26) (h2 : i ≠ 27) (hB : Below w.heap.size w w') : RpS w0 X Z (upd D i) g w' := by
  refine ⟨below_trans h.1 hB, fun hd => ?_, fun hd => ?_⟩
  · rw [upd_other D (fun e => h1 e.symm)] at hd
    obtain ⟨h3, h4⟩ := h.2.1 hd
    rw [upd_other D (fun e => h2 e.symm)]
    exact ⟨h3, h4.below hB h4.lt⟩
  · rw [upd_other D (fun e => h2 e.symm)] at hd
    rw [upd_other D (fun e => h1 e.symm)]
    exact h.2.2 hd
theorem partL5 (bs : List UInt8) (j v : Nat) (hv : v = j * 5) (h : v + 4 < bs.length) : partL bs 5 j = [bs[v], bs[v + 1], bs[v + 2], bs[v + 3], bs[v + 4]] := by
  subst hv
  unfold partL
  rw [List.drop_eq_getElem_cons (by omega), List.take_succ_cons, List.drop_eq_getElem_cons (by omega), List.take_succ_cons, List.drop_eq_getElem_cons (by omega), List.take_succ_cons,
    List.drop_eq_getElem_cons (by omega), List.take_succ_cons, List.drop_eq_getElem_cons (by omega), List.take_succ_cons, List.take_zero]

set_option maxRecDepth 100000 in
set_option maxHeartbeats 4000000 in
theorem RPack_yes (sv : Value) (bs : List UInt8) (k : Nat) (hl : bs.length = k * 5) (hreach : bs.length ≤ 1000000) (w : World) (hS : Sl eB w.heap.size w sv bs) :
    Calls Try.prog 11 #[sv] w fun e w' => ∃ v, e = .returned (.tuple #[v, .int .i64 0]) ∧ w'.ownsRow w.heap.size 5 1 v (packL bs k).length ((packL bs k).map eB) ∧ Below w.heap.size w w' := by
  obtain ⟨A, c, hsv, hcap, hcells⟩ := hS
  subst hsv
  have d2 : (((bs.length : Int) % 5) != 0) = false := by
    have : (bs.length : Int) % 5 = 0 := by omega
    rw [this]; rfl
  obtain ⟨hz, hsz⟩ := zero_of_info info26
  rw [z26_eq] at hz
  have hc1 := cells_aB (List.replicate 26 0)
  obtain ⟨Z, hZ⟩ : ∃ Z : List UInt8, List.replicate 26 (0 : UInt8) = Z := ⟨_, rfl⟩
  have hZl : Z.length = 26 := by rw [← hZ]; rfl
  rw [hZ] at hz hc1
  clear hZ
  have Hl := Lib.hid hl
  clear hl
  obtain ⟨i0, hi, hz0, hz1, hz2⟩ := info_parts info_u8T
  go_enter Try.func11, Try.ntmps11
  go_wp2_with fail
  go_loopw [4, 5] (fun z i wr => ∃ j : Nat, j ≤ k ∧ i = .int .i64 (j * 5 : Nat) ∧ wr.ownsRow w.heap.size 5 1 z (packL bs j).length ((packL bs j).map eB) ∧ Below w.heap.size w wr) (fun _ i _ => bs.length - (intOf i).toNat)
  case atStart => exact ⟨0, Nat.zero_le _, by simp, ⟨rfl, .inl ⟨rfl, rfl⟩⟩, Below.refl _ _⟩
  case round =>
    obtain ⟨j, hj, rfl, hrow, hB⟩ := hrel
    by_cases hlt : j < k
    · have hjm : (j + 1) * 5 ≤ k * 5 := Nat.mul_le_mul_right 5 hlt
      have hlen := Hl.out
      obtain ⟨b, off, rfl, hb, hcell⟩ := hcells (by omega)
      have hjm2 : j * 5 + 4 < bs.length := by omega
      have hbig : j * 5 ≤ 1000000 := by omega
      obtain ⟨v, hv⟩ : ∃ v, v = j * 5 := ⟨_, rfl⟩
      rw [← hv] at hjm2 hbig ⊢
      have hp5 := partL5 bs j v hv hjm2
      have hF := RFive_any (partL bs 5 j) (partL_length hlen hlt)
      have hX26 := trL_length (nb (partL bs 5 j) 5)
      have Hnext := Lib.hid (show packL bs (j + 1) = packL bs j ++ trL (nb (partL bs 5 j) 5) from rfl)
      rw [hp5] at hF hX26 Hnext
      have hpl := packL_length bs j
      generalize trL (nb [bs[v], bs[v + 1], bs[v + 2], bs[v + 3], bs[v + 4]] 5) = X at *
      have g0 := hcell v bs[v] (by simp)
      have g1 := hcell (v + 1) bs[v + 1] (by simp)
      have g2 := hcell (v + 2) bs[v + 2] (by simp)
      have g3 := hcell (v + 3) bs[v + 3] (by simp)
      have g4 := hcell (v + 4) bs[v + 4] (by simp)
      clear hcell hp5
      generalize bs[v] = c0 at *
      generalize bs[v + 1] = c1 at *
      generalize bs[v + 2] = c2 at *
      generalize bs[v + 3] = c3 at *
      generalize bs[v + 4] = c4 at *
      obtain ⟨v1, hv1⟩ : ∃ v1, v + 1 = v1 := ⟨_, rfl⟩
      obtain ⟨v2, hv2⟩ : ∃ v2, v + 2 = v2 := ⟨_, rfl⟩
      obtain ⟨v3, hv3⟩ : ∃ v3, v + 3 = v3 := ⟨_, rfl⟩
      obtain ⟨v4, hv4⟩ : ∃ v4, v + 4 = v4 := ⟨_, rfl⟩
      have e1 : IntKind.i64.wrap ((v : Int) + 1) = (v1 : Int) := by rw [IntWalk.i64_in _ (by omega)]; omega
      have e2 : IntKind.i64.wrap ((v : Int) + 2) = (v2 : Int) := by rw [IntWalk.i64_in _ (by omega)]; omega
      have e3 : IntKind.i64.wrap ((v : Int) + 3) = (v3 : Int) := by rw [IntWalk.i64_in _ (by omega)]; omega
      have e4 : IntKind.i64.wrap ((v : Int) + 4) = (v4 : Int) := by rw [IntWalk.i64_in _ (by omega)]; omega
      have e5 : IntKind.i64.wrap ((v : Int) + 5) = ((v + 5 : Nat) : Int) := by rw [IntWalk.i64_in _ (by omega)]; omega
      have b0 : v < bs.length := by omega
      have b1 : v1 < bs.length := by omega
      have b2 : v2 < bs.length := by omega
      have b3 : v3 < bs.length := by omega
      have b4 : v4 < bs.length := by omega
      rw [hv1] at g1
      rw [hv2] at g2
      rw [hv3] at g3
      rw [hv4] at g4
      have Hv := Lib.hid hv
      have Hpl := Lib.hid hpl
      clear hlen hjm
      have dl : decide ((v : Int) < (bs.length : Int)) = true := decide_eq_true (by omega)
      generalize bs.length = L at *
      clear hv1 hv2 hv3 hv4 hv hpl
      have hv0 : ∃ A' l' c', u4 = .slice A' l' c' := by
        rcases hrow.2 with ⟨rfl, _⟩ | ⟨gg, cap, cur, rfl, _⟩
        · exact ⟨_, _, _, rfl⟩
        · exact ⟨_, _, _, rfl⟩
      obtain ⟨A', l', c', rfl⟩ := hv0
      have hk0 : ∀ w', Below wr.heap.size wr w' → w'.cell? ⟨b, off + v, none⟩ = some (eB c0) ∧ w'.cell? ⟨b, off + v1, none⟩ = some (eB c1) ∧ w'.cell? ⟨b, off + v2, none⟩ = some (eB c2) ∧ w'.cell? ⟨b, off + v3, none⟩ = some (eB c3) ∧ w'.cell? ⟨b, off + v4, none⟩ = some (eB c4) := fun w' hB' => by
        have hBw : Below w.heap.size w w' := below_trans hB hB'
        exact ⟨(hBw.cell (p := ⟨b, off + v, none⟩) hb).trans g0, (hBw.cell (p := ⟨b, off + v1, none⟩) hb).trans g1, (hBw.cell (p := ⟨b, off + v2, none⟩) hb).trans g2, (hBw.cell (p := ⟨b, off + v3, none⟩) hb).trans g3, (hBw.cell (p := ⟨b, off + v4, none⟩) hb).trans g4⟩
      have hbu : ∀ w, (Instr.build 22 #[(0, eB c0), (1, eB c1), (2, eB c2), (3, eB c3), (4, eB c4)]).run Try.prog w = .ok (aB [c0, c1, c2, c3, c4]) w := fun _ => by kernel_rfl
      have sX := size26 X hX26
      have zX : (Z.map eB).toArray.size = (X.map eB).toArray.size := by simp [hZl, hX26]
      have oX := one_map X
      clear g0 g1 g2 g3 g4
      go_wp2_with fail
      refine wp_region_ghost (RpS wr X Z) (fun g => [(17, .slice (some ⟨b, off, none⟩) L c), (18, .int .i64 v), (19, .pointer (some ⟨b, off + v, none⟩)), (20, eB c0), (21, .slice (some ⟨b, off, none⟩) L c), (22, .int .i64 v), (23, .int .i64 v1), (24, .pointer (some ⟨b, off + v1, none⟩)), (25, eB c1),
        (26, .slice (some ⟨b, off, none⟩) L c), (27, .int .i64 v), (28, .int .i64 v2), (29, .pointer (some ⟨b, off + v2, none⟩)), (30, eB c2), (31, .slice (some ⟨b, off, none⟩) L c), (32, .int .i64 v), (33, .int .i64 v3), (34, .pointer (some ⟨b, off + v3, none⟩)), (35, eB c3),
        (36, .slice (some ⟨b, off, none⟩) L c), (37, .int .i64 v), (38, .int .i64 v4), (39, .pointer (some ⟨b, off + v4, none⟩)), (40, eB c4), (41, aB [c0, c1, c2, c3, c4]), (42, aB X), (6, .pointer (some ⟨g, 0, none⟩))]) 0
        (by kernel_rfl) (by kernel_rfl) (by kernel_rfl) (by kernel_rfl) (fun _ => by kernel_rfl) ?start ?ok ?fin
      case start =>
        intro D hD
        refine ⟨⟨rfl, rfl, rfl, Nat.le_refl _, fun _ _ => rfl⟩, fun h => ?_, fun h => ?_⟩
        · rw [hD 26 (by decide)] at h; cases h
        · rw [hD 27 (by decide)] at h; cases h
      case ok =>
        intro T hT
        simp only [putAll, Act.put, List.setIfInBounds_toArray, List.set_cons_zero, List.set_cons_succ] at hT
        simp only [ghAll]
        refine ⟨?_, ?_, ?_, ?_, ?_, ?_, ?_, ?_, ?_, ?_, ?_, ?_, ?_, ?_, ?_, ?_, ?_, ?_, ?_, ?_, ?_, ?_, ?_, ?_, ?_, ?_, ?_, ?_, trivial⟩
        all_goals first
          | (refine gh_same fun D g w' hD hdp hS => ?_
             obtain ⟨k0, k1, k2, k3, k4⟩ := hk0 _ hS.1
             rw [hT g]
             clear hT hk0
             go_simp
             first
               | exact hS.keep (by decide) (by decide) (Below.refl _ _)
               | exact ⟨rfl, hS.keep (by decide) (by decide) (Below.refl _ _)⟩
               | (refine (hF _).mono ?_; rintro e w'' ⟨rfl, hBx⟩; exact ⟨rfl, hS.keep (by decide) (by decide) hBx⟩))
          | skip
        · intro D g w' hD hdp ⟨s1, s2, s3⟩
          have h27 : D 27 = false := by
            cases h : D 27 with
            | false => rfl
            | true => have := s3 h; rw [hD] at this; cases this
          refine ready_wp rfl ?_
          rw [hT g]
          go_simp
          refine show GhPost _ _ _ _ _ _ _ _ _ from ⟨w'.heap.size, by rw [hT], ?_, ?_, below_trans s1 (below_alloc _ _), fun _ => ⟨s1.size, ?_⟩, fun h => by simp [upd]⟩
          · intro s hs
            cases hs
            rw [hT]
          · intro s hs
            rw [hT w'.heap.size, hT g]
            by_cases h6 : s = 6
            · subst h6
              have := hs 26 _ rfl rfl
              rw [hD] at this
              cases this
            · rcases s with _ | _ | _ | _ | _ | _ | _ | s
              all_goals first | exact absurd rfl h6 | simp
          · simpa [upd, h27] using Rowed.new w' 23 (Z.map eB).toArray
        · intro D g w' hD hdp ⟨s1, s2, s3⟩
          simp [Region.binds] at hdp
          obtain ⟨hg, hr⟩ := s2 hdp.1
          rw [hD] at hr
          refine ready_wp rfl ?_
          refine wp_store_row 23 (.tmp 6) (.tmp 42) rfl g (X.map eB).toArray (by rw [hT g]; rfl) (by rw [hT g]; rfl) _ _ hr sX zX oX ?_
          refine show GhPost _ _ _ _ _ _ _ _ _ from ⟨g, rfl, fun _ _ => rfl, fun _ _ => rfl, below_setRow s1 g _ hg, fun _ => ⟨hg, ?_⟩, fun _ => by simpa [upd] using hdp.1⟩
          simpa [upd] using Row8.put hr X
      case fin =>
        intro T hT D g w' hall ⟨s1, s2, s3⟩
        have hD : ∀ i, i < 28 → D i = true := hall
        obtain ⟨hg, hr⟩ := s2 (hD 26 (by omega))
        rw [hD 27 (by omega), if_pos rfl] at hr
        have hTg := hT g
        simp only [putAll, Act.put, List.setIfInBounds_toArray, List.set_cons_zero, List.set_cons_succ] at hTg
        rw [hTg]
        clear hT hTg hD hall s2 s3 hk0 hF hz
        have hsl := arr_slice (P := Try.prog) Try.underlying23 size1 g
        have hss := sl_row hr (w'.heap.size) hr.lt 26 hX26
        have hrow2 : w'.ownsRow w.heap.size 5 1 (.slice A' l' c') (packL bs j).length ((packL bs j).map eB) := World.ownsRow.kept hrow (row := none) ⟨s1.os, s1.tape, s1.output, s1.size, fun k hk _ => s1.block k hk⟩ (by
          cases hvb : (Value.slice A' l' c').ownBlock with
          | none => exact .inl rfl
          | some k => exact .inr (fun e => by cases e))
        have hB2 := below_trans hB s1
        have hsB := hB2.size
        have hpl := Hpl.out
        have hj2 : j ≤ 200000 := by have := Hv.out; omega
        have hm63 : (packL bs j).length + X.length ≤ maxLen := by unfold maxLen; omega
        have hm64 : ((packL bs j).length + X.length) * 1 ≤ 140737488355328 := by omega
        clear hrow hB s1 sX zX oX hpl
        go_wp2_with (
          (refine wpList_append_sl _ rfl _ _ 24 rfl w.heap.size 5 i0 (.int .u8 0) 1 Try.underlying24 hi hz0 hz1 hz2 rfl _ _ _ hrow2 rfl w'.heap.size _ X hss rfl (fun _ => rfl) hm63 hm64 hsB ?_
           intro v' w6 o1 o2 o3))
        have hv := Hv.out
        have hB6 := hB2.trans (below_grown hrow2 o2 hsB (Nat.le_refl _))
        refine ⟨⟨j + 1, by omega, by rw [show ((((j + 1) * 5 : Nat) : Nat) : Int) = (v : Int) + 5 by omega], ?_, hB6⟩, ?_⟩
        · rw [Hnext.out, List.length_append, List.map_append]
          exact o1
        · simp [intOf]
          omega
    · obtain rfl : j = k := by omega
      have hlen := Hl.out
      have dl : decide (((j * 5 : Nat) : Int) < (bs.length : Int)) = false := decide_eq_false (by omega)
      have dl2 : ¬ j * 5 < bs.length := by omega
      clear hlen
      go_wp2_with fail
      go_ret2
      exact ⟨_, rfl, hrow, hB⟩
set_option maxRecDepth 100000 in
theorem RPack_no (A : Option Addr) (l c : Nat) (hbad : l % 5 ≠ 0) (hreach : l ≤ 1000000) (w : World) :
    Calls Try.prog 11 #[.slice A l c] w fun e w' => e = .returned (.tuple #[.slice none 0 0, .int .i64 2]) ∧ Below w.heap.size w w' := by
  have d2 : (((l : Int) % 5) != 0) = true := by
    have : (l : Int) % 5 ≠ 0 := by omega
    simpa using this
  clear hbad
  go_enter Try.func11, Try.ntmps11
  go_wp2_with fail
  go_ret2
  exact ⟨rfl, Below.refl _ _⟩
end Go.Proofs.Ytmppkfiocleicaa
