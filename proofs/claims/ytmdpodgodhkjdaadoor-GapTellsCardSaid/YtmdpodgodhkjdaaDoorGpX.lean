/- GapBack. -/
import Derived.Test.YtmdpodgodhkjdaaDoorGpV
import Derived.Test.YtmdpodgodhkjdaaDoorRoA
import Derived.Test.YtmdpodgodhkjdaaDoorOfA
import Derived.Test.YtmdpodgodhkjdaaDoorSA
namespace Go.Proofs.YtmdpodgodhkjdaaDoor
open Go.RowKit Go.Shelf
attribute [local go_sem] Oper.semAt_some run_store_func

/-- s[p:], whether anything is left of it or not. -/
theorem from_ex {B : Nat} {W : World} {bk off c p : Nat} {s : List UInt8} (h : Sl eB B W (.slice (some ⟨bk, off, none⟩) s.length c) s) (hp : p ≤ s.length) :
    (c = p → Sl eB B W (.slice (some ⟨bk, off, none⟩) (s.length - p) 0) (s.drop p)) ∧ (¬ c = p → Sl eB B W (.slice (some ⟨bk, off + p, none⟩) (s.length - p) (c - p)) (s.drop p)) := by
  refine ⟨fun e => ?_, fun e => h.from_ hp _ (fun _ => by simp [Addr.add])⟩
  have := h.from_ hp (some ⟨bk, off, none⟩) (fun hne => absurd e hne)
  rwa [e, Nat.sub_self] at this
theorem sl_at {B : Nat} {W : World} {v : Value} {x : List UInt8} (h : Sl eB B W v x) (h0 : 0 < x.length) : ∃ b off c, v = .slice (some ⟨b, off, none⟩) x.length c ∧ x.length ≤ c ∧ b < B ∧ ∀ p, p < x.length → W.cell? ⟨b, off + p, none⟩ = some (eB (atB x p)) := by
  obtain ⟨A, c, rfl, hc, hcs⟩ := h
  obtain ⟨b, off, rfl, hb, hcell⟩ := hcs h0
  refine ⟨b, off, c, rfl, hc, hb, fun p hp => hcell p _ ?_⟩
  simp [atB, hp]
set_option maxRecDepth 100000 in
set_option maxHeartbeats 4000000 in
theorem GapBack_main (v0 : Value) (l : List Int) (za : Int) (w : World) (hS : Sl eI w.heap.size w v0 l) (hT : Tab w) (h1 : 2 ≤ l.length) (h2 : l.length ≤ 200) :
    Calls Tryd.prog 4 #[v0, .int .i64 za] w fun e w' => e = .returned (.bool true) ∧ Below w.heap.size w w' := by
  obtain ⟨i0, hi, hz0, hz1, hz2⟩ := info_parts info_u8
  have hw := gwakes_any
  have hrw := row_any v0 l (by omega) w hS
  obtain ⟨A0, c0, rfl⟩ := hS.len
  have hxl := textL_length l
  have hx4 : FourG (textL l) := textL_four l
  obtain ⟨p, hp, hat⟩ := at_is za l.length (by omega) h2
  have d1 : decide ((l.length : Int) < 2) = false := decide_eq_false (by omega)
  have d2 : decide ((200 : Int) < (l.length : Int)) = false := decide_eq_false (by omega)
  have n0 : ¬ (l.length : Int) = 0 := by omega
  generalize textL l = x at *
  rw [← hxl] at h1 h2 hp hat n0
  have hsum := four_sums x h1 (by omega) hx4
  have hof := fun v w => rOf_any v x (by omega) w
  rw [hsum] at hof
  have hy4 := four_del x p hp hx4
  have hyl := delW_length x p hp
  have hgap := fun v w => Gap_yes (delW x p) _ _ x (gap_back x p hp h1 (by omega) hx4) (insOk_all _ _ _) (by omega) v w
  have hmis := fun v w => Missing_yes (delW x p) (sS x x.length % 4) (fits_four _ (by omega) (by omega) hy4) (by omega) v w
  rw [miss_del x p hp hx4] at hmis
  generalize sT x x.length % x.length = T at *
  generalize sS x x.length % 4 = S at *
  generalize sW x x.length % (6 * x.length + 1) = U at *
  have Hp := Lib.hid hp
  have Hl := Lib.hid h2
  have Hy := Lib.hid hyl
  have Hxl := Lib.hid hxl
  have hwp : wrap64 ((p : Int) + 1) = (p : Int) + 1 := wrap64_succ p (by omega)
  clear hx4 hy4 hsum hS hyl hxl
  go_enter Tryd.func4, Tryd.ntmps4
  go_wp2_with fail
  go_at_call 21
  refine hrw.mono ?_
  rintro e w1 ⟨vx, rfl, hx, hB⟩
  have hx := hx.sl
  have hT := hT.below hB
  obtain ⟨b, off, cx, rfl, hcx, hb, hcells⟩ := sl_at hx (by have := Hp.out; omega)
  clear hrw d1 d2
  go_wp2_with fail
  go_cut [6] from 34 to 43 (fun z wx => Sl eB wx.heap.size wx z (delW x p) ∧ Below w1.heap.size w1 wx)
  case first =>
    have hrow' : (w1.alloc (.cells #[] 5)).drew.ownsRow w1.heap.size 5 1 (.slice (some ⟨w1.heap.size, 0, none⟩) 0 0) 0 [] := row_made w1
    have hBr' : Below w1.heap.size w1 (w1.alloc (.cells #[] 5)).drew := below_trans (below_alloc w1 _) (below_drew_w _)
    have q1 : 0 + (x.take p).length ≤ maxLen := by have := Hl.out; unfold maxLen; simp; omega
    have q2 : (0 + (x.take p).length) * 1 ≤ 140737488355328 := by have := Hl.out; simp; omega
    have q3 : 0 + (x.take p).length + (x.drop (p + 1)).length ≤ maxLen := by have := Hl.out; unfold maxLen; simp; omega
    have q4 : (0 + (x.take p).length + (x.drop (p + 1)).length) * 1 ≤ 140737488355328 := by have := Hl.out; simp; omega
    have q5 : w1.heap.size ≤ (w1.alloc (.cells #[] 5)).drew.heap.size := hBr'.size
    have s1 := hx.upto (p := p) (by have := Hp.out; omega)
    have s2 := from_ex (p := p + 1) hx (by have := Hp.out; omega)
    have e1 : IntKind.i64.wrap ((p : Int) + 1) = (p : Int) + 1 := wrap_succ p (by have := Hp.out; have := Hl.out; omega)
    have e2 : ((p : Int) + 1).toNat = p + 1 := by omega
    have l0 : (0 : Int) ≤ (p : Int) + 1 := by omega
    have l1 : (p : Int) ≤ cx := by have := Hp.out; omega
    have l5 : (p : Int) ≤ (p : Int) + 1 := by omega
    have l2 : (p : Int) + 1 ≤ x.length := by have := Hp.out; omega
    clear hx hof hgap hmis hw
    by_cases hcp : cx = p + 1
    · subst hcp
      have s2 := s2.1 rfl
      rw [show x.length - (p + 1) = 0 by omega] at s2
      go_region_law (first
        | (refine step_append_sl _ rfl (.tmp 34) (.tmp 37) _ rfl w1.heap.size 5 i0 (.int .u8 0) 1 Tryd.underlying22 hi hz0 hz1 hz2 rfl _ 0 [] hrow' rfl w1.heap.size _ (x.take p) (s1.below hBr') rfl (fun _ => rfl) q1 q2 q5 ?_
           intro v1 w3 hown1 hg1 hat1
           have hB2 : Below w1.heap.size w1 w3 := hBr'.trans (below_grown hrow' hg1 q5 (Nat.le_refl _)))
        | (refine step_append_sl _ rfl (.tmp 38) (.tmp 42) _ rfl w1.heap.size 5 i0 (.int .u8 0) 1 Tryd.underlying22 hi hz0 hz1 hz2 rfl _ _ _ hown1 rfl w1.heap.size _ (x.drop (p + 1)) (s2.below hB2) rfl (fun _ => rfl) q3 q4 hB2.size ?_
           intro v2 w4 hown2 hg2 hat2))
      all_goals
        go_wp2_with fail
        go_meet
        exact ⟨Sl.of_own (n := 0 + (x.take p).length + (x.drop (p + 1)).length) (by simpa [delW] using hown2), hB2.trans (below_grown hown1 hg2 hB2.size (Nat.le_refl _))⟩
    · have s2 := s2.2 hcp
      go_region_law (first
        | (refine step_append_sl _ rfl (.tmp 34) (.tmp 37) _ rfl w1.heap.size 5 i0 (.int .u8 0) 1 Tryd.underlying22 hi hz0 hz1 hz2 rfl _ 0 [] hrow' rfl w1.heap.size _ (x.take p) (s1.below hBr') rfl (fun _ => rfl) q1 q2 q5 ?_
           intro v1 w3 hown1 hg1 hat1
           have hB2 : Below w1.heap.size w1 w3 := hBr'.trans (below_grown hrow' hg1 q5 (Nat.le_refl _)))
        | (refine step_append_sl _ rfl (.tmp 38) (.tmp 42) _ rfl w1.heap.size 5 i0 (.int .u8 0) 1 Tryd.underlying22 hi hz0 hz1 hz2 rfl _ _ _ hown1 rfl w1.heap.size _ (x.drop (p + 1)) (s2.below hB2) rfl (fun _ => rfl) q3 q4 hB2.size ?_
           intro v2 w4 hown2 hg2 hat2))
      all_goals
        go_wp2_with fail
        go_meet
        exact ⟨Sl.of_own (n := 0 + (x.take p).length + (x.drop (p + 1)).length) (by simpa [delW] using hown2), hB2.trans (below_grown hown1 hg2 hB2.size (Nat.le_refl _))⟩
  case rest =>
    obtain ⟨hy, hC⟩ := hcut
    have hx := hx.next hC
    have hT := hT.below hC
    have hB := below_trans hB hC
    have hcell := (hC.cell (p := ⟨b, off + p, none⟩) hb).trans (hcells p Hp.out)
    have hb := Nat.lt_of_lt_of_le hb hC.size
    obtain ⟨Ay, cy, rfl⟩ := hy.len
    have hcl : (v3 T S U).cells = c3 T S U := rfl
    clear hcells hC
    go_wp2_with fail
    go_at_call 22
    refine (hof _ _ hx).mono ?_
    rintro e w2 ⟨hC, ⟨a2, b2, c2, h, rfl⟩ | ⟨m, h, rfl⟩⟩
    · cases h
      have hx := hx.next hC
      have hy := hy.next hC
      have hT := hT.below hC
      have hB := below_trans hB hC
      have hcell := (hC.cell (p := ⟨b, off + p, none⟩) hb).trans hcell
      have hb := Nat.lt_of_lt_of_le hb hC.size
      clear hof hC
      go_wp2_with fail
      go_at_call 18
      have hA := below_alloc w2 (.cells (c3 T S U) 36)
      have hr := Rowed.new w2 36 (c3 T S U)
      refine (hgap _ _ (hT.below hA) (hy.next hA)).mono ?_
      rintro e w3 ⟨vz, rfl, hz, hC⟩
      have hr3 := hr.below hC hr.lt
      have hC := below_trans hA hC
      have hx := hx.next hC
      have hy := hy.next hC
      have hT := hT.below hC
      have hB := below_trans hB hC
      have hcell := (hC.cell (p := ⟨b, off + p, none⟩) hb).trans hcell
      have hb := Nat.lt_of_lt_of_le hb hC.size
      have k1 := hr3.cell 1
      obtain ⟨Az, cz, rfl⟩ := hz.len
      clear hgap hA hC hr hr3
      go_wp2_with fail
      go_at_call 14
      refine (hmis _ _ hT hy).mono ?_
      rintro e w4 ⟨rfl, hC⟩
      have hx := hx.next hC
      have hz := hz.next hC
      have hT := hT.below hC
      have hB := below_trans hB hC
      have hcell := (hC.cell (p := ⟨b, off + p, none⟩) hb).trans hcell
      clear hmis hC k1 hy hb
      go_wp2_with fail
      go_at_call 20
      refine (same_eq _ _ _ _ _ hz hx).mono ?_
      rintro e w' ⟨rfl, rfl⟩
      have hpi : (p : Int) < (x.length : Int) := by have := Hp.out; omega
      generalize atB x p = cc at *
      go_wp2_with fail
      go_at_call 13
      refine (hw _ hT).mono ?_
      rintro e w5 ⟨rfl, hC⟩
      go_wp2_with fail
      go_ret
      exact ⟨rfl, below_trans hB hC⟩
    · cases h
set_option maxRecDepth 100000 in
set_option maxHeartbeats 1000000 in
theorem GapBack_any (v0 : Value) (l : List Int) (za : Int) (w : World) (hS : Sl eI w.heap.size w v0 l) (hT : Tab w) :
    Calls Tryd.prog 4 #[v0, .int .i64 za] w fun e w' => e = .returned (.bool true) ∧ Below w.heap.size w w' := by
  by_cases h : 2 ≤ l.length ∧ l.length ≤ 200
  · exact GapBack_main v0 l za w hS hT h.1 h.2
  · have hw := gwakes_any
    have hd : decide ((l.length : Int) < 2) = true ∨ (decide ((l.length : Int) < 2) = false ∧ decide ((200 : Int) < (l.length : Int)) = true) := by
      by_cases h1 : l.length < 2
      · exact .inl (decide_eq_true (by omega))
      · exact .inr ⟨decide_eq_false (by omega), decide_eq_true (by omega)⟩
    obtain ⟨A0, c0, rfl⟩ := hS.len
    clear h hS
    rcases hd with d1 | ⟨d1, d2⟩
    all_goals
      go_enter Tryd.func4, Tryd.ntmps4
      go_wp2_with fail
      go_at_call 13
      refine (hw _ hT).mono ?_
      rintro e w' ⟨rfl, hB⟩
      go_wp2_with fail
      go_ret
      exact ⟨rfl, hB⟩
end Go.Proofs.YtmdpodgodhkjdaaDoor
