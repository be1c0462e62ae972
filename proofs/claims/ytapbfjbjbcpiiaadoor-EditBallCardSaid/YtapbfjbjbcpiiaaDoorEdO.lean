/- EditPrefix. -/
import Derived.Test.YtapbfjbjbcpiiaaDoorEdN
import Derived.Test.YtapbfjbjbcpiiaaDoorAG
namespace Go.Proofs.YtapbfjbjbcpiiaaDoor
open Go.RowKit Go.Shelf
attribute [local go_sem] Oper.semAt_some

/-- The least distance of the first beginnings. -/
def leastP (a b : List UInt8) : Nat → Nat
  | 0 => a.length
  | k + 1 => min (leastP a b k) (dist a (b.take k))
theorem leastP_le (a b : List UInt8) (k : Nat) : leastP a b k ≤ a.length := by
  induction k with
  | zero => exact Nat.le_refl _
  | succ k ih => exact Nat.le_trans (Nat.min_le_left _ _) ih
theorem leastP_low (a b : List UInt8) (k j : Nat) (h : j < k) : leastP a b k ≤ dist a (b.take j) := by
  induction k with
  | zero => omega
  | succ k ih =>
    rcases Nat.lt_or_ge j k with h1 | h1
    · exact Nat.le_trans (Nat.min_le_left _ _) (ih h1)
    · obtain rfl : j = k := by omega
      exact Nat.min_le_right _ _
theorem leastP_of (a b : List UInt8) (n : Nat) (h : ∀ j, j ≤ b.length → n ≤ dist a (b.take j)) : ∀ k, k ≤ b.length + 1 → n ≤ a.length → n ≤ leastP a b k := by
  intro k
  induction k with
  | zero => intro _ h2; exact h2
  | succ k ih => intro h1 h2; exact Nat.le_min.2 ⟨ih (by omega) h2, h k (by omega)⟩
theorem dist_nil (a : List UInt8) : dist a [] = a.length := lev_left _ _
theorem pre_least (a b : List UInt8) (n : Nat) (h : IsPre a b n) : leastP a b (b.length + 1) = n := by
  have h0 := h.2 0 (by omega)
  rw [List.take_zero, dist_nil] at h0
  have h1 := leastP_of a b n h.2 (b.length + 1) (Nat.le_refl _) h0
  obtain ⟨j, hj, h2⟩ := h.1
  have h3 := leastP_low a b (b.length + 1) j (by omega)
  omega
theorem pre_more (a b c : List UInt8) (n m : Nat) (h : IsPre a b n) (h2 : IsPre a (b ++ c) m) : m ≤ n := by
  obtain ⟨j, hj, h1⟩ := h.1
  have := h2.2 j (by rw [List.length_append]; omega)
  rw [List.take_append_of_le_length hj] at this
  omega
theorem pre_own (a c : List UInt8) (m : Nat) (h2 : IsPre a (a ++ c) m) : m = 0 := by
  have := h2.2 a.length (by rw [List.length_append]; omega)
  rw [List.take_append_of_le_length (Nat.le_refl _), List.take_length, dist_self] at this
  omega
theorem least_step (a b : List UInt8) (k : Nat) : min (leastP a b k : Int) (dist a (b.take k) : Nat) = (leastP a b (k + 1) : Nat) := by
  show _ = ((min (leastP a b k) (dist a (b.take k)) : Nat) : Int)
  omega
set_option maxRecDepth 100000 in
set_option maxHeartbeats 4000000 in
theorem EditPrefix_any (v0 v1 v2 : Value) (a b c : List UInt8) (w : World) (hP : Sl eB w.heap.size w v0 a) (hQ : Sl eB w.heap.size w v1 b) (hR : Sl eB w.heap.size w v2 c) (hT : TabE w) :
    Calls Tryd.prog 7 #[v0, v1, v2] w fun e w' => e = .returned (.bool true) ∧ Below w.heap.size w w' := by
  obtain ⟨A0, c0, rfl⟩ := hP.len
  obtain ⟨A1, c1, rfl, hc1, -⟩ := id hQ
  obtain ⟨A2, c2, rfl⟩ := hR.len
  obtain ⟨i0, hi, hz0, hz1, hz2⟩ := info_parts info_u8
  by_cases hbig : 100 < a.length ∨ 100 < b.length ∨ 100 < c.length
  · have hw := wakes_any w hT
    clear hP hQ hR hT
    by_cases k0 : 100 < a.length
    · have d0 : decide ((100 : Int) < (a.length : Int)) = true := by simp; omega
      clear hbig
      go_enter Tryd.func7, Tryd.ntmps7
      go_wp2_with (go_at_call 15; refine hw.mono ?_; rintro e w' ⟨rfl, hB⟩)
      go_ret
      exact ⟨rfl, hB⟩
    · have d0 : decide ((100 : Int) < (a.length : Int)) = false := by simp; omega
      by_cases k1 : 100 < b.length
      · have d1 : decide ((100 : Int) < (b.length : Int)) = true := by simp; omega
        clear hbig
        go_enter Tryd.func7, Tryd.ntmps7
        go_wp2_with (go_at_call 15; refine hw.mono ?_; rintro e w' ⟨rfl, hB⟩)
        go_ret
        exact ⟨rfl, hB⟩
      · have d1 : decide ((100 : Int) < (b.length : Int)) = false := by simp; omega
        have k2 : 100 < c.length := by omega
        have d2 : decide ((100 : Int) < (c.length : Int)) = true := by simp; omega
        clear hbig
        go_enter Tryd.func7, Tryd.ntmps7
        go_wp2_with (go_at_call 15; refine hw.mono ?_; rintro e w' ⟨rfl, hB⟩)
        go_ret
        exact ⟨rfl, hB⟩
  · have k0 : ¬ 100 < a.length := by omega
    have k1 : ¬ 100 < b.length := by omega
    have k2 : ¬ 100 < c.length := by omega
    have d0 : decide ((100 : Int) < (a.length : Int)) = false := by simp; omega
    have d1 : decide ((100 : Int) < (b.length : Int)) = false := by simp; omega
    have d2 : decide ((100 : Int) < (c.length : Int)) = false := by simp; omega
    have fp := fun w h1 h2 => Prefix_any (.slice A0 a.length c0) (.slice A1 b.length c1) a b w h1 h2
    have fq := fun v w h1 h2 => Prefix_any (.slice A0 a.length c0) v a (b ++ c) w h1 h2
    have fr := fun v w h1 h2 => Prefix_any (.slice A0 a.length c0) v a (a ++ c) w h1 h2
    have fd := fun v k w h1 h2 => Distance_any (.slice A0 a.length c0) v a (b.take k) w h1 h2
    have cA : cut a = a := cut_same a (by omega)
    rw [cA, cut_same b (by omega)] at fp
    rw [cA, cut_same (b ++ c) (by rw [List.length_append]; omega)] at fq
    rw [cA, cut_same (a ++ c) (by rw [List.length_append]; omega)] at fr
    have cT : ∀ k, cut (b.take k) = b.take k := fun k => cut_same _ (by rw [List.length_take]; omega)
    simp only [cA, cT] at fd
    clear cA cT hbig
    have H0 := Lib.hid k0
    have H1 := Lib.hid k1
    have H2 := Lib.hid k2
    clear hc1
    have hc1 : b.length ≤ c1 := by obtain ⟨A, c, he, hc, -⟩ := id hQ; cases he; exact hc
    go_enter Tryd.func7, Tryd.ntmps7
    go_wp2_with fail
    go_at_call 22
    refine (fp _ hP hQ).mono ?_
    rintro e w1 ⟨n, rfl, hn, hC⟩
    have hP := hP.next hC
    have hQ := hQ.next hC
    have hR := hR.next hC
    have hT := hT.below hC
    have hB0 := hC
    clear hC fp k0 k1 k2 d0 d1 d2
    go_wp2_with fail
    go_loopw [8, 9] (fun m i wr => ∃ k : Nat, k ≤ b.length + 1 ∧ i = .int .i64 k ∧ m = .int .i64 (leastP a b k : Nat) ∧ Below w1.heap.size w1 wr) (fun _ i _ => b.length + 1 - (intOf i).toNat)
    case atStart => exact ⟨0, Nat.zero_le _, rfl, rfl, Below.refl _ _⟩
    case round =>
      obtain ⟨k, hk, rfl, rfl, hB⟩ := hrel
      have hPr := (hP.below hB).more hB.size
      have hQr := (hQ.below hB).more hB.size
      by_cases hlt : k ≤ b.length
      · have hQk := hQr.upto hlt
        have hkc : k ≤ c1 := by omega
        have d3 : (k : Int) ≤ (b.length : Int) := by omega
        have hs := least_step a b k
        have Hk := Lib.hid hlt
        have h9 : k ≤ 100 := by have := H1.out; omega
        clear hk hQr hP hQ hR hT
        go_wp2_with fail
        go_at_call 16
        refine (fd _ k _ hPr hQk).mono ?_
        rintro e w2 ⟨rfl, hC⟩
        have hBn := below_trans hB hC
        clear hC hPr hQk hB
        go_wp2_with (first
          | (refine wpList_min_v rfl (.tmp 35) (.tmp 40) _ rfl _ _ rfl rfl _ hs ?_))
        go_roundw
        case rel => exact ⟨k + 1, by have := Hk.out; omega, by go_num, rfl, hBn⟩
        case measure => have := Hk.out; simp [intOf]; omega
      · obtain rfl : k = b.length + 1 := by omega
        have d3 : ¬ ((b.length + 1 : Nat) : Int) ≤ (b.length : Int) := by omega
        have d4 : ¬ b.length + 1 ≤ b.length := by omega
        have hle := pre_least a b n hn
        have Hn := Lib.hid hn
        have hTr := hT.below hB
        have hRr := (hR.below hB).more hB.size
        have hBn := below_trans hB0 hB
        rw [hle]
        clear hk hlt hP hQ hR hT hle hn hB hB0
        have hrow := row_made wr
        have hA1 := below_alloc wr (.cells #[] 5)
        go_wp2_with (first
          | (at_builtin
             refine wpList_append_slg _ rfl (.tmp 47) (.tmp 48) _ rfl wr.heap.size 5 i0 (.int .u8 0) 1 Tryd.underlying25 hi hz0 hz1 hz2 rfl _ 0 [] hrow rfl wr.heap.size _ b (hQr.below hA1) rfl (fun _ => rfl) (by have := H1.out; unfold maxLen; omega) (by have := H1.out; omega) (by simp) ?_
             intro v1' w8 hown1 hg1 hat1
             have hA2 : Below wr.heap.size wr w8 := hA1.trans (below_grown hrow hg1 (by simp) (Nat.le_refl _)))
          | (at_builtin
             refine wpList_append_slg _ rfl (.tmp 49) (.tmp 50) _ rfl wr.heap.size 5 i0 (.int .u8 0) 1 Tryd.underlying25 hi hz0 hz1 hz2 rfl _ _ _ hown1 rfl wr.heap.size _ c (hRr.below hA2) rfl (fun _ => rfl) (by have := H1.out; have := H2.out; unfold maxLen; omega) (by have := H1.out; have := H2.out; omega) hA2.size ?_
             intro v2' w9 hown2 hg2 hat2))
        have hA3 := hA2.trans (below_grown hown1 hg2 hA2.size (Nat.le_refl _))
        have hcat : Sl eB w9.heap.size w9 v2' (b ++ c) := Sl.of_own (n := b.length + c.length) (by simpa using hown2)
        have hPr := hPr.next hA3
        have hRr := hRr.next hA3
        have hTr := hTr.below hA3
        have hBn := below_trans hBn hA3
        clear hown1 hown2 hg1 hg2 hat1 hat2 hA1 hA2 hA3 hrow hQr
        go_at_call 22
        refine (fq _ _ hPr hcat).mono ?_
        rintro e w10 ⟨n2, rfl, hn2, hC⟩
        have hm := pre_more a b c n n2 Hn.out hn2
        have hm2 : (n2 : Int) ≤ (n : Int) := by omega
        have hPr := hPr.next hC
        have hRr := hRr.next hC
        have hTr := hTr.below hC
        have hBn := below_trans hBn hC
        clear hcat hC hn2 fq
        have hrow := row_made w10
        have hA1 := below_alloc w10 (.cells #[] 5)
        go_wp2_with (first
          | (at_builtin
             refine wpList_append_slg _ rfl (.tmp 58) (.tmp 59) _ rfl w10.heap.size 5 i0 (.int .u8 0) 1 Tryd.underlying25 hi hz0 hz1 hz2 rfl _ 0 [] hrow rfl w10.heap.size _ a (hPr.below hA1) rfl (fun _ => rfl) (by have := H0.out; unfold maxLen; omega) (by have := H0.out; omega) (by simp) ?_
             intro v1' w11 hown1 hg1 hat1
             have hA2 : Below w10.heap.size w10 w11 := hA1.trans (below_grown hrow hg1 (by simp) (Nat.le_refl _)))
          | (at_builtin
             refine wpList_append_slg _ rfl (.tmp 60) (.tmp 61) _ rfl w10.heap.size 5 i0 (.int .u8 0) 1 Tryd.underlying25 hi hz0 hz1 hz2 rfl _ _ _ hown1 rfl w10.heap.size _ c (hRr.below hA2) rfl (fun _ => rfl) (by have := H0.out; have := H2.out; unfold maxLen; omega) (by have := H0.out; have := H2.out; omega) hA2.size ?_
             intro v2' w12 hown2 hg2 hat2))
        have hA3 := hA2.trans (below_grown hown1 hg2 hA2.size (Nat.le_refl _))
        have hcat : Sl eB w12.heap.size w12 v2' (a ++ c) := Sl.of_own (n := a.length + c.length) (by simpa using hown2)
        have hPr := hPr.next hA3
        have hTr := hTr.below hA3
        have hBn := below_trans hBn hA3
        clear hown1 hown2 hg1 hg2 hat1 hat2 hA1 hA2 hA3 hrow hRr
        go_at_call 22
        refine (fr _ _ hPr hcat).mono ?_
        rintro e w13 ⟨n3, rfl, hn3, hC⟩
        obtain rfl := pre_own a c n3 hn3
        have hTr := hTr.below hC
        have hBn := below_trans hBn hC
        clear hcat hC hn3 fr hPr
        go_wp2_with fail
        go_at_call 15
        refine (wakes_any _ hTr).mono ?_
        rintro e w14 ⟨rfl, hC⟩
        have hBn := below_trans hBn hC
        go_wp2_with fail
        go_ret
        exact ⟨rfl, hBn⟩
end Go.Proofs.YtapbfjbjbcpiiaaDoor
