/- Contracts of helixref27.Column, Of. (Seat s27.) -/
import Derived.Test.YtfkjheilcbppcaaCoY
import Derived.Test.YtfkjheilcbppcaaCoS
namespace Go.Proofs.Ytfkjheilcbppcaa
open Go.RowKit Go.Shelf
attribute [local go_sem] Oper.semAt_some run_store_func

theorem i64_conv8 (c : Nat) (h : c < 256) : IntKind.u8.wrap (c : Int) = c := by
  have : IntKind.u8.wrap (c : Int) = (c : Int) % 256 := rfl
  rw [this]; omega
set_option maxRecDepth 100000 in
set_option maxHeartbeats 4000000 in
/-- The column's loops, where there is one. -/
theorem RCol_in (v0 : Value) (rows : List RowC) (i : Nat) (hr : rows.length ≤ 100) (hl8 : ∀ p ∈ rows, p.bs.length ≤ 200) (hok : 0 < (lenG (bsL rows)).2) (hi : i < (lenG (bsL rows)).1) (w : World) (h0 : RowsIn w v0 rows) :
    Calls Try.prog 13 #[v0, .int .i64 i] w fun e w' => e = .returned (.tuple #[.int .u8 (colG (bsL rows) i).1, .int .i64 (colG (bsL rows) i).2, .bool true]) ∧ Below w.heap.size w w' := by
  have hL := RLen_any v0 rows hr hl8 w h0
  rw [decide_eq_true hok] at hL
  obtain ⟨A, c, rfl, hA⟩ := h0.some
  have hat := fun b off (e : A = some ⟨b, off, none⟩) k hk => RowsIn.at (e ▸ h0) k hk
  have hbl := bsL_count rows
  have hn2 : (lenG (bsL rows)).1 ≤ 200 := by
    have hne : bsL rows ≠ [] := by intro h; rw [h] at hok; exact absurd hok (by decide)
    obtain ⟨p1, p2⟩ := lenG_is (bsL rows) hne
    obtain ⟨r, hr, hl⟩ := cntL_pos.1 (show 0 < cntL (bsL rows) (lenG (bsL rows)).1 by omega)
    obtain ⟨p, hp, rfl⟩ := List.mem_map.1 hr
    have := hl8 p hp
    omega
  have HG := Lib.hid (show colF (bsL rows) (lenG (bsL rows)).1 i 256 = colG (bsL rows) i from rfl)
  have HC := Lib.hid (show ∀ n c k (hk : k < rows.length), cntC ((bsL rows).take (k + 1)) n i c = cntC ((bsL rows).take k) n i c + if rows[k].bs.length = n ∧ ((rows[k].bs[i]?).getD 0).toNat = c then 1 else 0 from fun n c k hk => by
    have h := cntC_take (bsL rows) n i c k (by omega)
    rw [bsL_get] at h
    exact h)
  have HT := Lib.hid (show (bsL rows).take rows.length = bsL rows from by rw [← hbl, List.take_length])
  have HF := Lib.hid (show ∀ n k, k ≤ 256 → (colF (bsL rows) n i k).1 ≤ 255 ∧ (colF (bsL rows) n i k).2 ≤ 100 from fun n k hk => by
    have h := colF_le (bsL rows) n i k hk
    omega)
  have HN := Lib.hid hr
  generalize (lenG (bsL rows)).1 = n at *
  clear h0 hbl hr hl8 hok
  go_enter Try.func13, Try.ntmps13
  go_wp2_with fail
  go_at_call 11
  refine hL.mono ?_
  rintro e w1 ⟨rfl, hB1⟩
  have d1 : decide ((i : Int) < 0) = false := decide_eq_false (by omega)
  have d2 : decide ((n : Int) ≤ (i : Int)) = false := decide_eq_false (by omega)
  clear hL
  go_wp2_with fail
  clear d1 d2
  go_loopw [9, 10, 11] (fun b m t wr => ∃ k : Nat, k ≤ 256 ∧ t = .int .i64 k ∧ b = .int .u8 ((colF (bsL rows) n i k).1 : Nat) ∧ m = .int .i64 ((colF (bsL rows) n i k).2 : Nat) ∧ Below w.heap.size w wr) (fun _ _ t _ => 256 - (intOf t).toNat)
  case atStart => exact ⟨0, Nat.zero_le _, rfl, rfl, rfl, hB1⟩
  case round =>
    obtain ⟨k, hk, rfl, rfl, rfl, hB⟩ := hrel
    by_cases hlt : k < 256
    · have hkl : (k : Int) < 256 := by omega
      have hcv := i64_conv8 k hlt
      have hst := colF_succ (bsL rows) n i k
      obtain ⟨hf1, hf2⟩ := HF.out n k hk
      have Hk := Lib.hid hlt
      generalize colF (bsL rows) n i k = S at *
      clear hlt
      have Hst := Lib.hid hst
      clear hst
      go_wp2_with fail
      go_loopw [12, 13] (fun q t wx => ∃ j : Nat, j ≤ rows.length ∧ t = .int .i64 j ∧ q = .int .i64 (cntC ((bsL rows).take j) n i k : Nat) ∧ Below w.heap.size w wx) (fun _ t _ => rows.length - (intOf t).toNat)
      case atStart => exact ⟨0, Nat.zero_le _, rfl, rfl, hB⟩
      case round =>
        obtain ⟨j, hj, rfl, rfl, hBx⟩ := hrel
        by_cases hlt2 : j < rows.length
        · obtain ⟨b, off, rfl, hb⟩ := hA (by omega)
          obtain ⟨hrow, hsl⟩ := hat b off rfl j hlt2
          have hrj := (hBx.cell (p := ⟨b, off + j, none⟩) hb).trans hrow
          have hst2 := HC.out n k j hlt2
          have hjl : (j : Int) < rows.length := by omega
          have hcb := cntC_all (bsL rows) n i k j
          have Hj := Lib.hid hlt2
          have hj9 : j ≤ 100 := by have := HN.out; omega
          generalize rows[j] = R2 at *
          clear hlt2 hat hrow hA
          by_cases he : R2.bs.length = n
          · have hib : i < R2.bs.length := by omega
            obtain ⟨A2, c2, e2, -, hcs⟩ := hsl
            obtain ⟨b2, o2, rfl, hb2, hc2⟩ := hcs (by omega)
            injection e2 with e3 e4 e5
            rw [e3] at hrj
            have x1 := (hBx.cell (p := ⟨b2, o2 + i, none⟩) hb2).trans (hc2 i R2.bs[i] (List.getElem?_eq_getElem hib))
            rw [List.getElem?_eq_getElem hib, Option.getD_some] at hst2
            have hq : (((R2.bs.length : Nat) : Int) == (n : Int)) = true := by rw [he]; simp
            have hiI : (i : Int) < ((R2.bs.length : Nat) : Int) := by omega
            clear hcs hc2 e3 e4 e5
            generalize R2.bs[i] = x at *
            by_cases hx : x.toNat = k
            · rw [if_pos ⟨he, hx⟩] at hst2
              have hq2 : ((x.toNat : Int) == (k : Int)) = true := by rw [hx]; simp
              have Hd := Lib.hid hst2
              clear he hst2 hib hx
              generalize cntC ((bsL rows).take j) n i k = cc at *
              go_wp2_with fail
              try go_quiet (fail)
              try go_wp2_with fail
              go_roundw
              case rel => exact ⟨j + 1, Hj.out, by go_num, by rw [Hd.out]; go_num, hBx.trans ⟨rfl, rfl, rfl, Nat.le_refl _, fun _ _ => rfl⟩⟩
              case measure => have := Hj.out; simp [intOf]; omega
            · rw [if_neg (fun h => hx h.2), Nat.add_zero] at hst2
              have hq2 : ((x.toNat : Int) == (k : Int)) = false := by rw [beq_eq_false_iff_ne]; omega
              have Hd := Lib.hid hst2
              clear he hst2 hib hx
              generalize cntC ((bsL rows).take j) n i k = cc at *
              go_wp2_with fail
              try go_quiet (fail)
              try go_wp2_with fail
              go_roundw
              case rel => exact ⟨j + 1, Hj.out, by go_num, by rw [Hd.out] <;> try rfl, hBx.trans ⟨rfl, rfl, rfl, Nat.le_refl _, fun _ _ => rfl⟩⟩
              case measure => have := Hj.out; simp [intOf]; omega
          · rw [if_neg (fun h => he h.1), Nat.add_zero] at hst2
            have hq : (((R2.bs.length : Nat) : Int) == (n : Int)) = false := by rw [beq_eq_false_iff_ne]; omega
            have Hd := Lib.hid hst2
            clear he hst2 hsl
            generalize cntC ((bsL rows).take j) n i k = cc at *
            go_wp2_with fail
            try go_quiet (fail)
            try go_wp2_with fail
            go_roundw
            case rel => exact ⟨j + 1, Hj.out, by go_num, by rw [Hd.out] <;> try rfl, hBx.trans ⟨rfl, rfl, rfl, Nat.le_refl _, fun _ _ => rfl⟩⟩
            case measure => have := Hj.out; simp [intOf]; omega
        · obtain rfl : j = rows.length := by omega
          have hcb := cntC_all (bsL rows) n i k rows.length
          rw [HT.out] at hcb ⊢
          have hc9 : cntC (bsL rows) n i k ≤ 100 := by have := HN.out; omega
          generalize cntC (bsL rows) n i k = C at *
          clear hcb hat hA
          by_cases h1 : S.2 < C
          · have Hd := Lib.hid (show colF (bsL rows) n i (k + 1) = (k, C) from by rw [Hst.out, if_pos h1])
            have h1' : (S.2 : Int) < (C : Int) := by omega
            clear h1 Hst
            go_wp2_with fail
            go_roundw
            case rel => exact ⟨k + 1, Hk.out, by go_num, by rw [Hd.out], by rw [Hd.out], hBx⟩
            case measure => have := Hk.out; simp [intOf]; omega
          · have Hd := Lib.hid (show colF (bsL rows) n i (k + 1) = S from by rw [Hst.out, if_neg h1])
            have h1' : ¬ (S.2 : Int) < (C : Int) := by omega
            clear h1 Hst
            go_wp2_with fail
            go_roundw
            case rel => exact ⟨k + 1, Hk.out, by go_num, by rw [Hd.out], by rw [Hd.out], hBx⟩
            case measure => have := Hk.out; simp [intOf]; omega
    · obtain rfl : k = 256 := by omega
      rw [HG.out]
      go_wp2_with fail
      go_ret3
      exact ⟨rfl, hB⟩
set_option maxHeartbeats 1000000 in
theorem RCol_any (v0 : Value) (rows : List RowC) (i : Int) (hr : rows.length ≤ 100) (hl8 : ∀ p ∈ rows, p.bs.length ≤ 200) (w : World) (h0 : RowsIn w v0 rows) :
    Calls Try.prog 13 #[v0, .int .i64 i] w fun e w' => e = .returned (if 0 < (lenG (bsL rows)).2 ∧ 0 ≤ i ∧ i < (lenG (bsL rows)).1 then .tuple #[.int .u8 (colG (bsL rows) i.toNat).1, .int .i64 (colG (bsL rows) i.toNat).2, .bool true] else .tuple #[.int .u8 0, .int .i64 0, .bool false]) ∧ Below w.heap.size w w' := by
  have hL := RLen_any v0 rows hr hl8 w h0
  by_cases hok : 0 < (lenG (bsL rows)).2
  · rw [decide_eq_true hok] at hL
    by_cases hi0 : i < 0
    · rw [if_neg (by omega)]
      go_enter Try.func13, Try.ntmps13
      go_wp2_with fail
      go_at_call 11
      refine hL.mono ?_
      rintro e w1 ⟨rfl, hB⟩
      have d1 := decide_eq_true hi0
      clear hL
      go_wp2_with fail
      go_ret3
      exact ⟨rfl, hB⟩
    · by_cases hi1 : i < (lenG (bsL rows)).1
      · rw [if_pos (by omega)]
        obtain ⟨k, rfl⟩ : ∃ k : Nat, i = k := ⟨i.toNat, by omega⟩
        have h := RCol_in v0 rows k hr hl8 hok (by omega) w h0
        have hkn : (k : Int).toNat = k := by omega
        rw [hkn]
        exact h
      · rw [if_neg (by omega)]
        generalize (lenG (bsL rows)).1 = n at *
        go_enter Try.func13, Try.ntmps13
        go_wp2_with fail
        go_at_call 11
        refine hL.mono ?_
        rintro e w1 ⟨rfl, hB⟩
        have d1 := decide_eq_false (show ¬ i < 0 by omega)
        have d2 : decide ((n : Int) ≤ i) = true := decide_eq_true (by omega)
        clear hL
        go_wp2_with fail
        go_ret3
        exact ⟨rfl, hB⟩
  · rw [decide_eq_false hok] at hL
    rw [if_neg (by omega)]
    go_enter Try.func13, Try.ntmps13
    go_wp2_with fail
    go_at_call 11
    refine hL.mono ?_
    rintro e w1 ⟨rfl, hB⟩
    clear hL
    go_wp2_with fail
    go_ret3
    exact ⟨rfl, hB⟩
set_option maxRecDepth 100000 in
set_option maxHeartbeats 4000000 in
theorem ROf_any (v0 : Value) (rows : List RowC) (hr : rows.length ≤ 100) (hl8 : ∀ p ∈ rows, p.bs.length ≤ 200) (w : World) (h0 : RowsIn w v0 rows) :
    Calls Try.prog 15 #[v0] w fun e w' => Below w.heap.size w w' ∧ ∃ v, e = .returned (.tuple #[v, .bool (decide (rows ≠ []))]) ∧ Sl eB w'.heap.size w' v (ofG (bsL rows)) := by
  have hL := RLen_any v0 rows hr hl8 w h0
  obtain ⟨i0, hi, hz0, hz1, hz2⟩ := info_parts info_u8
  have hdd : decide (0 < (lenG (bsL rows)).2) = decide (rows ≠ []) := by
    refine decide_eq_decide.2 ⟨fun h e => ?_, fun h => ?_⟩
    · subst e; exact absurd h (by decide)
    · exact (lenG_is (bsL rows) (fun e => h ((bsL_nil rows).1 e))).1
  rw [hdd] at hL
  have HC := Lib.hid (show ∀ (k : Nat) w', k < (lenG (bsL rows)).1 → RowsIn w' v0 rows → Calls Try.prog 13 #[v0, .int .i64 k] w' fun e w'' => e = .returned (.tuple #[.int .u8 (colG (bsL rows) k).1, .int .i64 (colG (bsL rows) k).2, .bool true]) ∧ Below w'.heap.size w' w'' from fun k w' hk h => RCol_in v0 rows k hr hl8 (by
      by_cases hne : bsL rows = []
      · rw [hne] at hk; exact absurd hk (by rw [lenG_nil]; exact Nat.not_lt_zero _)
      · exact (lenG_is _ hne).1) hk w' h)
  have HO := Lib.hid (ofG_take (bsL rows))
  have HB := Lib.hid (show ∀ k, k < (lenG (bsL rows)).1 → (colG (bsL rows) k).1 = (UInt8.ofNat (colG (bsL rows) k).1).toNat from fun k hk => by
    by_cases hne : bsL rows = []
    · rw [hne] at hk; exact absurd hk (by rw [lenG_nil]; exact Nat.not_lt_zero _)
    · exact (ofG_at _ hne k hk).2.symm)
  have HE := Lib.hid (show (ofG (bsL rows)).take (lenG (bsL rows)).1 = ofG (bsL rows) from by rw [← ofG_length, List.take_length])
  have hlo : ∀ k, k ≤ (lenG (bsL rows)).1 → ((ofG (bsL rows)).take k).length = k := fun k hk => by rw [List.length_take, ofG_length]; omega
  have HLO := Lib.hid hlo
  have hn2 : (lenG (bsL rows)).1 ≤ 200 := by
    by_cases hne : bsL rows = []
    · rw [hne, lenG_nil]; exact Nat.zero_le _
    · obtain ⟨p1, p2⟩ := lenG_is (bsL rows) hne
      obtain ⟨r, hr, hl⟩ := cntL_pos.1 (show 0 < cntL (bsL rows) (lenG (bsL rows)).1 by omega)
      obtain ⟨p, hp, rfl⟩ := List.mem_map.1 hr
      have := hl8 p hp
      omega
  have HN := Lib.hid hn2
  generalize ofG (bsL rows) = Y at *
  generalize (lenG (bsL rows)).1 = n at *
  generalize decide (rows ≠ []) = bb at *
  clear hdd hlo hr hl8 hn2
  go_enter Try.func15, Try.ntmps15
  go_wp2_with fail
  go_at_call 11
  refine hL.mono ?_
  rintro e w1 ⟨rfl, hB1⟩
  have H0 := Lib.hid h0
  clear hL h0
  go_wp2_with fail
  go_loopw [6, 7] (fun t q wr => ∃ k : Nat, k ≤ n ∧ q = .int .i64 k ∧ wr.ownsRow w.heap.size 5 1 t k ((Y.take k).map eB) ∧ Below w.heap.size w wr) (fun _ q _ => n - (intOf q).toNat)
  case atStart => exact ⟨0, Nat.zero_le _, rfl, World.ownsRow_nil _ _ _ _, hB1⟩
  case round =>
    obtain ⟨k, hk, rfl, hrow, hB⟩ := hrel
    by_cases hlt : k < n
    · have hkl : (k : Int) < n := by omega
      have hcall := HC.out k wr hlt (H0.out.next hB)
      have Hst := Lib.hid (HO.out k hlt)
      have hb8 := HB.out k hlt
      have Hk := Lib.hid hlt
      have hk9 : k ≤ 200 := by have := HN.out; omega
      generalize UInt8.ofNat (colG (bsL rows) k).1 = x at *
      rw [hb8] at hcall
      generalize (colG (bsL rows) k).2 = q2 at *
      clear hlt hb8
      go_wp2_with fail
      go_at_call 13
      refine hcall.mono ?_
      rintro e w2 ⟨rfl, hB2⟩
      have hBw : Below w.heap.size w w2 := below_trans hB hB2
      have hrow := ownsRow_below hrow hB2
      clear hcall hB2 hB
      go_wp2_with (at_builtin; refine wpList_append_own _ rfl _ _ 23 rfl w.heap.size 5 i0 _ 1 1 Try.underlying23 hi hz0 hz1 hz2 (by decide) (by decide) _ _ _ rfl (hrow.alloc _) ⟨w2.heap.size, 0, none⟩ 1 1 [eB x] rfl rfl (cell_one_new _ _ _) (by simp [Value.oneCell']) (by unfold maxLen; omega) (by omega) (by have := hBw.size; simp; omega) ?_; intro v' w3 hown' hgrow _)
      have hB' : Below w.heap.size w w3 := (hBw.alloc hBw.size _).trans (below_grown (hrow.alloc _) hgrow (by have := hBw.size; simp; omega) (Nat.le_refl _))
      go_roundw
      case rel => exact ⟨k + 1, Hk.out, by go_num, by rw [Hst.out]; simpa using hown', hB'⟩
      case measure => have := Hk.out; simp [intOf]; omega
    · obtain rfl : k = n := by omega
      rw [HE.out] at hrow
      have hlY : Y.length = k := by have := HLO.out k (Nat.le_refl _); rwa [HE.out] at this
      have HY := Lib.hid hlY
      clear hlY
      go_wp2_with fail
      go_ret2
      exact ⟨hB, _, rfl, Sl.of_own hrow⟩
end Go.Proofs.Ytfkjheilcbppcaa
