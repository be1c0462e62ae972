/- ConsensusOrder, walked. (Seat s27.) -/
import Derived.Test.YtfkjheilcbppcaaCoMs
import Derived.Test.YtfkjheilcbppcaaCoY
namespace Go.Proofs.Ytfkjheilcbppcaa
open Go.RowKit Go.Shelf
attribute [local go_sem] Oper.semAt_some run_store_func

/-- The rows from behind, turned about by p, as far as k. -/
def turnB (rows : List RowC) (p k : Nat) : List RowC := (List.range k).map fun j => (rows[(rows.length - 1 - j + p) % rows.length]?).getD ⟨none, 0, []⟩
theorem turnB_succ (rows : List RowC) (p k : Nat) : turnB rows p (k + 1) = turnB rows p k ++ [(rows[(rows.length - 1 - k + p) % rows.length]?).getD ⟨none, 0, []⟩] := by
  unfold turnB
  rw [List.range_succ, List.map_append, List.map_singleton]
theorem turnB_len (rows : List RowC) (p k : Nat) : (turnB rows p k).length = k := by simp [turnB]
theorem turnB_perm (rows : List RowC) (p : Nat) (hp : p < rows.length) : (turnB rows p rows.length).Perm rows := by
  have e : turnB rows p rows.length = (rows.drop p ++ rows.take p).reverse := by
    refine List.ext_getElem? fun i => ?_
    by_cases hi : i < rows.length
    · have hl : (rows.drop p ++ rows.take p).length = rows.length := by rw [List.length_append, List.length_drop, List.length_take]; omega
      rw [List.getElem?_reverse (by omega), hl]
      have h1 : (turnB rows p rows.length)[i]? = some ((rows[(rows.length - 1 - i + p) % rows.length]?).getD ⟨none, 0, []⟩) := by
        unfold turnB
        simp [hi]
      rw [h1, List.getElem?_append, List.length_drop]
      by_cases hq : rows.length - 1 - i < rows.length - p
      · rw [if_pos hq, List.getElem?_drop]
        have hm : (rows.length - 1 - i + p) % rows.length = p + (rows.length - 1 - i) := by rw [Nat.mod_eq_of_lt (by omega)]; omega
        rw [hm, List.getElem?_eq_getElem (by omega)]
        rfl
      · rw [if_neg hq, List.getElem?_take, if_pos (by omega)]
        have hm : (rows.length - 1 - i + p) % rows.length = rows.length - 1 - i - (rows.length - p) := by
          rw [Nat.mod_eq_sub_mod (by omega), Nat.mod_eq_of_lt (by omega)]; omega
        rw [hm, List.getElem?_eq_getElem (by omega)]
        rfl
    · have h1 : (turnB rows p rows.length)[i]? = none := by rw [List.getElem?_eq_none_iff, turnB_len]; omega
      have h2 : (rows.drop p ++ rows.take p).reverse[i]? = none := by rw [List.getElem?_eq_none_iff, List.length_reverse, List.length_append, List.length_drop, List.length_take]; omega
      rw [h1, h2]
  rw [e]
  exact (List.reverse_perm _).trans (turned_perm rows p)
set_option maxRecDepth 100000 in
set_option maxHeartbeats 1000000 in
theorem Order_great (v0 : Value) (z : Int) (rows : List RowC) (w : World) (h0 : RowsIn w v0 rows) (hg : grG rows = true ∨ rows.length = 0) :
    Calls Try.prog 5 #[v0, .int .i64 z] w fun e w' => e = .returned (.bool true) ∧ Below w.heap.size w w' := by
  have g0 := great_any v0 rows w h0
  have hw := wakes_any w
  obtain ⟨A, c, rfl, -⟩ := h0.some
  clear h0
  cases e0 : grG rows with
  | true =>
    rw [e0] at g0
    clear hg e0
    go_enter Try.func5, Try.ntmps5
    go_wp2_with fail
    go_at_call 8
    refine g0.mono ?_
    rintro e w1 ⟨rfl, rfl⟩
    clear g0
    go_wp2_with fail
    go_at_call 9
    refine hw.mono ?_
    rintro e w2 ⟨rfl, hB⟩
    clear hw
    go_wp2_with fail
    go_ret
    exact ⟨rfl, hB⟩
  | false =>
    rw [e0] at g0 hg
    have h6 : rows.length = 0 := by simpa using hg
    rw [h6] at g0 ⊢
    clear hg e0 h6
    go_enter Try.func5, Try.ntmps5
    go_wp2_with fail
    go_at_call 8
    refine g0.mono ?_
    rintro e w1 ⟨rfl, rfl⟩
    clear g0
    go_wp2_with fail
    go_at_call 9
    refine hw.mono ?_
    rintro e w2 ⟨rfl, hB⟩
    clear hw
    go_wp2_with fail
    go_ret
    exact ⟨rfl, hB⟩
set_option maxRecDepth 100000 in
set_option maxHeartbeats 4000000 in
theorem Order_main (v0 : Value) (z : Int) (rows : List RowC) (w : World) (h0 : RowsIn w v0 rows) (e0 : grG rows = false) (hne : 0 < rows.length) :
    Calls Try.prog 5 #[v0, .int .i64 z] w fun e w' => e = .returned (.bool true) ∧ Below w.heap.size w w' := by
  have g0 := great_any v0 rows w h0
  rw [e0] at g0
  obtain ⟨hlen, hl0⟩ := grG_no e0
  have hw := wakes_any
  obtain ⟨i0, hi, hz0, hz1, hz2⟩ := info_parts info_row
  obtain ⟨p, hp, hpe⟩ := place_in z rows.length hne (by omega)
  have hne' : bsL rows ≠ [] := fun e => by rw [(bsL_nil rows).1 e] at hne; exact absurd hne (by decide)
  have hbl := bsL_count rows
  have hper := turnB_perm rows p hp
  have hperb : (bsL (turnB rows p rows.length)).Perm (bsL rows) := hper.map _
  have c1 := Of_uni v0 rows (by omega) (fun p hp => by have := hl0 p hp; omega) w h0
  have c2 := fun w' h => CoLength_any v0 rows (by omega) (fun p hp => by have := hl0 p hp; omega) w' h
  have c3 := fun v w' h => Of_uni v (turnB rows p rows.length) (by rw [turnB_len]; omega) (fun q hq => by have := hl0 q (hper.mem_iff.1 hq); omega) w' h
  have c4 := fun (k : Nat) w' (h : RowsIn w' v0 rows) (hk : k < (lenG (bsL rows)).1) => CoColumn_any v0 rows k (by omega) (fun p hp => by have := hl0 p hp; omega) w' h
  have c5 := fun w' (h : RowsIn w' v0 rows) => CoColumn_any v0 rows (lenG (bsL rows)).1 (by omega) (fun p hp => by have := hl0 p hp; omega) w' h
  obtain ⟨lp1, lp2⟩ := lenG_is (bsL rows) hne'
  have hn6 : (lenG (bsL rows)).1 ≤ 60 := by
    obtain ⟨r, hr, hl⟩ := cntL_pos.1 (show 0 < cntL (bsL rows) (lenG (bsL rows)).1 by omega)
    obtain ⟨q, hq, rfl⟩ := List.mem_map.1 hr
    have := hl0 q hq
    omega
  have C4 := Lib.hid (show ∀ (k : Nat) w', RowsIn w' v0 rows → k < (lenG (bsL rows)).1 → Calls Try.prog 12 #[v0, .int .i64 k] w' fun e w'' => e = .returned (.tuple #[.int .u8 (colG (bsL rows) k).1, .int .i64 (colG (bsL rows) k).2, .bool true]) ∧ Below w'.heap.size w' w'' from fun k w' h hk => by
    have h1 := c4 k w' h hk
    have e1 : (k : Int).toNat = k := by omega
    rw [e1, if_pos ⟨lp1, by omega, by omega⟩] at h1
    exact h1)
  rw [if_neg (by omega)] at c5
  rw [ofG_perm hperb] at c3
  rw [decide_eq_true (show rows ≠ [] from fun e => by rw [e] at hne; exact absurd hne (by decide))] at c1
  rw [decide_eq_true (show turnB rows p rows.length ≠ [] from fun e => by have := turnB_len rows p rows.length; rw [e] at this; exact absurd this (by simp; omega))] at c3
  rw [decide_eq_true lp1] at c2
  have HA := Lib.hid (show ∀ k, k < (lenG (bsL rows)).1 → (ofG (bsL rows))[k]? = some (UInt8.ofNat (colG (bsL rows) k).1) ∧ (UInt8.ofNat (colG (bsL rows) k).1).toNat = (colG (bsL rows) k).1 ∧ 0 < (colG (bsL rows) k).2 ∧ (colG (bsL rows) k).2 = cntC (bsL rows) (lenG (bsL rows)).1 k (colG (bsL rows) k).1 ∧ (colG (bsL rows) k).2 ≤ cntL (bsL rows) (lenG (bsL rows)).1 ∧ (colG (bsL rows) k).2 ≤ 30 from fun k hk => by
    obtain ⟨a1, a2⟩ := ofG_at (bsL rows) hne' k hk
    obtain ⟨-, a3, a4⟩ := colG_is (bsL rows) hne' k
    have a5 := cntC_le (bsL rows) (lenG (bsL rows)).1 k (colG (bsL rows) k).1
    have a6 : cntL (bsL rows) (lenG (bsL rows)).1 ≤ (bsL rows).length := List.countP_le_length
    exact ⟨a1, a2, a3, a4, by omega, by omega⟩)
  have HC := Lib.hid (show ∀ n i c k (hk : k < rows.length), cntC ((bsL rows).take (k + 1)) n i c = cntC ((bsL rows).take k) n i c + if rows[k].bs.length = n ∧ ((rows[k].bs[i]?).getD 0).toNat = c then 1 else 0 from fun n i c k hk => by
    have h := cntC_take (bsL rows) n i c k (by omega)
    rw [bsL_get] at h
    exact h)
  have HCL := Lib.hid (show ∀ n k (hk : k < rows.length), cntL ((bsL rows).take (k + 1)) n = cntL ((bsL rows).take k) n + if rows[k].bs.length = n then 1 else 0 from fun n k hk => by
    have h := cntL_take (bsL rows) n k (by omega)
    rw [bsL_get] at h
    exact h)
  have HT := Lib.hid (show (bsL rows).take rows.length = bsL rows from by rw [← hbl, List.take_length])
  have hXn : (((ofG (bsL rows)).length : Int) != ((lenG (bsL rows)).1 : Int)) = false := by rw [ofG_length]; simp
  have HXn := Lib.hid (ofG_length (bsL rows))
  have HL := Lib.hid hlen
  have HS := Lib.hid h0.2
  have HPM := Lib.hid (show ∀ q ∈ turnB rows p rows.length, q ∈ rows from fun q hq => hper.mem_iff.1 hq)
  have HTS := Lib.hid (turnB_succ rows p)
  have HTN := Lib.hid (turnB_len rows p)
  have Hn6 := Lib.hid hn6
  have Hp := Lib.hid hp
  have Hpe := Lib.hid hpe
  have hN0 : ¬ (rows.length : Int) = 0 := by omega
  have hN0' : ¬ rows.length = 0 := by omega
  have HNE := Lib.hid hne
  obtain ⟨A, c, rfl, hA⟩ := h0.some
  have hat := fun b off (e : A = some ⟨b, off, none⟩) k hk => RowsIn.at (e ▸ h0) k hk
  obtain ⟨b, off, rfl, hb⟩ := hA hne
  have HAT := Lib.hid (show ∀ k (hk : k < rows.length), w.cell? ⟨b, off + k, none⟩ = some (.slice rows[k].A rows[k].bs.length rows[k].c) ∧ Sl eB w.heap.size w (.slice rows[k].A rows[k].bs.length rows[k].c) rows[k].bs from fun k hk => hat b off rfl k hk)
  have HC5 := Lib.hid c5
  generalize ofG (bsL rows) = X at *
  generalize (lenG (bsL rows)).1 = n at *
  clear hat hA hpe hp hper hperb hlen hl0 lp1 lp2 hne hne' hbl c4 e0 hn6 c5
  go_enter Try.func5, Try.ntmps5
  go_wp2_with fail
  go_at_call 8
  refine g0.mono ?_
  rintro e w1 ⟨rfl, rfl⟩
  clear g0
  go_wp2_with fail
  go_at_call 14
  refine c1.mono ?_
  rintro e w1 ⟨hB, vx, rfl, hx⟩
  have h0 := h0.next hB
  clear c1
  go_wp2_with fail
  go_at_call 10
  refine (c2 _ h0).mono ?_
  rintro e w2 ⟨rfl, hC⟩
  have hx := hx.next hC
  have h0 := h0.next hC
  have hB := below_trans hB hC
  have H0 := Lib.hid h0
  have C3 := Lib.hid c3
  have hpe2 := Hpe.out
  have HW := Lib.hid hw
  clear c2 hC h0 c3 hw
  go_wp2_with fail
  clear hpe2
  go_loopw [9, 10] (fun t i wr => ∃ k : Nat, k ≤ rows.length ∧ i = .int .i64 ((rows.length : Int) - 1 - k) ∧ wr.ownsRow w2.heap.size 23 1 t k ((turnB rows p k).map eC) ∧ Below w2.heap.size w2 wr) (fun _ i _ => (RowKit.intOf i + 1).toNat)
  case atStart => exact ⟨0, Nat.zero_le _, by simp [IntWalk.wrap64_in ((rows.length : Int) - 1) (by have := HL.out; omega)], World.ownsRow_nil _ _ _ _, Below.refl _ _⟩
  case round =>
    obtain ⟨k, hk, rfl, hrow, hBr⟩ := hrel
    by_cases hlt : k < rows.length
    · obtain ⟨v, hv, hv0⟩ : ∃ v : Int, (rows.length : Int) - 1 - k = v ∧ 0 ≤ v := ⟨_, rfl, by omega⟩
      have hqn : (rows.length - 1 - k + p) % rows.length < rows.length := Nat.mod_lt _ HNE.out
      have hqi : (wrap64 (v + p)).tmod (rows.length : Int) = (((rows.length - 1 - k + p) % rows.length : Nat) : Int) := by
        have := HL.out
        have := Hp.out
        rw [IntWalk.wrap64_in _ (by omega), Int.tmod_eq_emod_of_nonneg (by omega), show v + (p : Int) = ((rows.length - 1 - k + p : Nat) : Int) by omega]
        rfl
      obtain ⟨hcq, -⟩ := HAT.out _ hqn
      have hst := HTS.out k
      rw [List.getElem?_eq_getElem hqn, Option.getD_some] at hst
      have hcx := ((below_trans hB hBr).cell (p := ⟨b, off + (rows.length - 1 - k + p) % rows.length, none⟩) hb).trans hcq
      have hqI : (((rows.length - 1 - k + p) % rows.length : Nat) : Int) < (rows.length : Int) := by omega
      have Hk := Lib.hid hlt
      have Hv := Lib.hid hv
      have hk9 : k ≤ 30 := by have := HL.out; omega
      have Hst := Lib.hid hst
      generalize rows[(rows.length - 1 - k + p) % rows.length] = R at *
      generalize (rows.length - 1 - k + p) % rows.length = q at *
      rw [hv]
      clear hlt hcq hst hqn hv
      go_wp2_with (at_builtin; refine wpList_append_own _ rfl _ _ 22 rfl w2.heap.size 23 i0 _ 1 24 Try.underlying22 hi hz0 hz1 hz2 (by decide) (by decide) _ _ _ rfl (hrow.alloc _) ⟨wr.heap.size, 0, none⟩ 1 1 [.slice R.A R.bs.length R.c] rfl rfl (cell_oneR _ _ _) (by simp [Value.oneCell']) (by unfold maxLen; omega) (by omega) (by have := hBr.size; simp; omega) ?_; intro v' w1 hown' hgrow _)
      have hB' : Below w2.heap.size w2 w1 := (hBr.alloc hBr.size _).trans (below_grownR (hrow.alloc _) hgrow (by have := hBr.size; simp; omega) (Nat.le_refl _))
      go_roundw
      case rel => exact ⟨k + 1, Hk.out, by have := Hv.out; have := HL.out; rw [IntWalk.wrap64_in _ (by omega)]; congr 1; omega, by rw [Hst.out, List.map_append]; exact hown', hB'⟩
      case measure => have := Hk.out; have := Hv.out; have := HL.out; simp [RowKit.intOf]; rw [IntWalk.wrap64_in _ (by omega)]; omega
    · obtain rfl : k = rows.length := by omega
      obtain ⟨v, hv, hv0⟩ : ∃ v : Int, (rows.length : Int) - 1 - rows.length = v ∧ v < 0 := ⟨_, rfl, by omega⟩
      have hv1 : ¬ 0 ≤ v := by omega
      rw [hv]
      have hB' := below_trans hB hBr
      have hbk : RowsIn wr u9 (turnB rows p rows.length) := rows_of (B := w2.heap.size) (by rw [HTN.out]; exact hrow) (fun q hq => HS.out q (HPM.out q hq)) hB'
      have h0 := H0.out.next hBr
      have hx := hx.next hBr
      clear hlt hk hv hrow
      generalize turnB rows p rows.length = T at *
      clear H0 HTS HPM HTN HS
      go_wp2_with fail
      go_at_call 14
      refine (C3.out _ _ hbk).mono ?_
      rintro e w3 ⟨hC, vy, rfl, hy⟩
      have h0 := h0.next hC
      have hx := hx.next hC
      have hB := below_trans hB' hC
      have hs := same_is vx vy X X true (by simp) w3.heap.size w3 hx hy
      clear hC hB' hbk C3 hBr hy
      obtain ⟨Ax, cx, rfl, -, -⟩ := id hx
      go_wp2_with fail
      go_at_call 16
      refine hs.mono ?_
      rintro e w4 ⟨rfl, rfl⟩
      clear hs
      go_wp2_with fail
      go_loopw [13, 14] (fun t i wr2 => ∃ k : Nat, k ≤ rows.length ∧ i = .int .i64 k ∧ t = .int .i64 (cntL ((bsL rows).take k) n : Nat) ∧ Below w3.heap.size w3 wr2) (fun _ i _ => rows.length - (RowKit.intOf i).toNat)
      case atStart => exact ⟨0, Nat.zero_le _, rfl, rfl, Below.refl _ _⟩
      case round =>
        obtain ⟨k, hk, rfl, rfl, hBx⟩ := hrel
        by_cases hlt : k < rows.length
        · have hcx := ((below_trans hB hBx).cell (p := ⟨b, off + k, none⟩) hb).trans (HAT.out k hlt).1
          have hst := HCL.out n k hlt
          have hkl : (k : Int) < rows.length := by omega
          have hcb := cntL_all (bsL rows) n k
          have Hk := Lib.hid hlt
          have hk9 : k ≤ 30 := by have := HL.out; omega
          generalize rows[k] = R at *
          clear hlt
          by_cases he : R.bs.length = n
          · rw [if_pos he] at hst
            have hq : (((R.bs.length : Nat) : Int) == (n : Int)) = true := by rw [he]; simp
            have Hd := Lib.hid hst
            clear he hst
            generalize cntL ((bsL rows).take k) n = cc at *
            go_wp2_with fail
            go_roundw
            case rel => exact ⟨k + 1, Hk.out, by go_num, by rw [Hd.out]; go_num, hBx⟩
            case measure => have := Hk.out; simp [RowKit.intOf]; omega
          · rw [if_neg he, Nat.add_zero] at hst
            have hq : (((R.bs.length : Nat) : Int) == (n : Int)) = false := by rw [beq_eq_false_iff_ne]; omega
            have Hd := Lib.hid hst
            clear he hst
            generalize cntL ((bsL rows).take k) n = cc at *
            go_wp2_with fail
            go_roundw
            case rel => exact ⟨k + 1, Hk.out, by go_num, by rw [Hd.out] <;> try rfl, hBx⟩
            case measure => have := Hk.out; simp [RowKit.intOf]; omega
        · obtain rfl : k = rows.length := by omega
          rw [HT.out]
          have h0 := h0.next hBx
          have hx := hx.next hBx
          have hB := below_trans hB hBx
          clear hlt hk hBx
          go_wp2_with fail
          obtain ⟨A9, c9, e9, -, hxc⟩ := id hx
          obtain ⟨rfl, -, rfl⟩ : Ax = A9 ∧ X.length = X.length ∧ cx = c9 := by injection e9 with e1 e2 e3; exact ⟨e1, rfl, e3⟩
          clear e9
          have Hx := Lib.hid hxc
          generalize hcl : cntL (bsL rows) n = CL at *
          have HCLL := Lib.hid hcl
          clear hcl hxc
          go_loopw [15] (fun i wy => ∃ k : Nat, k ≤ n ∧ i = .int .i64 k ∧ Below wr.heap.size wr wy) (fun i _ => n - (RowKit.intOf i).toNat)
          case atStart => exact ⟨0, Nat.zero_le _, rfl, Below.refl _ _⟩
          case round =>
            obtain ⟨k, hk, rfl, hBy⟩ := hrel
            have h0y := h0.next hBy
            have hBw := below_trans hB hBy
            by_cases hlt : k < n
            · obtain ⟨a1, a2, a3, a4, a5, a6⟩ := HA.out k hlt
              have hcall := C4.out k _ h0y hlt
              have hkl : (k : Int) < n := by omega
              have hkX : (k : Int) < (X.length : Int) := by have := HXn.out; omega
              obtain ⟨bx, ox, eAx, hbx, hxcell⟩ := Hx.out (by have := HXn.out; omega)
              have hxk := (hBy.cell (p := ⟨bx, ox + k, none⟩) hbx).trans (hxcell k _ a1)
              unfold eB at hxk
              rw [a2] at hxk
              subst eAx
              have Hk := Lib.hid hlt
              have hk9 : k ≤ 60 := by have := Hn6.out; omega
              have HV := Lib.hid (And.intro a3 (And.intro a4 (And.intro a5 a6)))
              clear a1 a2 a3 a4 a5 a6 hlt hxcell
              generalize (colG (bsL rows) k).1 = C at *
              generalize (colG (bsL rows) k).2 = V at *
              go_wp2_with fail
              go_at_call 12
              refine hcall.mono ?_
              rintro e w5 ⟨rfl, hC⟩
              have hxk := (hC.cell (p := ⟨bx, ox + k, none⟩) (Nat.lt_of_lt_of_le hbx hBy.size)).trans hxk
              have hBy := hBy.trans (hC.mono hBy.size)
              have hBw := below_trans hBw hC
              clear hC hcall h0y
              go_wp2_with fail
              go_loopw [19, 20] (fun t i wz => ∃ j : Nat, j ≤ rows.length ∧ i = .int .i64 j ∧ t = .int .i64 (cntC ((bsL rows).take j) n k C : Nat) ∧ Below w5.heap.size w5 wz) (fun _ i _ => rows.length - (RowKit.intOf i).toNat)
              case atStart => exact ⟨0, Nat.zero_le _, rfl, rfl, Below.refl _ _⟩
              case round =>
                obtain ⟨j, hj, rfl, rfl, hBz⟩ := hrel
                by_cases hlt2 : j < rows.length
                · obtain ⟨hrow, hsl⟩ := HAT.out j hlt2
                  have hrj := ((below_trans hBw hBz).cell (p := ⟨b, off + j, none⟩) hb).trans hrow
                  have hst2 := HC.out n k C j hlt2
                  have hjl : (j : Int) < rows.length := by omega
                  have hcb := cntC_all (bsL rows) n k C j
                  have Hj := Lib.hid hlt2
                  have hj9 : j ≤ 30 := by have := HL.out; omega
                  generalize rows[j] = R2 at *
                  clear hlt2 hrow
                  by_cases he : R2.bs.length = n
                  · have hib : k < R2.bs.length := by have := Hk.out; omega
                    obtain ⟨A2, c2, e2, -, hcs⟩ := hsl
                    obtain ⟨b2, o2, rfl, hb2, hc2⟩ := hcs (by omega)
                    injection e2 with e3 e4 e5
                    rw [e3] at hrj
                    have x1 := ((below_trans hBw hBz).cell (p := ⟨b2, o2 + k, none⟩) hb2).trans (hc2 k R2.bs[k] (List.getElem?_eq_getElem hib))
                    rw [List.getElem?_eq_getElem hib, Option.getD_some] at hst2
                    have hq : (((R2.bs.length : Nat) : Int) == (n : Int)) = true := by rw [he]; simp
                    have hiI : (k : Int) < ((R2.bs.length : Nat) : Int) := by omega
                    clear hcs hc2 e3 e4 e5
                    generalize R2.bs[k] = x at *
                    by_cases hx2 : x.toNat = C
                    · rw [if_pos ⟨he, hx2⟩] at hst2
                      have hq2 : ((x.toNat : Int) == (C : Int)) = true := by rw [hx2]; simp
                      have Hd := Lib.hid hst2
                      clear he hst2 hib hx2
                      generalize cntC ((bsL rows).take j) n k C = cc at *
                      go_wp2_with fail
                      try go_quiet (fail)
                      try go_wp2_with fail
                      go_roundw
                      case rel => exact ⟨j + 1, Hj.out, by go_num, by rw [Hd.out]; go_num, hBz.trans ⟨rfl, rfl, rfl, Nat.le_refl _, fun _ _ => rfl⟩⟩
                      case measure => have := Hj.out; simp [RowKit.intOf]; omega
                    · rw [if_neg (fun h => hx2 h.2), Nat.add_zero] at hst2
                      have hq2 : ((x.toNat : Int) == (C : Int)) = false := by rw [beq_eq_false_iff_ne]; omega
                      have Hd := Lib.hid hst2
                      clear he hst2 hib hx2
                      generalize cntC ((bsL rows).take j) n k C = cc at *
                      go_wp2_with fail
                      try go_quiet (fail)
                      try go_wp2_with fail
                      go_roundw
                      case rel => exact ⟨j + 1, Hj.out, by go_num, by rw [Hd.out] <;> try rfl, hBz.trans ⟨rfl, rfl, rfl, Nat.le_refl _, fun _ _ => rfl⟩⟩
                      case measure => have := Hj.out; simp [RowKit.intOf]; omega
                  · rw [if_neg (fun h => he h.1), Nat.add_zero] at hst2
                    have hq : (((R2.bs.length : Nat) : Int) == (n : Int)) = false := by rw [beq_eq_false_iff_ne]; omega
                    have Hd := Lib.hid hst2
                    clear he hst2 hsl
                    generalize cntC ((bsL rows).take j) n k C = cc at *
                    go_wp2_with fail
                    try go_quiet (fail)
                    try go_wp2_with fail
                    go_roundw
                    case rel => exact ⟨j + 1, Hj.out, by go_num, by rw [Hd.out] <;> try rfl, hBz.trans ⟨rfl, rfl, rfl, Nat.le_refl _, fun _ _ => rfl⟩⟩
                    case measure => have := Hj.out; simp [RowKit.intOf]; omega
                · obtain rfl : j = rows.length := by omega
                  rw [HT.out]
                  obtain ⟨a3, a4, a5, a6⟩ := HV.out
                  rw [← a4]
                  have hxk := (hBz.cell (p := ⟨bx, ox + k, none⟩) (Nat.lt_of_lt_of_le hbx hBy.size)).trans hxk
                  have hBy := hBy.trans (hBz.mono hBy.size)
                  have hV1 : ¬ (V : Int) < 1 := by omega
                  have hV2 : ¬ V < 1 := by omega
                  have hV3 : ¬ (CL : Int) < (V : Int) := by omega
                  have hV4 : ¬ CL < V := by omega
                  clear a3 a4 a5 a6 hlt2 hj hBz HV
                  go_wp2_with fail
                  try go_quiet (fail)
                  try go_wp2_with fail
                  go_roundw
                  case rel => exact ⟨k + 1, Hk.out, by go_num, hBy.trans ⟨rfl, rfl, rfl, Nat.le_refl _, fun _ _ => rfl⟩⟩
                  case measure => have := Hk.out; simp [RowKit.intOf]; omega
            · obtain rfl : k = n := by omega
              clear hlt hk
              go_wp2_with fail
              go_at_call 12
              refine (HC5.out _ h0y).mono ?_
              rintro e w5 ⟨rfl, hC⟩
              have hB := below_trans hBw hC
              have hwk := HW.out w5
              clear hC HW HC5
              go_wp2_with fail
              go_at_call 9
              refine hwk.mono ?_
              rintro e w6 ⟨rfl, hC⟩
              have hB := below_trans hB hC
              clear hwk hC
              go_wp2_with fail
              go_ret
              exact ⟨rfl, hB⟩
theorem ConsensusOrder_any (v0 : Value) (z : Int) (rows : List RowC) (w : World) (h0 : RowsIn w v0 rows) :
    Calls Try.prog 5 #[v0, .int .i64 z] w fun e w' => e = .returned (.bool true) ∧ Below w.heap.size w w' := by
  by_cases hg : grG rows = true ∨ rows.length = 0
  · exact Order_great v0 z rows w h0 hg
  · refine Order_main v0 z rows w h0 ?_ (by omega)
    cases e : grG rows <;> simp_all
end Go.Proofs.Ytfkjheilcbppcaa
