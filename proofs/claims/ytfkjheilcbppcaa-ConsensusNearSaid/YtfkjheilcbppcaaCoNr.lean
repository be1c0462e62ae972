/- ConsensusNear, walked. (Seat s27; made by mk_conr.py.) -/
import Derived.Test.YtfkjheilcbppcaaCoNg
import Derived.Laws.CopyOwn
import Derived.StillTailTactics
namespace Go.Proofs.Ytfkjheilcbppcaa
open Go.RowKit Go.Shelf
attribute [local go_sem] Oper.semAt_some run_store_func

theorem u8_xor (x y : Nat) (hx : x < 256) (hy : y < 256) : bits .xor .u8 (x : Int) (y : Int) = ((x ^^^ y : Nat) : Int) := by
  have hl : x ^^^ y < 256 := Nat.xor_lt_two_pow (n := 8) hx hy
  have h : (BitVec.ofInt IntKind.u8.bits (x : Int) ^^^ BitVec.ofInt IntKind.u8.bits (y : Int)).toNat = x ^^^ y := by
    rw [BitVec.toNat_xor, BitVec.toNat_ofInt, BitVec.toNat_ofInt]
    have e : ∀ z : Nat, z < 256 → ((z : Int) % ((2 ^ IntKind.u8.bits : Nat) : Int)).toNat = z := by
      intro z hz
      show ((z : Int) % ((256 : Nat) : Int)).toNat = z
      omega
    rw [e x hx, e y hy]
  unfold bits
  simp only [h]
  exact IntWalk.u8_in _ (by omega)

set_option maxRecDepth 100000 in
set_option maxHeartbeats 400000 in
theorem u8x (a b : UInt8) : bits .xor .u8 (a.toNat : Int) (b.toNat : Int) = ((a ^^^ b).toNat : Int) := by rw [u8_xor _ _ a.toNat_lt b.toNat_lt, UInt8.toNat_xor]
/-- A row of the call's own: its block, its cells. -/
theorem own_cells {w : World} {B n : Nat} {v : Value} {ys : List Value} (h : w.ownsRow B 5 1 v n ys) (hb : v.ownBlock ≠ none) : ∃ g cap, ∃ cur : List Value, v = .slice (some ⟨g, 0, none⟩) n cap ∧ B ≤ g ∧ w.heap[g]? = some (.cells cur.toArray 5 (0, 0)) ∧ n ≤ cap ∧ cur.take n = ys ∧ n ≤ cur.length := by
  rcases h.2 with ⟨h1, -⟩ | ⟨g, cap, cs, e, hB, hg, hn, hm, hsz, htake⟩
  · rw [h1] at hb; exact absurd rfl hb
  · rw [Nat.mul_one] at hsz htake
    refine ⟨g, cap, cs.toList, e, hB, hg, hn, htake, ?_⟩
    rw [Array.length_toList]
    omega
/-- What stands in it behind a copy. -/
theorem sl_spliced {w : World} {g n cap m : Nat} {cur : List Value} {X O : List UInt8} (hg : w.heap[g]? = some (.cells (splice cur 0 (O.map eB)).toArray 5 (0, 0))) (hn : n ≤ cap) (hX : cur.take n = X.map eB) (hXn : X.length = n) (hO : O.length = m) (hm : m ≤ n) : Sl eB w.heap.size w (.slice (some ⟨g, 0, none⟩) n cap) (O ++ X.drop m) := by
  have hr : Rowed w g 5 (splice cur 0 (O.map eB)).toArray := hg
  refine ⟨some ⟨g, 0, none⟩, cap, by simp; omega, by simp; omega, fun _ => ⟨g, 0, rfl, hr.lt, fun j x hx => ?_⟩⟩
  rw [Nat.zero_add, hr.cell j, List.getElem?_toArray]
  unfold splice
  rw [List.take_zero, List.nil_append, Nat.zero_add, List.length_map, hO]
  rw [List.getElem?_append] at hx ⊢
  rw [List.length_map]
  by_cases h : j < O.length
  · rw [if_pos h] at hx ⊢
    simp [hx]
  · rw [if_neg h] at hx ⊢
    rw [List.getElem?_drop] at hx ⊢
    have hj : m + (j - O.length) < n := by have := (List.getElem?_eq_some_iff.1 hx).1; omega
    rw [← List.getElem?_take_of_lt hj, hX, List.getElem?_map, hx]
    rfl
theorem row_made (w : World) : (w.alloc (.cells #[] 5)).ownsRow w.heap.size 5 1 (.slice (some ⟨w.heap.size, 0, none⟩) 0 0) 0 [] :=
  ⟨rfl, .inr ⟨w.heap.size, 0, #[], rfl, Nat.le_refl _, World.alloc_heap_new _ _, Nat.le_refl _, by unfold maxLen; omega, rfl, rfl⟩⟩
theorem own_setN {B : Nat} {w : World} {v : Value} {xs : List UInt8} (h : w.ownsRow B 5 1 v xs.length (xs.map eB)) (j : Nat) (hj : j < xs.length) :
    ∃ g cap, v = .slice (some ⟨g, 0, none⟩) xs.length cap ∧ B ≤ g ∧ g < w.heap.size ∧ w.cell? ⟨g, j, none⟩ = some (eB xs[j]) ∧ w.frozen? ⟨g, j, none⟩ = false ∧
      ∀ (w' : World) (u : UInt8), w'.heap[g]? = w.heap[g]? → (w'.setCell ⟨g, j, none⟩ (eB u)).ownsRow B 5 1 v (xs.set j u).length ((xs.set j u).map eB) := by
  rcases h.2 with ⟨_, h1⟩ | ⟨g, cap, cs, e, hB, hg, hn, hm, hsz, htake⟩
  · omega
  · rw [Nat.mul_one] at hsz htake
    have hr : Rowed w g 5 cs := hg
    have hget : ∀ i (hi : i < xs.length), cs[i]? = some (eB xs[i]) := fun i hi => by
      have h1 : (cs.toList.take xs.length)[i]? = (xs.map eB)[i]? := by rw [htake]
      rw [List.getElem?_take_of_lt hi, Array.getElem?_toList] at h1
      rw [h1]
      simp [hi]
    refine ⟨g, cap, e, hB, hr.lt, by rw [hr.cell j, hget j hj], hr.frozen j, fun w' u hw => ?_⟩
    have hr' : Rowed w' g 5 cs := hw.trans hg
    have hs := hr'.set j (eB u)
    refine ⟨by simp, .inr ⟨g, cap, cs.setIfInBounds j (eB u), by rw [e, List.length_set], hB, hs, by rw [List.length_set]; exact hn, hm, by simpa using hsz, ?_⟩⟩
    apply List.ext_getElem?
    intro i
    rw [List.length_set, Nat.mul_one]
    by_cases hi : i < xs.length
    · rw [List.getElem?_take_of_lt hi, Array.getElem?_toList, List.getElem?_map]
      by_cases e : i = j
      · subst e
        rw [Array.getElem?_setIfInBounds_self_of_lt (by omega), List.getElem?_set_self hi]
        rfl
      · rw [Array.getElem?_setIfInBounds_ne (fun h => e h.symm), hget i hi, List.getElem?_set_ne (fun h => e h.symm)]
        simp [hi]
    · rw [List.getElem?_eq_none (by simp; omega), List.getElem?_eq_none (by simp; omega)]
set_option maxRecDepth 100000 in
set_option maxHeartbeats 4000000 in
theorem Near_main (v0 v1 : Value) (rows : List RowC) (y : List UInt8) (w : World) (h0 : RowsIn w v0 rows) (h1 : Sl eB w.heap.size w v1 y) (e0 : grG rows = false) (hne : 0 < rows.length) (hy : y.length ≤ 60) :
    Calls Try.prog 6 #[v0, v1] w fun e w' => e = .returned (.bool true) ∧ Below w.heap.size w w' := by
  have g0 := great_any v0 rows w h0
  rw [e0] at g0
  obtain ⟨hlen, hl0⟩ := grG_no e0
  have hw := wakes_any
  obtain ⟨i0, hi, hz0, hz1, hz2⟩ := info_parts info_u8
  have hne' : bsL rows ≠ [] := fun e => by rw [(bsL_nil rows).1 e] at hne; exact absurd hne (by decide)
  have q1 : Calls Try.prog 14 #[v0] w fun e w' => Below w.heap.size w w' ∧ ∃ v, e = .returned (.tuple #[v, .bool true]) ∧ w'.ownsRow w.heap.size 5 1 v (ofG (bsL rows)).length ((ofG (bsL rows)).map eB) := by
    refine (CoOfm_any v0 rows (by omega) (fun p hp => by have := hl0 p hp; omega) w h0).mono ?_
    rintro e w' ⟨hB, ⟨h, -⟩ | ⟨-, v, rfl, hrow⟩⟩
    · exact absurd h hne'
    · exact ⟨hB, v, rfl, hrow⟩
  have hXl := ofG_length (bsL rows)
  have hn6 : (lenG (bsL rows)).1 ≤ 60 := by
    obtain ⟨lp1, lp2⟩ := lenG_is (bsL rows) hne'
    obtain ⟨r, hr, hl⟩ := cntL_pos.1 (show 0 < cntL (bsL rows) (lenG (bsL rows)).1 by omega)
    obtain ⟨q, hq, rfl⟩ := List.mem_map.1 hr
    have := hl0 q hq
    omega
  have QA := Lib.hid (show ∀ (vx : Value) (Z : List UInt8) W, Z.length = (lenG (bsL rows)).1 → RowsIn W v0 rows → Sl eB W.heap.size W vx Z → Calls Try.prog 17 #[v0, vx] W fun e w' => ∃ D' : Nat, apartG (bsL rows) (ofG (bsL rows)) ≤ D' ∧ e = .returned (.int .i64 D') ∧ W = w' from fun vx Z W hZ h h' => by
    refine (CoApart_any v0 vx rows Z (by omega) (by omega) W h h').mono ?_
    rintro e w' ⟨rfl, rfl⟩
    exact ⟨_, near_least hne' hZ, rfl, rfl⟩)
  have Q0 := Lib.hid (show ∀ (vx : Value) W, RowsIn W v0 rows → Sl eB W.heap.size W vx (ofG (bsL rows)) → Calls Try.prog 17 #[v0, vx] W fun e w' => e = .returned (.int .i64 (apartG (bsL rows) (ofG (bsL rows)) : Nat)) ∧ W = w' from fun vx W h h' => CoApart_any v0 vx rows _ (by omega) (by omega) W h h')
  have d1 := decide_eq_false (show ¬ (60 : Int) < (y.length : Int) by omega)
  have hX6 : (ofG (bsL rows)).length ≤ 60 := by omega
  generalize ofG (bsL rows) = X at *
  generalize apartG (bsL rows) X = D at *
  rw [← hXl] at QA
  have HX6 := Lib.hid hX6
  have Hy := Lib.hid hy
  have HN := Lib.hid hlen
  obtain ⟨A, c, rfl, -⟩ := h0.some
  obtain ⟨A1, c1, rfl, hc1, hcs⟩ := id h1
  have H0 := Lib.hid h0
  have Hcs := Lib.hid hcs
  clear e0 hl0 hne hne' hXl hn6 hlen h0 h1 hcs hX6 hy hc1
  go_enter Try.func6, Try.ntmps6
  go_wp2_with fail
  go_at_call 8
  refine g0.mono ?_
  rintro e w1 ⟨rfl, rfl⟩
  clear g0
  go_wp2_with fail
  go_at_call 14
  refine q1.mono ?_
  rintro e w1 ⟨hB, vx, rfl, hx⟩
  clear q1
  have hrow := row_made w1
  have hA1 : Below w1.heap.size w1 (w1.alloc (.cells #[] 5)) := below_al w1 _
  have hxs := Sl.of_own hx
  obtain ⟨Ax, cx, rfl⟩ := hxs.len
  have hsz : (Try.prog.info? 5).map (·.size) = some 1 := by kernel_rfl
  obtain ⟨m, hm⟩ : ∃ m, m = Nat.min y.length X.length := ⟨_, rfl⟩
  have hmy : m ≤ y.length := by rw [hm]; exact Nat.min_le_left _ _
  have hmX : m ≤ X.length := by rw [hm]; exact Nat.min_le_right _ _
  obtain ⟨CS, hCS⟩ : ∃ CS, CS = (y.take m).map eB := ⟨_, rfl⟩
  have hCl : CS.length = m := by rw [hCS, List.length_map, List.length_take]; omega
  have HCl := Lib.hid hCl
  have hn := Lib.hid (show CS.length = Nat.min y.length X.length by rw [hCl, hm])
  have HP := Lib.hid (show 0 < CS.length → ∀ W, Below w.heap.size w W → ∃ ad, A1 = some ad ∧ ∀ j v, CS[j]? = some v → W.cell? (ad.add j) = some v from fun h0 W hW => by
    obtain ⟨b, off, e, hb, hcell⟩ := Hcs.out (by omega)
    refine ⟨_, e, fun j v hv => ?_⟩
    rw [hCS, List.getElem?_map, Option.map_eq_some_iff] at hv
    obtain ⟨z, hz, rfl⟩ := hv
    have hjm : j < m := by have := (List.getElem?_eq_some_iff.1 hz).1; rw [List.length_take] at this; omega
    rw [List.getElem?_take_of_lt hjm] at hz
    rw [show (⟨b, off, none⟩ : Addr).add j = ⟨b, off + j, none⟩ from by unfold Addr.add; split <;> simp_all]
    exact (hW.cell (p := ⟨b, off + j, none⟩) hb).trans (hcell j z hz))
  have HONE := Lib.hid (show ∀ v ∈ CS, v.oneCell' = true from fun v hv => by rw [hCS] at hv; obtain ⟨z, -, rfl⟩ := List.mem_map.1 hv; rfl)
  have HCS := Lib.hid hCS
  have Hm := Lib.hid (And.intro hmy hmX)
  clear hm hmy hmX hCS hCl
  go_wp2_with (first
    | (at_builtin
       refine wpList_append_sl _ rfl (.tmp 37) (.tmp 38) _ rfl w1.heap.size 5 i0 (.int .u8 0) 1 Try.underlying23 hi hz0 hz1 hz2 rfl _ 0 [] hrow rfl w1.heap.size _ X (hxs.below hA1) rfl (fun _ => rfl) (by have := HX6.out; unfold maxLen; omega) (by have := HX6.out; omega) (by simp) ?_
       intro vy w2 hown1 hg1 hat1
       have hA2 : Below w1.heap.size w1 w2 := hA1.trans (below_grown hrow hg1 (by simp) (Nat.le_refl _))
       rw [Nat.zero_add, List.nil_append] at hown1
       obtain ⟨gy, cpy, cur, rfl, hgy, hcur, hnc, htk, hcl⟩ := own_cells hown1 (by rcases hat1 with h | h <;> rw [h] <;> simp [Value.ownBlock])
       have hfit : 0 + CS.length ≤ cur.length := by have := Hm.out; have := HCl.out; omega
       have Htk := Lib.hid (And.intro hnc htk)
       have hpos : 0 < CS.length → (some (⟨gy, 0, none⟩ : Addr)) = some ⟨gy, 0, none⟩ ∧ ∃ ad, A1 = some ad ∧ ∀ j v, CS[j]? = some v → w2.cell? (ad.add j) = some v := fun h => ⟨rfl, HP.out h w2 (below_trans hB hA2)⟩
       have Hpos := Lib.hid hpos
       clear hpos hown1 hg1 hat1 hrow hA1 hnc htk hcl)
    | (refine wpList_copy_splice rfl (.tmp 40) (.tmp 41) 23 23 rfl 5 Try.underlying23 hsz (some ⟨gy, 0, none⟩) A1 X.length cpy y.length c1 rfl rfl gy 0 cur 5 hcur CS hn.out Hpos.out hfit HONE.out w1.heap.size w1 hA2 hgy ?_
       intro w3 hg3 hA3))
  have hy3 := sl_spliced (m := m) (O := y.take m) (X := X) (by have := hg3.out; rw [HCS.out] at this; exact this) Htk.out.1 Htk.out.2 rfl (by rw [List.length_take]; have := Hm.out; omega) Hm.out.2
  have hZ : (y.take m ++ X.drop m).length = X.length := by rw [List.length_append, List.length_take, List.length_drop]; have := Hm.out; omega
  have hx3 := ownsRow_below hx hA3
  have hB3 := below_trans hB hA3
  have h03 := H0.out.next hB3
  have k0 := Q0.out _ _ h03 (Sl.of_own hx3)
  have k1 := QA.out _ _ _ hZ h03 hy3
  have HW := Lib.hid hw
  clear hg3 hA2 hA3 hcur hfit Htk Hpos hy3 hZ hx hxs h03 HP HONE HCS hB hgy hsz hw hn HCl Hm
  go_at_call 17
  refine k0.mono ?_
  rintro e w4 ⟨rfl, rfl⟩
  clear k0
  go_wp2_with fail
  go_at_call 17
  refine k1.mono ?_
  rintro e w4 ⟨D2, hD2, rfl, rfl⟩
  have hd2 : ¬ (D2 : Int) < (D : Int) := by omega
  have hd2' : ¬ D2 < D := by omega
  clear k1 hD2
  go_wp2_with fail
  clear hd2 hd2'
  go_loopw [9] (fun i wr => ∃ k : Nat, k ≤ X.length ∧ i = .int .i64 k ∧ wr.ownsRow w.heap.size 5 1 (.slice Ax X.length cx) X.length (X.map eB) ∧ Below w.heap.size w wr) (fun i _ => X.length - (RowKit.intOf i).toNat)
  case atStart => exact ⟨0, Nat.zero_le _, rfl, hx3, hB3⟩
  case round =>
    clear hx3 hB3
    obtain ⟨k, hk, rfl, hown, hB⟩ := hrel
    by_cases hlt : k < X.length
    · obtain ⟨g, cap, e, hgw, hgl, ck, fk, hput⟩ := own_setN hown k hlt
      obtain ⟨rfl, -, rfl⟩ : Ax = some ⟨g, 0, none⟩ ∧ X.length = X.length ∧ cx = cap := by injection e with e1 e2 e3; exact ⟨e1, rfl, e3⟩
      clear e
      have hkl : (k : Int) < (X.length : Int) := by omega
      have hk9 : k ≤ 60 := by have := HX6.out; omega
      have hback : ∀ b : UInt8, (X.set k b).set k X[k] = X := fun b => by rw [List.set_set, List.set_getElem_self]
      have HBK := Lib.hid hback
      have Hk := Lib.hid hlt
      have HPUT := Lib.hid (fun u => hput wr u rfl)
      clear hput hback hown
      generalize X[k] = u at *
      by_cases hly : k < y.length
      · have hkly : (k : Int) < (y.length : Int) := by omega
        obtain ⟨b, off, rfl, hb, hcell⟩ := Hcs.out (by omega)
        have hykr := (hB.cell (p := ⟨b, off + k, none⟩) hb).trans (hcell k y[k] (List.getElem?_eq_getElem hly))
        generalize y[k] = x at *
        clear hcell
        have hset := HPUT.out x
        have hBs := hB.setCell (p := ⟨g, k, none⟩) hgw (eB x)
        have HS5 := Lib.hid (And.intro hset hBs)
        clear hset hBs hlt HPUT hly
        go_wp2_with fail
        go_at_call 17
        obtain ⟨w5, hw5⟩ : ∃ w3, wr.setCell ⟨g, k, none⟩ (Value.int .u8 ((x).toNat : Int)) = w3 := ⟨_, rfl⟩
        have hO5 : w5.ownsRow w.heap.size 5 1 (.slice (some ⟨g, 0, none⟩) X.length cx) (X.set k (x)).length ((X.set k (x)).map eB) := by rw [← hw5]; exact HS5.out.1
        have hB5 : Below w.heap.size w w5 := by rw [← hw5]; exact HS5.out.2
        rw [hw5]
        clear hw5 HS5 ck fk
        have hZ2 : (X.set k (x)).length = X.length := List.length_set
        have kk := QA.out _ _ _ hZ2 (H0.out.next hB5) (Sl.of_own hO5)
        obtain ⟨g2, cap2, e2, -, hgl2, ck2, fk2, hput2⟩ := own_setN hO5 k (by rw [hZ2]; exact Hk.out)
        obtain ⟨rfl, rfl⟩ : g = g2 ∧ cx = cap2 := by injection e2 with e1 e3 e4; injection e1 with e1; injection e1 with e1; exact ⟨e1, e4⟩
        replace ck2 : ∃ q : UInt8, w5.cell? ⟨g, k, none⟩ = some (eB q) := ⟨_, ck2⟩
        obtain ⟨q, ck2⟩ := ck2
        have hset2 := hput2 w5 u rfl
        rw [HBK.out] at hset2
        have hBs2 := hB5.setCell (p := ⟨g, k, none⟩) hgw (eB u)
        have HS6 := Lib.hid (And.intro hset2 hBs2)
        clear e2 hput2 hset2 hBs2 hZ2 hO5 hB5
        refine kk.mono ?_
        rintro e w6 ⟨D2, hD2, rfl, rfl⟩
        have hd2 : ¬ (D2 : Int) < (D : Int) := by omega
        have hd2' : ¬ D2 < D := by omega
        clear kk hD2
        go_wp2_with fail
        go_roundw
        case rel => exact ⟨k + 1, Hk.out, by go_num, HS6.out.1, HS6.out.2⟩
        case measure => have := Hk.out; simp [RowKit.intOf]; omega
      · have hkly : ¬ (k : Int) < (y.length : Int) := by omega
        have hx6 : bits .xor .u8 (u.toNat : Int) 6 = ((u ^^^ 6).toNat : Int) := u8x u 6
        obtain ⟨z, hz⟩ : ∃ z : UInt8, u ^^^ 6 = z := ⟨_, rfl⟩
        rw [hz] at hx6
        clear hz
        have hset := HPUT.out z
        have hBs := hB.setCell (p := ⟨g, k, none⟩) hgw (eB z)
        have HS5 := Lib.hid (And.intro hset hBs)
        clear hset hBs hlt HPUT hly
        go_wp2_with fail
        go_at_call 17
        obtain ⟨w5, hw5⟩ : ∃ w3, wr.setCell ⟨g, k, none⟩ (Value.int .u8 ((z).toNat : Int)) = w3 := ⟨_, rfl⟩
        have hO5 : w5.ownsRow w.heap.size 5 1 (.slice (some ⟨g, 0, none⟩) X.length cx) (X.set k (z)).length ((X.set k (z)).map eB) := by rw [← hw5]; exact HS5.out.1
        have hB5 : Below w.heap.size w w5 := by rw [← hw5]; exact HS5.out.2
        rw [hw5]
        clear hw5 HS5 ck fk
        have hZ2 : (X.set k (z)).length = X.length := List.length_set
        have kk := QA.out _ _ _ hZ2 (H0.out.next hB5) (Sl.of_own hO5)
        obtain ⟨g2, cap2, e2, -, hgl2, ck2, fk2, hput2⟩ := own_setN hO5 k (by rw [hZ2]; exact Hk.out)
        obtain ⟨rfl, rfl⟩ : g = g2 ∧ cx = cap2 := by injection e2 with e1 e3 e4; injection e1 with e1; injection e1 with e1; exact ⟨e1, e4⟩
        replace ck2 : ∃ q : UInt8, w5.cell? ⟨g, k, none⟩ = some (eB q) := ⟨_, ck2⟩
        obtain ⟨q, ck2⟩ := ck2
        have hset2 := hput2 w5 u rfl
        rw [HBK.out] at hset2
        have hBs2 := hB5.setCell (p := ⟨g, k, none⟩) hgw (eB u)
        have HS6 := Lib.hid (And.intro hset2 hBs2)
        clear e2 hput2 hset2 hBs2 hZ2 hO5 hB5
        refine kk.mono ?_
        rintro e w6 ⟨D2, hD2, rfl, rfl⟩
        have hd2 : ¬ (D2 : Int) < (D : Int) := by omega
        have hd2' : ¬ D2 < D := by omega
        clear kk hD2
        go_wp2_with fail
        go_roundw
        case rel => exact ⟨k + 1, Hk.out, by go_num, HS6.out.1, HS6.out.2⟩
        case measure => have := Hk.out; simp [RowKit.intOf]; omega
    · obtain rfl : k = X.length := by omega
      have hwk := HW.out wr
      clear hlt hk hown
      go_wp2_with fail
      go_at_call 9
      refine hwk.mono ?_
      rintro e w6 ⟨rfl, hC⟩
      have hB := below_trans hB hC
      clear hwk hC
      go_wp2_with fail
      go_ret
      exact ⟨rfl, hB⟩
theorem ConsensusNear_any (v0 v1 : Value) (rows : List RowC) (y : List UInt8) (w : World) (h0 : RowsIn w v0 rows) (h1 : Sl eB w.heap.size w v1 y) :
    Calls Try.prog 6 #[v0, v1] w fun e w' => e = .returned (.bool true) ∧ Below w.heap.size w w' := by
  by_cases hg : grG rows = true ∨ 60 < y.length
  · exact Near_great v0 v1 rows y w h0 h1 hg
  · cases rows with
    | nil => exact Near_none v0 v1 y w h0 h1 (by omega)
    | cons r rows =>
      refine Near_main v0 v1 (r :: rows) y w h0 h1 ?_ (by simp) (by omega)
      cases e : grG (r :: rows) <;> simp_all
end Go.Proofs.Ytfkjheilcbppcaa
