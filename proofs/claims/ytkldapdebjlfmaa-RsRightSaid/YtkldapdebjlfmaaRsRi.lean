/- RsRight. -/
import Derived.Test.YtkldapdebjlfmaaRsO
import Derived.StillTailTactics
namespace Go.Proofs.Ytkldapdebjlfmaa
open Go.RowKit Go.Shelf
attribute [local go_sem] Oper.semAt_some

/-- A word of which k bytes from n on are put together with others. -/
def FR (W : Nat → UInt8) (n : Nat) (y : Nat → UInt8) (k : Nat) : Nat → UInt8 := fun j => if n ≤ j ∧ j < n + k then W j ^^^ y (j - n) else W j
theorem FR_zero (W : Nat → UInt8) (n : Nat) (y : Nat → UInt8) : FR W n y 0 = W := by
  funext j; unfold FR; rw [if_neg (by omega)]
theorem FR_step (W : Nat → UInt8) (n : Nat) (y : Nat → UInt8) (k : Nat) : (fun j => if j = n + k then FR W n y k (n + k) ^^^ y k else FR W n y k j) = FR W n y (k + 1) := by
  funext j
  unfold FR
  by_cases e : j = n + k
  · subst e
    rw [if_pos rfl, if_neg (by omega), if_pos (by omega), show n + k - n = k by omega]
  · rw [if_neg e]
    by_cases h : n ≤ j ∧ j < n + k
    · rw [if_pos h, if_pos (by omega)]
    · rw [if_neg h, if_neg (by omega)]
theorem count_tail (n p : Nat) (P : Nat → Bool) (h : ∀ j, P j = true → n ≤ j) : ((List.range (n + p)).filter P).length ≤ p := by
  rw [List.range_add, List.filter_append, List.length_append]
  have h1 : (List.range n).filter P = [] := by
    rw [List.filter_eq_nil_iff]
    intro j hj hP
    have := h j hP
    rw [List.mem_range] at hj
    omega
  have h2 := List.length_filter_le P ((List.range p).map (n + ·))
  rw [List.length_map, List.length_range] at h2
  rw [h1]
  simpa using h2
theorem right_other (W : Nat → UInt8) (n p : Nat) (hN : n + p ≤ 255) (hr : Rig W (n + p) p) (ys : List UInt8) (k : Nat) (hk : k ≤ p) (hy : k ≤ ys.length) :
    (synL ((List.range (n + p)).map (FR W n (C ys) k)).reverse p).all (· = 0) = !(ys.take k).any (· ≠ 0) := by
  have hl : ((List.range (n + p)).map (FR W n (C ys) k)).length = n + p := by simp
  cases ha : (ys.take k).any (· ≠ 0) with
  | false =>
    have hz : ∀ i, i < k → C ys i = 0 := by
      intro i hi
      rw [List.any_eq_false] at ha
      have h1 := ha (ys[i]'(by omega)) (by rw [List.mem_take_iff_getElem]; exact ⟨i, by omega, rfl⟩)
      rw [C_get ys i (by omega)]
      simpa using h1
    show _ = true
    rw [right_iff, hl]
    refine hr.congr fun j hj => ?_
    rw [C_range_lt _ _ _ hj]
    unfold FR
    by_cases h : n ≤ j ∧ j < n + k
    · rw [if_pos h, hz _ (by omega), x_zero]
    · rw [if_neg h]
  | true =>
    show _ = false
    rw [Bool.eq_false_iff]
    intro hcon
    rw [right_iff, hl] at hcon
    rw [List.any_eq_true] at ha
    obtain ⟨y, hy1, hy2⟩ := ha
    rw [List.mem_take_iff_getElem] at hy1
    obtain ⟨i, hi, rfl⟩ := hy1
    have h2 := rig_few hN (hcon.congr fun j hj => C_range_lt _ _ _ hj) hr (by
      refine count_tail n p _ fun j hj => ?_
      apply Classical.byContradiction
      intro hlt
      have : FR W n (C ys) k j = W j := by unfold FR; rw [if_neg (by omega)]
      simp [this] at hj)
    have h3 := h2 (n + i) (by omega)
    unfold FR at h3
    rw [if_pos (by omega), show n + i - n = i by omega, C_get ys i (by omega)] at h3
    have h4 : ys[i] = 0 := by
      have h5 := congrArg (W (n + i) ^^^ ·) h3
      simpa [← x_assoc, x_self, zero_x] using h5
    simp [h4] at hy2

set_option maxRecDepth 100000 in
set_option maxHeartbeats 4000000 in
theorem RsRight_big (A0 A1 : Option Addr) (l0 c0 l1 c1 : Nat) (p : Int) (w : World) (hbig : 200 < l0 ∨ p < 0 ∨ 32 < p) :
    Calls Try.prog 4 #[.slice A0 l0 c0, .int .i64 p, .slice A1 l1 c1] w fun e w' => e = .returned (.bool true) ∧ Below w.heap.size w w' := by
  by_cases b1 : 200 < l0
  · have d1 : decide ((200 : Int) < (l0 : Int)) = true := decide_eq_true (by omega)
    clear hbig b1
    go_enter Try.func4, Try.ntmps4
    go_wp2_with (go_at_call 8; refine (wakes_any _).mono ?_; rintro e w2 ⟨rfl, hB⟩)
    go_ret
    exact ⟨rfl, hB⟩
  have d1 : decide ((200 : Int) < (l0 : Int)) = false := decide_eq_false (by omega)
  by_cases b4 : p < 0
  · have d4 : decide (p < 0) = true := decide_eq_true b4
    clear hbig b1
    go_enter Try.func4, Try.ntmps4
    go_wp2_with (go_at_call 8; refine (wakes_any _).mono ?_; rintro e w2 ⟨rfl, hB⟩)
    go_ret
    exact ⟨rfl, hB⟩
  have d4 : decide (p < 0) = false := decide_eq_false b4
  have b5 : 32 < p := by omega
  have d5 : decide (32 < p) = true := decide_eq_true b5
  clear hbig b1
  go_enter Try.func4, Try.ntmps4
  go_wp2_with (go_at_call 8; refine (wakes_any _).mono ?_; rintro e w2 ⟨rfl, hB⟩)
  go_ret
  exact ⟨rfl, hB⟩

set_option maxRecDepth 100000 in
set_option maxHeartbeats 8000000 in
theorem RsRight_some (v0 v2 : Value) (data ys : List UInt8) (p : Nat) (w : World) (hP : Sl eB w.heap.size w v0 data) (hY : Sl eB w.heap.size w v2 ys) (hd : data.length ≤ 200) (hp : p ≤ 32) :
    Calls Try.prog 4 #[v0, .int .i64 p, v2] w fun e w' => e = .returned (.bool true) ∧ Below w.heap.size w w' := by
  obtain ⟨A0, c0, rfl⟩ := hP.len
  obtain ⟨A2, c2, rfl⟩ := hY.len
  have d1 : decide ((200 : Int) < (data.length : Int)) = false := decide_eq_false (by omega)
  have d4 : decide ((p : Int) < 0) = false := decide_eq_false (by omega)
  have d5 : decide (32 < (p : Int)) = false := decide_eq_false (by omega)
  have hE := Encode_yes (.slice A0 data.length c0) data p (by omega) w hP
  have hW := fun w h => Word_yes (.slice A0 data.length c0) data p (by omega) w h
  have hlr := restL_length p data
  go_enter Try.func4, Try.ntmps4
  go_wp2_with fail
  go_at_call 12
  refine hE.mono ?_
  rintro e w1 ⟨vb, rfl, hvb, hB1⟩
  obtain ⟨Ab, cb, rfl⟩ := hvb.len
  have hP1 := hP.next hB1
  go_wp2_with fail
  go_at_call 14
  refine (hW w1 hP1).mono ?_
  rintro e w2 ⟨vw, rfl, hvw, hB2⟩
  have hvb2 := hvb.next hB2
  have hP2 := hP1.next hB2
  have hY2 := (hY.next hB1).next hB2
  have hBw := below_trans hB1 hB2
  have hlw : (data ++ restL p data).length = data.length + p := by rw [List.length_append, hlr]
  have hws := hvw.sl
  obtain ⟨Aw, cw, rfl⟩ := hws.len
  have hs1 := hws.upto (p := data.length) (by omega)
  rw [List.take_left' rfl] at hs1
  have hcw : (data ++ restL p data).length ≤ cw := by obtain ⟨_, _, e, h, _⟩ := hws; injection e with x1 x2 x3; omega
  have hA0 : Aw = none → cw = 0 := by
    intro h
    subst h
    rcases hvw.2 with ⟨e, _⟩ | ⟨g, cap, cs, e, _⟩
    · injection e with x1 x2 x3
    · cases e
  obtain ⟨As, hsl, hAs⟩ := slice_from Aw (data ++ restL p data).length cw data.length (by omega) hcw hA0
  have hs2 := hws.from_ (p := data.length) (by omega) As hAs
  rw [List.drop_left' rfl] at hs2
  have hri := fun w h => Right_yes (.slice Aw (data ++ restL p data).length cw) (data ++ restL p data) p (by omega) (by omega) w h
  rw [(right_iff _ _).2 (by rw [hlw]; exact rig_word data p)] at hri
  have e1 : IntKind.i64.wrap ((data.length : Int) + (p : Int)) = (data.length : Int) + (p : Int) := IntWalk.i64_in _ (by omega)
  obtain ⟨R, hR⟩ : ∃ R, restL p data = R := ⟨_, rfl⟩
  have hrig : Rig (C (data ++ R)) (data.length + p) p := by rw [← hR]; exact rig_word data p
  rw [hR] at hvb2 hlr hws hlw hcw hs2 hsl hri hvw
  rw [hlw] at hws hcw hs2 hsl hri
  rw [Nat.add_sub_cancel_left] at hs2 hsl
  have hvw' : Own8 w1.heap.size w2 (.slice Aw (data.length + p) cw) (data ++ R) := by rw [← hlw, ← hR]; rw [hR]; exact hvw
  rw [hR, hlw]
  rw [hlr] at hvb2
  have hcw1 : (data.length : Int) ≤ (cw : Int) := by omega
  have hcw2 : data.length ≤ cw := by omega
  clear hE hW hvb hvw hB2 hP1 hP hA0 hAs hR
  have hY0 := hY
  clear hY
  go_wp2_with fail
  go_at_call 11
  refine (same_eq _ _ _ _ _ hs1 hP2).mono ?_
  rintro e w' ⟨rfl, rfl⟩
  go_wp2_with fail
  go_at_call 11
  refine (same_eq _ _ _ _ _ hs2 hvb2).mono ?_
  rintro e w' ⟨rfl, rfl⟩
  go_wp2_with fail
  go_at_call 18
  refine (hri w2 hws).mono ?_
  rintro e w3 ⟨rfl, hB3⟩
  have hBw3 := below_trans hBw hB3
  have hws3 := hws.next hB3
  clear hs1 hs2 hvb2 hP2 hY2 hsl hcw1 hcw2 e1
  go_wp2_with fail
  by_cases h0 : data.length + p = 0
  · have dp : decide ((0 : Int) < (p : Int)) = false := decide_eq_false (by omega)
    have dp2 : ¬ 0 < p := by omega
    clear hvw' h0 hY0
    refine wp_loop_rounds 1 ?_
    unfold Code.rounds
    go_wp2_with fail
    go_at_call 18
    refine (hri w3 hws3).mono ?_
    rintro e w4 ⟨rfl, hB4⟩
    go_wp2_with fail
    go_at_call 8
    refine (wakes_any _).mono ?_
    rintro e wz ⟨rfl, hBz⟩
    go_wp2
    go_ret
    exact ⟨rfl, below_trans (below_trans hBw3 hB4) hBz⟩
  · obtain ⟨g, cap, cs, e, hBg, hr, hsz, hle, hget⟩ := own_open hvw' (by omega)
    injection e with x1 x2 x3
    subst x1
    subst x3
    clear x2
    rw [hlw] at hget hle
    have hr3 := hr.below hB3 hr.lt
    have hgw : w.heap.size ≤ g := by have := hB1.size; omega
    have hgl := hr3.lt
    have hfin : ∀ k cs W, k ≤ p → k ≤ ys.length → Rowed W g 5 cs → cs.size = cw → (∀ j, j < data.length + p → cs[j]? = some (eB (FR (C (data ++ R)) data.length (C ys) k j))) →
        Calls Try.prog 18 #[.slice (some ⟨g, 0, none⟩) (data.length + p) cw, .int .i64 p] W fun e w' => e = .returned (.bool (!(ys.take k).any (· ≠ 0))) ∧ Below W.heap.size W w' := by
      intro k cs W hk hy hR hz hc
      have h := Right_yes (.slice (some ⟨g, 0, none⟩) (data.length + p) cw) ((List.range (data.length + p)).map (FR (C (data ++ R)) data.length (C ys) k)) p (by simp) (by simp; omega) W (sl_of_cells _ hR hz hle hc)
      rwa [right_other _ _ _ (by omega) hrig ys k hk hy] at h
    have hry : ∀ k, k < ys.length → ∃ b off, A2 = some ⟨b, off, none⟩ ∧ b < w.heap.size ∧ w.cell? ⟨b, off + k, none⟩ = some (eB (C ys k)) := fun k hk => by
      obtain ⟨_, _, e, _, hcs⟩ := hY0
      cases e
      obtain ⟨b, off, e, hb, hcell⟩ := hcs (by omega)
      exact ⟨b, off, e, hb, by rw [C_get ys k hk]; exact hcell k _ (by simp [hk])⟩
    rw [← FR_zero (C (data ++ R)) data.length (C ys)] at hget
    have Hfin := Lib.hid hfin
    have Hry := Lib.hid hry
    have Hget := Lib.hid hget
    clear hvw' hri hws hws3 hrig hr hB1 hBw hY0 hlw h0 hlr hBg hfin hry hget
    go_loopw [11, 12] (fun o i wr => ∃ (k : Nat) (cs : Array Value), k ≤ p ∧ k ≤ ys.length ∧ i = .int .i64 k ∧ o = .bool ((ys.take k).any (· ≠ 0)) ∧ Rowed wr g 5 cs ∧ cs.size = cw ∧ (∀ j, j < data.length + p → cs[j]? = some (eB (FR (C (data ++ R)) data.length (C ys) k j))) ∧ Below w.heap.size w wr) (fun _ i _ => p - (intOf i).toNat)
    case atStart => exact ⟨0, cs, Nat.zero_le _, Nat.zero_le _, rfl, by simp, hr3, hsz, Hget.out, hBw3⟩
    case round =>
      have hfin := Hfin.out
      have hry := Hry.out
      clear hr3 hsz Hget hBw3 hgl Hfin Hry
      obtain ⟨k, cs, hk, hy, rfl, rfl, hr, hsz, hget, hBr⟩ := hrel
      by_cases hlt : k < p ∧ k < ys.length
      · obtain ⟨h1, h2⟩ := hlt
        have dk1 : decide ((k : Int) < (p : Int)) = true := decide_eq_true (by omega)
        have dk2 : decide ((k : Int) < (ys.length : Int)) = true := decide_eq_true (by omega)
        obtain ⟨b, off, rfl, hb, hcell⟩ := hry k h2
        have hyk := (hBr.cell (p := ⟨b, off + k, none⟩) hb).trans hcell
        have et : ys.take (k + 1) = ys.take k ++ [ys[k]] := List.take_succ_eq_append_getElem h2
        have hnext : (ys.take (k + 1)).any (· ≠ 0) = ((ys.take k).any (· ≠ 0) || decide (C ys k ≠ 0)) := by rw [et, List.any_append, C_get ys k h2]; simp
        have ck := hr.cell (data.length + k)
        rw [hget _ (by omega)] at ck
        have fk := hr.frozen (data.length + k)
        have hst := FR_step (C (data ++ R)) data.length (C ys) k
        have hx := u8x (FR (C (data ++ R)) data.length (C ys) k (data.length + k)) (C ys k)
        have hset := (rowed_drew hr).set (data.length + k) (eB (FR (C (data ++ R)) data.length (C ys) k (data.length + k) ^^^ C ys k))
        have hnew : ∀ j, j < data.length + p → (cs.setIfInBounds (data.length + k) (eB (FR (C (data ++ R)) data.length (C ys) k (data.length + k) ^^^ C ys k)))[j]? = some (eB (FR (C (data ++ R)) data.length (C ys) (k + 1) j)) := by
          intro j hj
          rw [← hst]
          dsimp only
          by_cases e : j = data.length + k
          · subst e; rw [Array.getElem?_setIfInBounds_self_of_lt (by omega), if_pos rfl]
          · rw [Array.getElem?_setIfInBounds_ne (fun h => e h.symm), if_neg e, hget j hj]
        have hsz2 : (cs.setIfInBounds (data.length + k) (eB (FR (C (data ++ R)) data.length (C ys) k (data.length + k) ^^^ C ys k))).size = cw := by simpa using hsz
        have hBs := (below_trans hBr (below_drewA wr)).setCell (p := ⟨g, data.length + k, none⟩) hgw (eB (FR (C (data ++ R)) data.length (C ys) k (data.length + k) ^^^ C ys k))
        have ckd : wr.drew.cell? ⟨g, data.length + k, none⟩ = some (eB (FR (C (data ++ R)) data.length (C ys) k (data.length + k))) := ck
        have fkd : wr.drew.frozen? ⟨g, data.length + k, none⟩ = false := fk
        generalize cs.setIfInBounds (data.length + k) (eB (FR (C (data ++ R)) data.length (C ys) k (data.length + k) ^^^ C ys k)) = cs2 at *
        clear hst hget hsz hr hcell hry hfin et
        obtain ⟨u, hu⟩ : ∃ u : UInt8, FR (C (data ++ R)) data.length (C ys) k (data.length + k) = u := ⟨_, rfl⟩
        obtain ⟨y, hyy⟩ : ∃ y : UInt8, C ys k = y := ⟨_, rfl⟩
        simp only [hu, hyy] at hx hset hBs ck ckd hyk hnext
        obtain ⟨z, hz⟩ : ∃ z : UInt8, u ^^^ y = z := ⟨_, rfl⟩
        rw [hz] at hx hset hBs
        have Hn := Lib.hid hnext
        clear hu hyy hz hnext
        obtain ⟨o, ho⟩ : ∃ o, (ys.take k).any (· ≠ 0) = o := ⟨_, rfl⟩
        rw [ho] at Hn
        rw [ho]
        clear ho
        have es : IntKind.i64.wrap ((data.length : Int) + (k : Int)) = ((data.length + k : Nat) : Int) := by rw [IntWalk.i64_in _ (by omega)]; omega
        have i1 : ((data.length + k : Nat) : Int) < ((data.length + p : Nat) : Int) := by omega
        have i2 : (0 : Int) ≤ ((data.length + k : Nat) : Int) := by omega
        have i3 : data.length + k < data.length + p := by omega
        have hk1 : k + 1 ≤ p := by omega
        have hk2 : k + 1 ≤ ys.length := by omega
        have hki : (k : Int) < (ys.length : Int) := by omega
        generalize hnk : data.length + k = nk at *
        clear hnk
        generalize data.length + p = N at *
        have Hnew := Lib.hid hnew
        clear hnew
        cases o with
        | true =>
          have Ho := Lib.hid (show (ys.take (k + 1)).any (· ≠ 0) = true by rw [Hn.out]; rfl)
          clear Hn
          go_wp2_with fail
          go_still_tail 18, (by kernel_rfl)
          change wpList _ _ _ _ _ wr.drew
          generalize wr.drew = wrd at *
          go_wp2_with fail
          obtain ⟨w5, hw5⟩ : ∃ w3, wrd.setCell ⟨g, nk, none⟩ (Value.int .u8 (z.toNat : Int)) = w3 := ⟨_, rfl⟩
          have hr5 : Rowed w5 g 5 cs2 := by rw [← hw5]; exact hset
          have hB5 : Below w.heap.size w w5 := by rw [← hw5]; exact hBs
          rw [hw5]
          clear hw5 hset hBs ck ckd hyk hx fk fkd
          try go_wp2_with fail
          go_roundw
          case rel => exact ⟨k + 1, cs2, hk1, hk2, by go_num, by rw [Ho.out], hr5, hsz2, Hnew.out, hB5⟩
          case measure => simp [intOf]; omega
        | false =>
          by_cases hy0 : y = 0
          · have Ho := Lib.hid (show (ys.take (k + 1)).any (· ≠ 0) = false by rw [Hn.out, decide_eq_false (by simpa using hy0)]; rfl)
            have hz0 := beq_zero y hy0
            have hz1 : ((y.toNat : Int) != 0) = false := by rw [bne, hz0]; rfl
            have hz2 : y.toNat = 0 := by rw [hy0]; rfl
            have hx0 : bits .xor .u8 (u.toNat : Int) 0 = (z.toNat : Int) := by rw [← hx, hz2]; rfl
            clear Hn hy0
            go_wp2_with fail
            go_still_tail 18, (by kernel_rfl)
            change wpList _ _ _ _ _ wr.drew
            generalize wr.drew = wrd at *
            go_wp2_with fail
            obtain ⟨w5, hw5⟩ : ∃ w3, wrd.setCell ⟨g, nk, none⟩ (Value.int .u8 (z.toNat : Int)) = w3 := ⟨_, rfl⟩
            have hr5 : Rowed w5 g 5 cs2 := by rw [← hw5]; exact hset
            have hB5 : Below w.heap.size w w5 := by rw [← hw5]; exact hBs
            rw [hw5]
            clear hw5 hset hBs ck ckd hyk hx fk fkd
            try go_wp2_with fail
            go_roundw
            case rel => exact ⟨k + 1, cs2, hk1, hk2, by go_num, by rw [Ho.out], hr5, hsz2, Hnew.out, hB5⟩
            case measure => simp [intOf]; omega
          · have Ho := Lib.hid (show (ys.take (k + 1)).any (· ≠ 0) = true by rw [Hn.out, decide_eq_true hy0]; rfl)
            have hz0 := beq_some y hy0
            have hz1 : ((y.toNat : Int) != 0) = true := by rw [bne, hz0]; rfl
            have hz2 : ¬ y.toNat = 0 := fun h => hy0 (UInt8.toNat_inj.1 h)
            clear Hn hy0
            go_wp2_with fail
            go_still_tail 18, (by kernel_rfl)
            change wpList _ _ _ _ _ wr.drew
            generalize wr.drew = wrd at *
            go_wp2_with fail
            obtain ⟨w5, hw5⟩ : ∃ w3, wrd.setCell ⟨g, nk, none⟩ (Value.int .u8 (z.toNat : Int)) = w3 := ⟨_, rfl⟩
            have hr5 : Rowed w5 g 5 cs2 := by rw [← hw5]; exact hset
            have hB5 : Below w.heap.size w w5 := by rw [← hw5]; exact hBs
            rw [hw5]
            clear hw5 hset hBs ck ckd hyk hx fk fkd
            try go_wp2_with fail
            go_roundw
            case rel => exact ⟨k + 1, cs2, hk1, hk2, by go_num, by rw [Ho.out], hr5, hsz2, Hnew.out, hB5⟩
            case measure => simp [intOf]; omega
      · have hend : k = p ∨ k = ys.length := by omega
        have he := hfin k cs wr hk hy hr hsz hget
        generalize (ys.take k).any (· ≠ 0) = o at *
        clear hfin hry hget hr hsz
        by_cases hkp : k < p
        · have dk1 : decide ((k : Int) < (p : Int)) = true := decide_eq_true (by omega)
          have dk2 : decide ((k : Int) < (ys.length : Int)) = false := decide_eq_false (by omega)
          have dk3 : ¬ k < ys.length := by omega
          clear hend hlt
          go_wp2_with fail
          go_at_call 18
          refine he.mono ?_
          rintro e w4 ⟨rfl, hB4⟩
          have hB5 := below_trans hBr hB4
          clear he hBr hB4
          cases o
          all_goals
            go_wp2_with fail
            go_at_call 8
            refine (wakes_any _).mono ?_
            rintro e wz ⟨rfl, hBz⟩
            go_wp2
            go_ret
            exact ⟨rfl, below_trans hB5 hBz⟩
        · have dk1 : decide ((k : Int) < (p : Int)) = false := decide_eq_false (by omega)
          clear hend hlt
          go_wp2_with fail
          go_at_call 18
          refine he.mono ?_
          rintro e w4 ⟨rfl, hB4⟩
          have hB5 := below_trans hBr hB4
          clear he hBr hB4
          cases o
          all_goals
            go_wp2_with fail
            go_at_call 8
            refine (wakes_any _).mono ?_
            rintro e wz ⟨rfl, hBz⟩
            go_wp2
            go_ret
            exact ⟨rfl, below_trans hB5 hBz⟩

theorem RsRight_any (v0 v2 : Value) (data ys : List UInt8) (p : Int) (w : World) (hP : Sl eB w.heap.size w v0 data) (hY : Sl eB w.heap.size w v2 ys) :
    Calls Try.prog 4 #[v0, .int .i64 p, v2] w fun e w' => e = .returned (.bool true) ∧ Below w.heap.size w w' := by
  by_cases hbig : 200 < data.length ∨ p < 0 ∨ 32 < p
  · obtain ⟨A0, c0, rfl⟩ := hP.len
    obtain ⟨A1, c1, rfl⟩ := hY.len
    exact RsRight_big A0 A1 _ c0 _ c1 p w hbig
  · obtain ⟨m, rfl⟩ : ∃ m : Nat, p = m := ⟨p.toNat, by omega⟩
    exact RsRight_some v0 v2 data ys m w hP hY (by omega) (by omega)
end Go.Proofs.Ytkldapdebjlfmaa
