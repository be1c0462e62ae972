/- ClusterOrder, walked. (Seat s26.) -/
import Derived.Test.YtgblkcddhnigaaaDoorClN
import Derived.Test.YtgblkcddhnigaaaDoorClY
import Derived.Test.YtgblkcddhnigaaaDoorMM
namespace Go.Proofs.YtgblkcddhnigaaaDoor
open Go.RowKit Go.Shelf
attribute [local go_sem] Oper.semAt_some run_store_func

theorem place_in (at_ : Int) (n : Nat) (h : 0 < n) (hn : n ≤ 9000000000000000) : ∃ p : Nat, p < n ∧ (wrap64 (at_.tmod (n : Int) + n)).tmod (n : Int) = p := by
  have h1 : at_.tmod (n : Int) < (n : Int) := Int.tmod_lt_of_pos _ (by omega)
  have h2 : -(n : Int) < at_.tmod (n : Int) := Int.lt_tmod_of_pos _ (by omega)
  generalize at_.tmod (n : Int) = t at *
  rw [IntWalk.wrap64_in (t + n) (by omega), Int.tmod_eq_emod_of_nonneg (by omega)]
  have h3 := Int.emod_nonneg (t + n) (b := (n : Int)) (by omega)
  have h4 := Int.emod_lt_of_pos (t + n) (b := (n : Int)) (by omega)
  exact ⟨((t + n) % (n : Int)).toNat, by omega, by omega⟩
theorem idx_is (k p n N : Nat) (hN : N = n) (hk : k < n) (hp : p < N) (hn : n ≤ 40) : (wrap64 ((k : Int) + p)).tmod (N : Int) = (((k + p) % n : Nat) : Int) := by
  subst hN
  rw [IntWalk.wrap64_in _ (by omega), Int.tmod_eq_emod_of_nonneg (by omega), show (k : Int) + (p : Int) = ((k + p : Nat) : Int) by omega]
  rfl
/-- Rows that were there, or that lie in blocks of bytes of their own. -/
def EachR (N : Nat) (W : World) (vs : List RowC) : Prop := ∀ p ∈ vs, Sl eB N W (eC p) p.bs ∨ W.ownsRow N 5 1 (eC p) p.bs.length (p.bs.map eB)
theorem EachR.kept {N : Nat} {W W' : World} {vs : List RowC} (h : EachR N W vs) (hb : Below N W W') (hk : ∀ (k : Nat) (cs : Array Value), W.heap[k]? = some (.cells cs 5 (0, 0)) → W'.heap[k]? = some (.cells cs 5 (0, 0))) : EachR N W' vs := fun p hp => by
  rcases h p hp with h1 | h1
  · exact .inl (h1.below hb)
  · exact .inr (own_keepT h1 fun k cs _ ho _ => hk k cs ho)
theorem EachR.rows {N : Nat} {W : World} {v : Value} {vs : List RowC} (h : EachR N W vs) (hN : N ≤ W.heap.size) (hown : W.ownsRow N 34 1 v vs.length (vs.map eC)) : RowsIn W v vs := ⟨Sl.of_own hown, fun p hp => by
  rcases h p hp with h1 | h1
  · exact h1.more hN
  · exact Sl.of_own h1⟩
set_option maxRecDepth 100000 in
set_option maxHeartbeats 1000000 in
theorem COrder_great (v0 : Value) (z : Int) (ab : Nat) (rows : List RowC) (w : World) (h0 : RowsIn w v0 rows) (hT : Tab w) (e0 : gr6 rows = true) :
    Calls Tryd.prog 4 #[v0, .int .i64 z, .int .u64 ab] w fun e w' => e = .returned (.bool true) ∧ Below w.heap.size w w' := by
  have g0 := great_any v0 rows w h0
  have hw := wakes_any w hT
  obtain ⟨A, c, rfl, -⟩ := h0.some
  clear h0
  rw [e0] at g0
  clear e0
  go_enter Tryd.func4, Tryd.ntmps4
  go_wp2_with fail
  go_at_call 8
  refine g0.mono ?_
  rintro e w1 ⟨rfl, rfl⟩
  clear g0
  go_wp2_with fail
  go_at_call 9
  refine hw.mono ?_
  rintro e w2 ⟨rfl, hB⟩
  clear hw
  go_wp2_with fail
  go_ret
  exact ⟨rfl, hB⟩
set_option maxRecDepth 100000 in
set_option maxHeartbeats 4000000 in
theorem COrder_main (v0 : Value) (z : Int) (ab : Nat) (rows : List RowC) (w : World) (h0 : RowsIn w v0 rows) (hT : Tab w) (e0 : gr6 rows = false) :
    Calls Tryd.prog 4 #[v0, .int .i64 z, .int .u64 ab] w fun e w' => e = .returned (.bool true) ∧ Below w.heap.size w w' := by
  have g0 := great_any v0 rows w h0
  rw [e0] at g0
  obtain ⟨hlen, hl0⟩ := gr6_no e0
  obtain ⟨i0, hi, hz0, hz1, hz2⟩ := info_parts info_row
  obtain ⟨N, hN, hN0⟩ : ∃ N : Nat, (N : Int) = max (rows.length : Int) 1 ∧ 0 < N := ⟨max rows.length 1, by omega, by omega⟩
  have hNr : 0 < rows.length → N = rows.length := fun h => by omega
  obtain ⟨p, hp, hpe⟩ := place_in z N hN0 (by omega)
  obtain ⟨A, c, rfl, hA⟩ := h0.some
  have hbl : (bsL rows).length = rows.length := by simp [bsL]
  have HAT := Lib.hid (show ∀ b off, A = some ⟨b, off, none⟩ → ∀ k (hk : k < rows.length), w.cell? ⟨b, off + k, none⟩ = some (.slice rows[k].A rows[k].bs.length rows[k].c) from fun b off e k hk => (RowsIn.at (e ▸ h0) k hk).1)
  have H0 := Lib.hid h0
  have HT := Lib.hid hT
  have HL := Lib.hid hlen
  have H8 := Lib.hid (show ∀ k (hk : k < rows.length), rows[k].bs.length ≤ 200 from fun k hk => hl0 _ (List.getElem_mem hk))
  have HNr := Lib.hid hNr
  have Hp := Lib.hid hp
  have Hpe := Lib.hid hpe
  have hNz : ¬ (N : Int) = 0 := by omega
  have hN9 : N ≤ 41 := by omega
  have hmx : ∀ w, (Builtin.max_ #[3, 3] 3 #[.int .i64 rows.length, .int .i64 1]).run Tryd.prog w = .ok (.int .i64 N) w := fun w => by
    have h := run_max_i (P := Tryd.prog) #[3, 3] 3 (rows.length : Int) 1 w
    rw [hN]
    exact h
  have hmax2 : max (rows.length : Int) 1 = N := hN.symm
  clear hN e0 hlen hl0 h0 hT hNr hp hpe
  go_enter Tryd.func4, Tryd.ntmps4
  go_wp2_with fail
  go_at_call 8
  refine g0.mono ?_
  rintro e w1 ⟨rfl, rfl⟩
  clear g0
  have hpe2 := Hpe.out
  go_wp2_with fail
  clear hpe2 hmx hmax2
  go_loopw [8, 9] (fun t i wr => ∃ (k : Nat) (vs : List RowC), k ≤ rows.length ∧ vs.length = k ∧ i = .int .i64 k ∧ wr.ownsRow w.heap.size 34 1 t vs.length (vs.map eC) ∧ EachR w.heap.size wr vs ∧ (∀ p ∈ vs, p.bs.length ≤ 200) ∧ (bsL vs).map tuF = (List.range k).map (fun i => tuF (((bsL rows)[(i + p) % rows.length]?).getD [])) ∧ Below w.heap.size w wr) (fun _ i _ => rows.length - (RowKit.intOf i).toNat)
  case atStart => exact ⟨0, [], Nat.zero_le _, rfl, rfl, World.ownsRow_nil _ _ _ _, (fun p hp => by cases hp), (fun p hp => by cases hp), rfl, Below.refl _ _⟩
  case round =>
    obtain ⟨k, vs, hk, hvl, rfl, hrow, hE, h200, hmap, hB⟩ := hrel
    by_cases hlt : k < rows.length
    · have hNe := HNr.out (by omega)
      obtain ⟨b, off, rfl, hb⟩ := hA (by omega)
      have hqn : (k + p) % rows.length < rows.length := Nat.mod_lt _ (by omega)
      have Hqi := Lib.hid (idx_is k p rows.length N hNe hlt Hp.out HL.out)
      have hcx := (hB.cell (p := ⟨b, off + (k + p) % rows.length, none⟩) hb).trans (HAT.out b off rfl _ hqn)
      have hqI : (((k + p) % rows.length : Nat) : Int) < (rows.length : Int) := Int.ofNat_lt.2 hqn
      have hs8 := H8.out _ hqn
      have hsR0 : Sl eB w.heap.size w (.slice rows[(k + p) % rows.length].A rows[(k + p) % rows.length].bs.length rows[(k + p) % rows.length].c) rows[(k + p) % rows.length].bs := H0.out.2 _ (List.getElem_mem hqn)
      have hsR := hsR0.below hB
      have hget : ((bsL rows)[(k + p) % rows.length]?).getD [] = rows[(k + p) % rows.length].bs := by
        rw [List.getElem?_eq_getElem (by simpa [bsL] using hqn), Option.getD_some, bsL_get]
      have hRc := rRc_any _ rows[(k + p) % rows.length].bs (by omega) wr (hsR.more hB.size)
      have HM := Lib.hid (show ∀ q : RowC, tuF q.bs = tuF rows[(k + p) % rows.length].bs → (bsL (vs ++ [q])).map tuF = (List.range (k + 1)).map (fun i => tuF (((bsL rows)[(i + p) % rows.length]?).getD [])) from fun q hq => by
        rw [List.range_succ, List.map_append, List.map_singleton, hget, ← hmap, ← hq]
        simp [bsL])
      have Hk := Lib.hid hlt
      have hk9 : k ≤ 40 := by have := HL.out; omega
      have hkl : (k : Int) < (rows.length : Int) := by omega
      generalize rows[(k + p) % rows.length] = R at *
      generalize (k + p) % rows.length = q at *
      clear hlt hmap hqn hget hNe hsR0
      have hqi := Hqi.out
      go_wp2_with fail
      go_at_call 23
      refine hRc.mono ?_
      have HVL := Lib.hid hvl
      have HE := Lib.hid hE
      have H200 := Lib.hid h200
      have hBsz := hB.size
      have hq8 : R.bs.length ≤ 200 := hs8
      clear hvl hE h200 hqi hqI hRc hcx
      rintro e w2 ⟨hB2, ⟨hno, vr, rfl, hvr⟩ | ⟨hin, rfl⟩⟩
      · obtain ⟨A3, c3, rfl⟩ : ∃ A c, vr = .slice A (rcOf R.bs).length c := (Sl.of_own hvr).len
        have hrow2 := ownsRow_below hrow hB2
        have hB2N : Below w.heap.size wr w2 := hB2.mono hBsz
        have hBw2 := hB.trans hB2N
        have hbz2 : w.heap.size ≤ w2.heap.size := hBw2.size
        have Hno := Lib.hid hno
        clear hrow hno
        cases hbq : (bits .and .u64 ((ab : Int) / 2 ^ (k % 64)) 1 == 1) with
        | true =>
          have hbp : bits .and .u64 ((ab : Int) / 2 ^ (k % 64)) 1 = 1 := by simpa using hbq
          have hE2 : EachR w.heap.size w2 (vs ++ [⟨A3, c3, rcOf R.bs⟩]) := fun p hp => by
            rcases List.mem_append.1 hp with hp | hp
            · exact (HE.out.kept hB2N fun k cs ho => (hB2.block k (Array.getElem?_eq_some_iff.1 ho).1).trans ho) p hp
            · rw [List.mem_singleton.1 hp]
              exact .inr (own_low hvr hBsz)
          have HE2 := Lib.hid hE2
          clear hE2
          go_wp2_with (at_builtin; refine wpList_append_sl _ rfl (.tmp 57) (.tmp 59) _ rfl w.heap.size 34 i0 (.slice none 0 0) 24 Tryd.underlying22 hi hz0 hz1 hz2 rfl _ _ _ (hrow2.alloc _) rfl _ _ [⟨A3, c3, rcOf R.bs⟩] (Sl.new eC w2 [⟨A3, c3, rcOf R.bs⟩] #[eC ⟨A3, c3, rcOf R.bs⟩] 34 (0, 0) 1 1 rfl (Nat.le_refl _) rfl) rfl eC_one (by have := HVL.out; unfold maxLen; simp; omega) (by have := HVL.out; simp; omega) (by simp; omega) ?_; intro v' w3 hown' hgrow hat)
          have hB3 : Below w.heap.size w2 w3 := ((Below.refl _ w2).alloc hbz2 _).grown hgrow (by simp; omega) (fun q hq => ((hrow2.alloc (.cells #[eC ⟨A3, c3, rcOf R.bs⟩] 34)).lt q hq).1)
          have hE3 : EachR w.heap.size w3 (vs ++ [⟨A3, c3, rcOf R.bs⟩]) := HE2.out.kept hB3 fun k cs ho => by
            have hlt := (Array.getElem?_eq_some_iff.1 ho).1
            have h1 : (w2.alloc (.cells #[eC ⟨A3, c3, rcOf R.bs⟩] 34)).heap[k]? = some (.cells cs 5 (0, 0)) := (Below.heap_alloc w2 _ k hlt).trans ho
            refine (hgrow.block k (by simp; omega) fun e2 => ?_).trans h1
            obtain ⟨-, cs2, h2⟩ := own_tag (hrow2.alloc (.cells #[eC ⟨A3, c3, rcOf R.bs⟩] 34)) e2.symm
            rw [h1] at h2
            cases h2
          have h200' : ∀ p ∈ vs ++ [⟨A3, c3, rcOf R.bs⟩], p.bs.length ≤ 200 := fun p hp => by
            rcases List.mem_append.1 hp with hp | hp
            · exact H200.out p hp
            · rw [List.mem_singleton.1 hp]; show (rcOf R.bs).length ≤ 200; rw [rc_len]; exact hq8
          go_roundw
          case rel => exact ⟨k + 1, vs ++ [⟨A3, c3, rcOf R.bs⟩], Hk.out, by rw [List.length_append, HVL.out]; rfl, by go_num, by rw [List.length_append, List.map_append]; exact hown', hE3, h200', HM.out _ (tuF_rc Hno.out), hBw2.trans hB3⟩
          case measure => have := Hk.out; simp [RowKit.intOf]; omega

        | false =>
          have hbp : ¬ bits .and .u64 ((ab : Int) / 2 ^ (k % 64)) 1 = 1 := by simpa using hbq
          have hE2 : EachR w.heap.size w2 (vs ++ [⟨R.A, R.c, R.bs⟩]) := fun p hp => by
            rcases List.mem_append.1 hp with hp | hp
            · exact (HE.out.kept hB2N fun k cs ho => (hB2.block k (Array.getElem?_eq_some_iff.1 ho).1).trans ho) p hp
            · rw [List.mem_singleton.1 hp]
              exact .inl (hsR.below hB2N)
          have HE2 := Lib.hid hE2
          clear hE2
          go_wp2_with (at_builtin; refine wpList_append_sl _ rfl (.tmp 57) (.tmp 59) _ rfl w.heap.size 34 i0 (.slice none 0 0) 24 Tryd.underlying22 hi hz0 hz1 hz2 rfl _ _ _ (hrow2.alloc _) rfl _ _ [⟨R.A, R.c, R.bs⟩] (Sl.new eC w2 [⟨R.A, R.c, R.bs⟩] #[eC ⟨R.A, R.c, R.bs⟩] 34 (0, 0) 1 1 rfl (Nat.le_refl _) rfl) rfl eC_one (by have := HVL.out; unfold maxLen; simp; omega) (by have := HVL.out; simp; omega) (by simp; omega) ?_; intro v' w3 hown' hgrow hat)
          have hB3 : Below w.heap.size w2 w3 := ((Below.refl _ w2).alloc hbz2 _).grown hgrow (by simp; omega) (fun q hq => ((hrow2.alloc (.cells #[eC ⟨R.A, R.c, R.bs⟩] 34)).lt q hq).1)
          have hE3 : EachR w.heap.size w3 (vs ++ [⟨R.A, R.c, R.bs⟩]) := HE2.out.kept hB3 fun k cs ho => by
            have hlt := (Array.getElem?_eq_some_iff.1 ho).1
            have h1 : (w2.alloc (.cells #[eC ⟨R.A, R.c, R.bs⟩] 34)).heap[k]? = some (.cells cs 5 (0, 0)) := (Below.heap_alloc w2 _ k hlt).trans ho
            refine (hgrow.block k (by simp; omega) fun e2 => ?_).trans h1
            obtain ⟨-, cs2, h2⟩ := own_tag (hrow2.alloc (.cells #[eC ⟨R.A, R.c, R.bs⟩] 34)) e2.symm
            rw [h1] at h2
            cases h2
          have h200' : ∀ p ∈ vs ++ [⟨R.A, R.c, R.bs⟩], p.bs.length ≤ 200 := fun p hp => by
            rcases List.mem_append.1 hp with hp | hp
            · exact H200.out p hp
            · rw [List.mem_singleton.1 hp]; exact hq8
          go_roundw
          case rel => exact ⟨k + 1, vs ++ [⟨R.A, R.c, R.bs⟩], Hk.out, by rw [List.length_append, HVL.out]; rfl, by go_num, by rw [List.length_append, List.map_append]; exact hown', hE3, h200', HM.out _ (rfl), hBw2.trans hB3⟩
          case measure => have := Hk.out; simp [RowKit.intOf]; omega

      · have hrow2 := ownsRow_below hrow hB2
        have hB2N : Below w.heap.size wr w2 := hB2.mono hBsz
        have hBw2 := hB.trans hB2N
        have hbz2 : w.heap.size ≤ w2.heap.size := hBw2.size
        clear hrow hin
        cases hbq : (bits .and .u64 ((ab : Int) / 2 ^ (k % 64)) 1 == 1) with
        | true =>
          have hbp : bits .and .u64 ((ab : Int) / 2 ^ (k % 64)) 1 = 1 := by simpa using hbq
          have hE2 : EachR w.heap.size w2 (vs ++ [⟨R.A, R.c, R.bs⟩]) := fun p hp => by
            rcases List.mem_append.1 hp with hp | hp
            · exact (HE.out.kept hB2N fun k cs ho => (hB2.block k (Array.getElem?_eq_some_iff.1 ho).1).trans ho) p hp
            · rw [List.mem_singleton.1 hp]
              exact .inl (hsR.below hB2N)
          have HE2 := Lib.hid hE2
          clear hE2
          go_wp2_with (at_builtin; refine wpList_append_sl _ rfl (.tmp 57) (.tmp 59) _ rfl w.heap.size 34 i0 (.slice none 0 0) 24 Tryd.underlying22 hi hz0 hz1 hz2 rfl _ _ _ (hrow2.alloc _) rfl _ _ [⟨R.A, R.c, R.bs⟩] (Sl.new eC w2 [⟨R.A, R.c, R.bs⟩] #[eC ⟨R.A, R.c, R.bs⟩] 34 (0, 0) 1 1 rfl (Nat.le_refl _) rfl) rfl eC_one (by have := HVL.out; unfold maxLen; simp; omega) (by have := HVL.out; simp; omega) (by simp; omega) ?_; intro v' w3 hown' hgrow hat)
          have hB3 : Below w.heap.size w2 w3 := ((Below.refl _ w2).alloc hbz2 _).grown hgrow (by simp; omega) (fun q hq => ((hrow2.alloc (.cells #[eC ⟨R.A, R.c, R.bs⟩] 34)).lt q hq).1)
          have hE3 : EachR w.heap.size w3 (vs ++ [⟨R.A, R.c, R.bs⟩]) := HE2.out.kept hB3 fun k cs ho => by
            have hlt := (Array.getElem?_eq_some_iff.1 ho).1
            have h1 : (w2.alloc (.cells #[eC ⟨R.A, R.c, R.bs⟩] 34)).heap[k]? = some (.cells cs 5 (0, 0)) := (Below.heap_alloc w2 _ k hlt).trans ho
            refine (hgrow.block k (by simp; omega) fun e2 => ?_).trans h1
            obtain ⟨-, cs2, h2⟩ := own_tag (hrow2.alloc (.cells #[eC ⟨R.A, R.c, R.bs⟩] 34)) e2.symm
            rw [h1] at h2
            cases h2
          have h200' : ∀ p ∈ vs ++ [⟨R.A, R.c, R.bs⟩], p.bs.length ≤ 200 := fun p hp => by
            rcases List.mem_append.1 hp with hp | hp
            · exact H200.out p hp
            · rw [List.mem_singleton.1 hp]; exact hq8
          go_roundw
          case rel => exact ⟨k + 1, vs ++ [⟨R.A, R.c, R.bs⟩], Hk.out, by rw [List.length_append, HVL.out]; rfl, by go_num, by rw [List.length_append, List.map_append]; exact hown', hE3, h200', HM.out _ (rfl), hBw2.trans hB3⟩
          case measure => have := Hk.out; simp [RowKit.intOf]; omega

        | false =>
          have hbp : ¬ bits .and .u64 ((ab : Int) / 2 ^ (k % 64)) 1 = 1 := by simpa using hbq
          have hE2 : EachR w.heap.size w2 (vs ++ [⟨R.A, R.c, R.bs⟩]) := fun p hp => by
            rcases List.mem_append.1 hp with hp | hp
            · exact (HE.out.kept hB2N fun k cs ho => (hB2.block k (Array.getElem?_eq_some_iff.1 ho).1).trans ho) p hp
            · rw [List.mem_singleton.1 hp]
              exact .inl (hsR.below hB2N)
          have HE2 := Lib.hid hE2
          clear hE2
          go_wp2_with (at_builtin; refine wpList_append_sl _ rfl (.tmp 57) (.tmp 59) _ rfl w.heap.size 34 i0 (.slice none 0 0) 24 Tryd.underlying22 hi hz0 hz1 hz2 rfl _ _ _ (hrow2.alloc _) rfl _ _ [⟨R.A, R.c, R.bs⟩] (Sl.new eC w2 [⟨R.A, R.c, R.bs⟩] #[eC ⟨R.A, R.c, R.bs⟩] 34 (0, 0) 1 1 rfl (Nat.le_refl _) rfl) rfl eC_one (by have := HVL.out; unfold maxLen; simp; omega) (by have := HVL.out; simp; omega) (by simp; omega) ?_; intro v' w3 hown' hgrow hat)
          have hB3 : Below w.heap.size w2 w3 := ((Below.refl _ w2).alloc hbz2 _).grown hgrow (by simp; omega) (fun q hq => ((hrow2.alloc (.cells #[eC ⟨R.A, R.c, R.bs⟩] 34)).lt q hq).1)
          have hE3 : EachR w.heap.size w3 (vs ++ [⟨R.A, R.c, R.bs⟩]) := HE2.out.kept hB3 fun k cs ho => by
            have hlt := (Array.getElem?_eq_some_iff.1 ho).1
            have h1 : (w2.alloc (.cells #[eC ⟨R.A, R.c, R.bs⟩] 34)).heap[k]? = some (.cells cs 5 (0, 0)) := (Below.heap_alloc w2 _ k hlt).trans ho
            refine (hgrow.block k (by simp; omega) fun e2 => ?_).trans h1
            obtain ⟨-, cs2, h2⟩ := own_tag (hrow2.alloc (.cells #[eC ⟨R.A, R.c, R.bs⟩] 34)) e2.symm
            rw [h1] at h2
            cases h2
          have h200' : ∀ p ∈ vs ++ [⟨R.A, R.c, R.bs⟩], p.bs.length ≤ 200 := fun p hp => by
            rcases List.mem_append.1 hp with hp | hp
            · exact H200.out p hp
            · rw [List.mem_singleton.1 hp]; exact hq8
          go_roundw
          case rel => exact ⟨k + 1, vs ++ [⟨R.A, R.c, R.bs⟩], Hk.out, by rw [List.length_append, HVL.out]; rfl, by go_num, by rw [List.length_append, List.map_append]; exact hown', hE3, h200', HM.out _ (rfl), hBw2.trans hB3⟩
          case measure => have := Hk.out; simp [RowKit.intOf]; omega

    · obtain rfl : k = rows.length := by omega
      have hrows : RowsIn wr u8 vs := hE.rows hB.size (by exact hrow)
      have hper : (tuL (bsL vs)).Perm (tuL (bsL rows)) := by
        have e1 : tuL (bsL vs) = tuL (rotG (bsL rows) p) := tuL_map (by rw [hmap]; unfold rotG; rw [hbl, List.map_map]; rfl)
        rw [e1]
        by_cases h0 : rows.length = 0
        · have : bsL rows = [] := List.eq_nil_of_length_eq_zero (by rw [hbl]; exact h0)
          rw [this]
          exact List.Perm.refl _
        · rw [tuL_filter, tuL_filter]
          exact (rotG_perm (bsL rows) p (by have := HNr.out (by omega); have := Hp.out; omega)).filterMap _
      have h0w := H0.out.next hB
      have hTw := HT.out.below hB
      have hA1 := CAll_any u8 vs (by have := HL.out; omega) (fun p hp => by have := h200 p hp; omega) wr hrows hTw
      have HA2 := Lib.hid (fun W h hT => CAll_any (.slice A rows.length c) rows (by have := HL.out; omega) (fun p hp => by obtain ⟨j, hj, rfl⟩ := List.getElem_of_mem hp; have := H8.out j hj; omega) W h hT)
      have HT1 := Lib.hid (fun W h hT => CTurned_any u8 vs (by have := HL.out; omega) (fun p hp => by have := h200 p hp; omega) W h hT)
      have HT2 := Lib.hid (fun W h hT => CTurned_any (.slice A rows.length c) rows (by have := HL.out; omega) (fun p hp => by obtain ⟨j, hj, rfl⟩ := List.getElem_of_mem hp; have := H8.out j hj; omega) W h hT)
      have HPer := Lib.hid hper
      clear hlt hk hvl hE h200 hmap hrow hper
      go_wp2_with fail
      go_at_call 18
      refine hA1.mono ?_
      rintro e w2 ⟨u2, cl2, rfl, hC2, ⟨M2, hM2, hR2, hg2⟩, hl2, hs2, hB2⟩
      have hrows := hrows.next hB2
      have h0w := h0w.next hB2
      have hTw := hTw.below hB2
      have hBw := below_trans hB hB2
      clear hA1 hB2
      go_wp2_with fail
      go_at_call 18
      refine (HA2.out _ h0w hTw).mono ?_
      rintro e w3 ⟨u3, cl3, rfl, hC3, ⟨M3, hM3, hR3, hg3⟩, hl3, hs3, hB3⟩
      have hrows := hrows.next hB3
      have h0w := h0w.next hB3
      have hTw := hTw.below hB3
      have hBw := below_trans hBw hB3
      have hbs : bs3 cl2 = bs3 cl3 := by rw [hg2, hg3, rise_one (hM2.trans (HPer.out.trans hM3.symm)) hR2 hR3]
      have hS := RSame_true u2 u3 cl2 cl3 w3 (hC2.r3.next hB3) hC3.r3 hbs (by rw [bs3_len] at hl2; omega) (fun c hc => by
        have h5 := sizeG_ge (bs3 cl2) (c := bsL c.rows) (List.mem_map.2 ⟨_, hc, rfl⟩)
        simp only [bsL, List.length_map] at h5
        omega)
      clear hC2 hC3 hg2 hg3 hM2 hM3 hR2 hR3 hl2 hl3 hs2 hs3 hbs hB3 HA2
      go_wp2_with fail
      go_at_call 16
      refine hS.mono ?_
      rintro e w4 ⟨rfl, nd, hw4⟩
      have hB4 : Below w3.heap.size w3 w4 := by rw [hw4]; exact below_drewN' _ _ _
      have hrows := hrows.next hB4
      have h0w := h0w.next hB4
      have hTw := hTw.below hB4
      have hBw := below_trans hBw hB4
      clear hS hw4 hB4
      go_wp2_with fail
      go_at_call 14
      refine (HT1.out _ hrows hTw).mono ?_
      rintro e w5 ⟨u5, r5, rfl, hr5, hp5, hri5, hB5⟩
      have h0w := h0w.next hB5
      have hTw := hTw.below hB5
      have hBw := below_trans hBw hB5
      clear hB5 hrows
      go_wp2_with fail
      go_at_call 14
      refine (HT2.out _ h0w hTw).mono ?_
      rintro e w6 ⟨u6, r6, rfl, hr6, hp6, hri6, hB6⟩
      have hTw := hTw.below hB6
      have hBw := below_trans hBw hB6
      have hbs : bsL r5 = bsL r6 := rise_one (hp5.trans (HPer.out.trans hp6.symm)) (rise_list hri5) (rise_list hri6)
      have hl5 : r5.length ≤ 60 := by
        have h7 := (hp5.trans HPer.out).length_eq
        have h8 : (tuL (bsL rows)).length ≤ rows.length := by
          unfold tuL bsL
          rw [List.length_map]
          refine Nat.le_trans (List.length_filter_le ..) ?_
          rw [List.length_map]
          exact Nat.le_refl _
        have := HL.out
        simp only [bsL, List.length_map] at h7 h8
        omega
      have hS := RRows_true u5 u6 r5 r6 w6 (hr5.next hB6) hr6 hbs (by omega)
      clear hr5 hr6 hp5 hp6 hri5 hri6 hB6 hbs hl5 h0w
      go_wp2_with fail
      go_at_call 11
      refine hS.mono ?_
      rintro e w7 ⟨rfl, nd, hw7⟩
      have hB7 : Below w6.heap.size w6 w7 := by rw [hw7]; exact below_drewN' _ _ _
      have hwk := wakes_any w7 (hTw.below hB7)
      have hBw := below_trans hBw hB7
      clear hS hw7 hB7
      go_wp2_with fail
      go_at_call 9
      refine hwk.mono ?_
      rintro e w8 ⟨rfl, hB8⟩
      clear hwk
      go_wp2_with fail
      go_ret
      exact ⟨rfl, below_trans hBw hB8⟩
theorem ClusterOrder_any (v0 : Value) (z : Int) (ab : Nat) (rows : List RowC) (w : World) (h0 : RowsIn w v0 rows) (hT : Tab w) :
    Calls Tryd.prog 4 #[v0, .int .i64 z, .int .u64 ab] w fun e w' => e = .returned (.bool true) ∧ Below w.heap.size w w' := by
  cases e0 : gr6 rows with
  | true => exact COrder_great v0 z ab rows w h0 hT e0
  | false => exact COrder_main v0 z ab rows w h0 hT e0
end Go.Proofs.YtgblkcddhnigaaaDoor
