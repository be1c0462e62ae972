import Derived.Test.YtcngnjkpnmpcpaaDoorPcKZ
namespace Go.Proofs.YtcngnjkpnmpcpaaDoor
open Go.RowKit Go.Shelf
attribute [local go_sem] Oper.semAt_some run_store_func
set_option maxRecDepth 100000 in
set_option maxHeartbeats 8000000 in
theorem Tells_main (v0 : Value) (L : List Pr) (n : Int) (sd : Nat) (s r : List UInt8) (hsd : sd < 18446744073709551616) (hn : n ≤ 4) (hs : s.length ≤ 200) (hr : r.length ≤ 200) (w : World) (h0 : PrsIn w.heap.size w v0 L) (hT : Tab w) (hg : gr20 L = false) :
    Calls Tryd.prog 3 #[v0, .int .i64 n, .int .u64 sd, sV s, sV r] w fun e w' => e = .returned (.bool true) ∧ Below w.heap.size w w' := by
  have h9 := gr20_no hg
  have g0 := great_any v0 L w h0
  rw [hg] at g0
  have hdr : Tryd.prog.follows .mixedOrders = true := by kernel_rfl
  have HLib := Lib.hid (fun W (h : Below w.heap.size w W) => Library_any n sd hsd W (hT.below h))
  have HRLib := Lib.hid (fun W => RLibraryP_any n sd hsd W)
  have HBg := Lib.hid (fun W (h : Below w.heap.size w W) => Begins_any v0 L r (by omega) W (h0.next h))
  have HRBg := Lib.hid (fun W (h : Below w.heap.size w W) => RBeginsP_any v0 L r (by omega) W (h0.next h))
  have HAl := Lib.hid (fun W (h : Below w.heap.size w W) => All_any v0 L (by omega) W (h0.next h))
  have HRAl := Lib.hid (fun W (h : Below w.heap.size w W) => RAllP_any v0 L (by omega) W (h0.next h))
  have HCh := Lib.hid (fun W (h : Below w.heap.size w W) => Check_any v0 L (by omega) W (hT.below h) (h0.next h))
  have HRCh := Lib.hid (fun W (h : Below w.heap.size w W) => RCheckP_any v0 L W (h0.next h))
  have HLe := Lib.hid (fun W (h : Below w.heap.size w W) => Least_any v0 L (by omega) W (h0.next h))
  have HRLe := Lib.hid (fun W (h : Below w.heap.size w W) => RLeastP_any v0 L (by omega) W (h0.next h))
  have HOne := Lib.hid (fun W (h : Below w.heap.size w W) => One_any s W (hT.below h))
  have HROne := Lib.hid (fun W => rOne_any s W)
  have HWk := Lib.hid (fun W (h : Below w.heap.size w W) => wakes_any W (hT.below h))
  have HPl := Lib.hid (show (libP n sd).length ≤ 1000 from by
   unfold libP
   split
   · rename_i h
     have hlt : (libG (2 * n.toNat) sd).length = 2 * n.toNat ∧ n ≤ 8 := by
      unfold libE at h
      split at h
      · rename_i h1
        split at h
        · rename_i h2; exact ⟨h2, h1.2⟩
        · cases h
      · cases h
     rw [(allP_pairs _ _ hlt.1).2]
     omega
   · simp)
  have hl2 : (allP L).length ≤ 18 := by rw [allP_len]; omega
  obtain ⟨A, c, rfl⟩ := h0.len
  have dn : decide ((4 : Int) < n) = false := decide_eq_false (by omega)
  have ds : decide ((200 : Int) < (s.length : Int)) = false := decide_eq_false (by omega)
  have dr : decide ((200 : Int) < (r.length : Int)) = false := decide_eq_false (by omega)
  generalize begR L r = bR at *
  generalize begK L r = bK at *
  generalize chkE L = E at *
  generalize leaA (allP L) (allP L).length = z at *
  generalize oneG s = o at *
  generalize libE n sd = LE at *
  generalize libP n sd = LP at *
  generalize allP L = all at *
  clear h0 hT hg h9 hn hs hr hsd
  go_enter Tryd.func3, Tryd.ntmps3
  go_wp2_with fail
  go_at_call 8
  refine g0.mono ?_
  rintro e w' ⟨rfl, rfl⟩
  clear g0
  have q := HLib.out w (Below.refl _ _)
  go_wp2_with fail
  go_at_call 10
  refine q.mono ?_
  rintro e w1 ⟨va, rfl, ha, hB1⟩
  clear q
  have q := HRLib.out w1
  go_wp2_with fail
  go_at_call 11
  refine q.mono ?_
  rintro e w2 ⟨vb, rfl, hb, hB2⟩
  have ha2 := ha.next hB2
  have hBt2 := below_trans hB1 hB2
  clear q ha hB1 hB2
  have q := HBg.out w2 hBt2
  go_wp2_with fail
  go_at_call 12
  refine q.mono ?_
  rintro e w3 ⟨rfl, hB3⟩
  have ha3 := ha2.next hB3
  have hb3 := hb.next hB3
  have hBt3 := below_trans hBt2 hB3
  clear q ha2 hb hB3 hBt2
  have q := HRBg.out w3 hBt3
  go_wp2_with fail
  go_at_call 13
  refine q.mono ?_
  rintro e w4 ⟨rfl, hB4⟩
  have ha4 := ha3.next hB4
  have hb4 := hb3.next hB4
  have hBt4 := below_trans hBt3 hB4
  clear q ha3 hb3 hB4 hBt3
  have q := HAl.out w4 hBt4
  go_wp2_with fail
  go_at_call 14
  refine q.mono ?_
  rintro e w5 ⟨u1, rfl, hown1, hB5⟩
  have ha5 := ha4.next hB5
  have hb5 := hb4.next hB5
  have hBt5 := below_trans hBt4 hB5
  clear q ha4 hb4 hB5 hBt4
  have q := HRAl.out w5 hBt5
  go_wp2_with fail
  go_at_call 15
  refine q.mono ?_
  rintro e w6 ⟨u2, rfl, hown2, hB6⟩
  have hown3 := own_below hown1 hB6
  have ha6 := ha5.next hB6
  have hb6 := hb5.next hB6
  have hBt6 := below_trans hBt5 hB6
  clear q ha5 hb5 hB6 hBt5 hown1
  obtain ⟨A1, c1, e, -, hc1⟩ := Sl.of_own hown3
  subst e
  obtain ⟨A2, c2, e, -, hc2⟩ := Sl.of_own hown2
  subst e
  have HC1 := Lib.hid hc1
  have HC2 := Lib.hid hc2
  have HL := Lib.hid hl2
  clear hc1 hc2 hown2 hown3 hl2
  have q := RSameP_any va vb LP HPl.out w6 ha6 hb6
  go_wp2_with fail
  go_at_call 16
  refine q.mono ?_
  rintro e w7 ⟨rfl, hB7⟩
  have hBt7 := below_trans hBt6 hB7
  clear q ha6 hb6 hBt6
  have q := HCh.out w7 hBt7
  go_wp2_with fail
  go_at_call 17
  refine q.mono ?_
  rintro e w8 ⟨rfl, hB8⟩
  have hBt8 := below_trans hBt7 hB8
  have hBl8 := below_trans hB7 hB8
  clear q hB7 hB8 hBt7
  have q := HRCh.out w8 hBt8
  go_wp2_with fail
  go_at_call 18
  refine q.mono ?_
  rintro e w9 ⟨rfl, hB9⟩
  have hBt9 := below_trans hBt8 hB9
  have hBl9 := below_trans hBl8 hB9
  clear q hB9 hBt8 hBl8
  have q := HLe.out w9 hBt9
  go_wp2_with fail
  go_at_call 19
  refine q.mono ?_
  rintro e w10 ⟨rfl, hB10⟩
  have hBt10 := below_trans hBt9 hB10
  have hBl10 := below_trans hBl9 hB10
  clear q hB10 hBt9 hBl9
  have q := HRLe.out w10 hBt10
  go_wp2_with fail
  go_at_call 20
  refine q.mono ?_
  rintro e w11 ⟨rfl, hB11⟩
  have hBt11 := below_trans hBt10 hB11
  have hBl11 := below_trans hBl10 hB11
  clear q hB11 hBt10 hBl10
  go_wp2_with fail
  go_loopw [21] (fun i wr => ∃ k : Nat, k ≤ all.length ∧ i = .int .i64 k ∧ Below w6.heap.size w6 wr ∧ Below w.heap.size w wr) (fun i _ => all.length - (RowKit.intOf i).toNat)
  case atStart => exact ⟨0, Nat.zero_le _, rfl, hBl11, hBt11⟩
  case round =>
   obtain ⟨k, hk, rfl, hB, hBt⟩ := hrel
   by_cases hlt : k < all.length
   · obtain ⟨b, off, rfl, hb, hcell⟩ := HC1.out (by omega)
     obtain ⟨b', off', rfl, hb', hcell'⟩ := HC2.out (by omega)
     have hkl : (k : Int) < (all.length : Int) := by omega
     obtain ⟨x, hx⟩ : ∃ x, all[k] = x := ⟨_, rfl⟩
     have hx1 := hcell k x (by rw [List.getElem?_eq_getElem hlt, hx])
     have hx2 := hcell' k x (by rw [List.getElem?_eq_getElem hlt, hx])
     have hck : ∀ W, Below wr.heap.size wr W → W.cell? ⟨b, off + k, none⟩ = some (sV x) ∧ W.cell? ⟨b', off' + k, none⟩ = some (sV x) := fun W hW =>
      have h := hB.trans (hW.mono hB.size)
      ⟨(h.cell (p := ⟨b, off + k, none⟩) hb).trans hx1, (h.cell (p := ⟨b', off' + k, none⟩) hb').trans hx2⟩
     have hSd : Below wr.heap.size wr wr.drew := ⟨rfl, rfl, rfl, Nat.le_refl _, fun _ _ => rfl⟩
     have HB := Lib.hid hB
     have HBt := Lib.hid hBt
     have HK := Lib.hid hlt
     have hk9 : k ≤ 18 := by have := HL.out; omega
     clear hx1 hx2 hcell hcell' hx hlt hk hB hBt hBl11 hBt11
     go_wp2_with fail
     refine wp_region_det (Below wr.heap.size wr) [(113, .slice (some ⟨b, off, none⟩) all.length c1), (114, .int .i64 k), (115, .pointer (some ⟨b, off + k, none⟩)), (116, sV x), (117, .slice (some ⟨b', off', none⟩) all.length c2), (118, .int .i64 k), (119, .pointer (some ⟨b', off' + k, none⟩)), (120, sV x), (121, .bool false)]
       (by kernel_rfl) (by kernel_rfl) (by kernel_rfl) (by kernel_rfl) (by kernel_rfl) hSd ?ok1 ?fin1
     case ok1 =>
      intro A' hA'
      simp only [putAll, Act.put, List.setIfInBounds_toArray, List.set_cons_zero, List.set_cons_succ] at hA'
      subst hA'
      simp only [detAll]
      refine ⟨?_, ?_, ?_, ?_, ?_, ?_, ?_, ?_, ?_, trivial⟩
      all_goals
       intro w' hS'
       obtain ⟨cc1, cc2⟩ := hck w' hS'
       clear hck
       go_simp
       first
        | exact hS'
        | exact ⟨rfl, hS'⟩
        | done
     case fin1 =>
      intro A' hA' w20 hS6
      simp only [putAll, Act.put, List.setIfInBounds_toArray, List.set_cons_zero, List.set_cons_succ] at hA'
      subst hA'
      have HS6 := Lib.hid (HB.out.trans (hS6.mono HB.out.size))
      have HS7 := Lib.hid (HBt.out.trans (hS6.mono HBt.out.size))
      clear hck hSd hS6
      go_wp2_with fail
      go_roundw
      case rel => exact ⟨k + 1, HK.out, by go_num, HS6.out, HS7.out⟩
      case measure => have := HK.out; simp [RowKit.intOf]; omega
   · obtain rfl : k = all.length := by omega
     have h3 : ¬ (all.length : Int) < (all.length : Int) := by omega
     clear hlt hk HC1 HC2 hB hBl11 hBt11
     have q := HOne.out wr hBt
     go_wp2_with fail
     go_at_call 21
     refine q.mono ?_
     rintro e w12 ⟨rfl, hB12⟩
     have hBt12 := below_trans hBt hB12
     clear q hB12
     have q := HROne.out w12
     go_wp2_with fail
     go_at_call 22
     refine q.mono ?_
     rintro e w13 ⟨rfl, hB13⟩
     have hBt13 := below_trans hBt12 hB13
     clear q hB13
     have q := HWk.out w13 hBt13
     go_wp2_with fail
     go_at_call 9
     refine q.mono ?_
     rintro e w14 ⟨rfl, hB14⟩
     clear q
     go_wp2_with fail
     go_ret
     exact ⟨rfl, below_trans hBt13 hB14⟩
set_option maxRecDepth 100000 in
set_option maxHeartbeats 4000000 in
theorem PrimersTells_any (v0 : Value) (n : Int) (sd : Nat) (hsd : sd < 18446744073709551616) (s r : List UInt8) (L : List Pr) (w : World) (h0 : PrsIn w.heap.size w v0 L) (hT : Tab w) :
    Calls Tryd.prog 3 #[v0, .int .i64 n, .int .u64 sd, sV s, sV r] w fun e w' => e = .returned (.bool true) ∧ Below w.heap.size w w' := by
  by_cases hm : gr20 L = false ∧ n ≤ 4 ∧ s.length ≤ 200 ∧ r.length ≤ 200
  · exact Tells_main v0 L n sd s r hsd hm.2.1 hm.2.2.1 hm.2.2.2 w h0 hT hm.1
  · have g0 := great_any v0 L w h0
    have hWk := wakes_any w hT
    obtain ⟨A, c, rfl⟩ := h0.len
    cases hg : gr20 L with
    | true =>
      rw [hg] at g0
      clear h0 hT hm hg
      go_enter Tryd.func3, Tryd.ntmps3
      go_wp2_with fail
      go_at_call 8
      refine g0.mono ?_
      rintro e w1 ⟨rfl, rfl⟩
      clear g0
      go_wp2_with fail
      go_at_call 9
      refine hWk.mono ?_
      rintro e w2 ⟨rfl, hB⟩
      clear hWk
      go_wp2_with fail
      go_ret
      exact ⟨rfl, hB⟩
    | false =>
      rw [hg] at g0
      by_cases hn : n ≤ 4
      case neg =>
       have dn : decide ((4 : Int) < n) = true := decide_eq_true (by omega)
       have dn2 : (4 : Int) < n := by omega
       clear h0 hT hm hg hn
       go_enter Tryd.func3, Tryd.ntmps3
       go_wp2_with fail
       go_at_call 8
       refine g0.mono ?_
       rintro e w1 ⟨rfl, rfl⟩
       clear g0
       go_wp2_with fail
       go_at_call 9
       refine hWk.mono ?_
       rintro e w2 ⟨rfl, hB⟩
       clear hWk
       go_wp2_with fail
       go_ret
       exact ⟨rfl, hB⟩
      by_cases hs : s.length ≤ 200
      case neg =>
       have dn : decide ((4 : Int) < n) = false := decide_eq_false (by omega)
       have ds : decide ((200 : Int) < (s.length : Int)) = true := decide_eq_true (by omega)
       clear h0 hT hm hg hn hs
       go_enter Tryd.func3, Tryd.ntmps3
       go_wp2_with fail
       go_at_call 8
       refine g0.mono ?_
       rintro e w1 ⟨rfl, rfl⟩
       clear g0
       go_wp2_with fail
       go_at_call 9
       refine hWk.mono ?_
       rintro e w2 ⟨rfl, hB⟩
       clear hWk
       go_wp2_with fail
       go_ret
       exact ⟨rfl, hB⟩
      have hr : ¬ r.length ≤ 200 := fun h => hm ⟨hg, hn, hs, h⟩
      have dn : decide ((4 : Int) < n) = false := decide_eq_false (by omega)
      have ds : decide ((200 : Int) < (s.length : Int)) = false := decide_eq_false (by omega)
      have dr : decide ((200 : Int) < (r.length : Int)) = true := decide_eq_true (by omega)
      clear h0 hT hm hg hn hs hr
      go_enter Tryd.func3, Tryd.ntmps3
      go_wp2_with fail
      go_at_call 8
      refine g0.mono ?_
      rintro e w1 ⟨rfl, rfl⟩
      clear g0
      go_wp2_with fail
      go_at_call 9
      refine hWk.mono ?_
      rintro e w2 ⟨rfl, hB⟩
      clear hWk
      go_wp2_with fail
      go_ret
      exact ⟨rfl, hB⟩
end Go.Proofs.YtcngnjkpnmpcpaaDoor
