import Derived.Test.YtcngnjkpnmpcpaaDoorPcIZ
namespace Go.Proofs.YtcngnjkpnmpcpaaDoor
open Go.RowKit Go.Shelf
attribute [local go_sem] Oper.semAt_some run_store_func
theorem libS_yes {m : Nat} {T : List (List UInt8)} {x : List UInt8} (h : T.length ≠ m) (ht : takeB T x = true) : libS m T x = T ++ [x] := by unfold libS; rw [if_neg h, if_pos ht]
theorem libS_no {m : Nat} {T : List (List UInt8)} {x : List UInt8} (ht : takeB T x = false) : libS m T x = T := by unfold libS; rw [ht]; split <;> simp
theorem lib_step (m s k : Nat) {T : List (List UInt8)} (h : (triL s k).foldl (libS m) [] = T) : (triL s (k + 1)).foldl (libS m) [] = libS m T (wordG (lcgN s (16 * k))) := by
 rw [triL_succ, List.foldl_append, h]
 rfl
theorem lib_is (m s k : Nat) {T : List (List UInt8)} (h : (triL s k).foldl (libS m) [] = T) (hk : k ≤ 20000) (he : T.length = m ∨ k = 20000) : libG m s = T := by
 unfold libG
 rcases he with he | he
 · subst h
   exact lib_pre (triL_pre s k 20000 hk) he
 · rw [← he]
   exact h
set_option maxRecDepth 100000 in
set_option maxHeartbeats 8000000 in
theorem RLib_main (n s : Nat) (hn : n ≤ 8) (hs : s < 18446744073709551616) (w : World) :
    Calls Tryd.prog 11 #[.int .i64 n, .int .u64 s] w fun e w' => ∃ v, e = .returned (.tuple #[v, .int .i64 (libE n s)]) ∧ PrsIn w'.heap.size w' v (libP n s) ∧ Below w.heap.size w w' := by
  obtain ⟨i0, hi, hz0, hz1, hz2⟩ := info_parts info_str
  have HLib := Lib.hid (fun k T h => lib_is (2 * n) s k (T := T) h)
  have HStep := Lib.hid (fun k T h => lib_step (2 * n) s k (T := T) h)
  have HLt := Lib.hid (fun k => lcgN_lt s k hs)
  have HAdd := Lib.hid (fun k => lcgN_add s (16 * k) 16)
  have HE := Lib.hid (show ∀ T, libG (2 * n) s = T → libE n s = (if T.length = 2 * n then 0 else 200) ∧ (T.length = 2 * n → libP n s = pairsOf T) ∧ (T.length ≠ 2 * n → libP n s = []) from fun T h => by
   have h1 : libE n s = (if T.length = 2 * n then 0 else 200) := by
    unfold libE
    rw [if_pos (by omega), show 2 * ((n : Nat) : Int).toNat = 2 * n by omega, h]
   refine ⟨h1, fun h2 => ?_, fun h2 => ?_⟩
   · unfold libP
     rw [h1, if_pos h2, if_pos rfl, show 2 * ((n : Nat) : Int).toNat = 2 * n by omega, h]
   · unfold libP
     rw [h1, if_neg h2, if_neg (by decide)])
  obtain ⟨m, hm⟩ : ∃ m, 2 * n = m := ⟨_, rfl⟩
  have hm16 : m ≤ 16 := by omega
  have hw2 : IntKind.i64.wrap (2 * (n : Int)) = (m : Int) := by rw [IntWalk.i64_in _ (by omega)]; omega
  have hw3 : wrap64 (2 * (n : Int)) = (m : Int) := by rw [IntWalk.wrap64_in _ (by omega)]; omega
  have hn0 : decide ((n : Int) < 0) = false := decide_eq_false (by omega)
  have hn8 : decide ((8 : Int) < (n : Int)) = false := decide_eq_false (by omega)
  have hn0' : ¬ (n : Int) < 0 := by omega
  rw [hm] at HLib HStep HE
  have HM := Lib.hid hm
  have HN := Lib.hid hn
  have HT0 := Lib.hid (show (triL s 0).foldl (libS m) [] = [] from rfl)
  have HL0 := Lib.hid (show lcgN s (16 * 0) = s from rfl)
  clear hm hs hn
  generalize libE n s = LE at *
  generalize libP n s = LP at *
  go_enter Tryd.func11, Tryd.ntmps11
  go_wp2_with fail
  go_loopw [1, 6, 7] (fun sd t i wr => ∃ k : Nat, k ≤ 20000 ∧ i = .int .i64 k ∧ sd = .int .u64 (lcgN s (16 * k) : Nat) ∧ Below w.heap.size w wr ∧ ∃ T, Hid ((triL s k).foldl (libS m) [] = T) ∧ T.length ≤ m ∧ wr.ownsRow w.heap.size 9 1 t T.length (T.map sV)) (fun _ _ i _ => 20000 - (RowKit.intOf i).toNat)
  case atStart => exact ⟨0, Nat.zero_le _, rfl, by rw [HL0.out], Below.refl _ _, [], HT0, Nat.zero_le _, World.ownsRow_nil _ _ _ _⟩
  case round =>
   obtain ⟨k, hk, rfl, rfl, hB, T, HT, hTm, hown⟩ := hrel
   obtain ⟨A, c, e, hc, hcs⟩ := Sl.of_own hown
   subst e
   have HC := Lib.hid hcs
   clear hcs hc
   by_cases hgo : k < 20000 ∧ T.length < m
   · have hk2 : (k : Int) < 20000 := by omega
     have hT2 : (T.length : Int) < (m : Int) := by omega
     have hTn : T.length ≠ m := by omega
     have HST := Lib.hid (HStep.out k T HT.out)
     have HA2 := Lib.hid (HAdd.out k)
     have hW := RWordP_any (lcgN s (16 * k)) (HLt.out (16 * k)) wr
     have hT9 : T.length ≤ 16 := by omega
     generalize wordG (lcgN s (16 * k)) = x at *
     generalize hl2 : lcgN (lcgN s (16 * k)) 16 = s2 at *
     generalize lcgN s (16 * k) = s1 at *
     have HK := Lib.hid hgo.1
     have HTM := Lib.hid hTm
     have hO := rOne_any x wr
     have HOW := Lib.hid hown
     have HB := Lib.hid hB
     clear hgo hk hl2 hown hB hTm
     go_wp2_with fail
     go_at_call 31
     refine hW.mono ?_
     rintro e w' ⟨rfl, rfl⟩
     clear hW
     cases ho : oneG x with
     | false =>
       rw [ho] at hO
       have HS2 := Lib.hid (show libS m T x = T from libS_no (by unfold takeB; rw [ho]; rfl))
       clear ho
       go_wp2_with fail
       go_at_call 22
       refine hO.mono ?_
       rintro e w2 ⟨rfl, hB2⟩
       have HB2 := Lib.hid hB2
       clear hO hB2
       go_wp2_with fail
       go_roundw
       case rel => exact ⟨k + 1, HK.out, by go_num, by rw [show 16 * (k + 1) = 16 * k + 16 by omega, HA2.out], below_trans HB.out HB2.out, T, Lib.hid (by rw [HST.out, HS2.out]), HTM.out, own_below HOW.out HB2.out⟩
       case measure => have := HK.out; simp [RowKit.intOf]; omega
     | true =>
       rw [ho] at hO
       have HTB := Lib.hid (show takeB T x = (T.all fun o => decide (5 ≤ dC x o)) from by unfold takeB; rw [ho]; rfl)
       clear ho
       go_wp2_with fail
       go_at_call 22
       refine hO.mono ?_
       rintro e w2 ⟨rfl, hB2⟩
       have HB2 := Lib.hid (below_trans HB.out hB2)
       have hown2 := own_below HOW.out hB2
       have hA := RApart_any _ T x _ w2 hown2 (by omega)
       have HO2 := Lib.hid hown2
       rw [← HTB.out] at hA
       clear hO hB2 hown2
       cases ht : takeB T x with
       | false =>
         rw [ht] at hA
         have HS2 := Lib.hid (show libS m T x = T from libS_no ht)
         clear ht
         go_wp2_with fail
         go_at_call 32
         refine hA.mono ?_
         rintro e w3 ⟨rfl, hB3⟩
         have HB3 := Lib.hid hB3
         clear hA hB3
         go_wp2_with fail
         go_roundw
         case rel => exact ⟨k + 1, HK.out, by go_num, by rw [show 16 * (k + 1) = 16 * k + 16 by omega, HA2.out], below_trans HB2.out HB3.out, T, Lib.hid (by rw [HST.out, HS2.out]), HTM.out, own_below HO2.out HB3.out⟩
         case measure => have := HK.out; simp [RowKit.intOf]; omega
       | true =>
         rw [ht] at hA
         have HS2 := Lib.hid (show libS m T x = T ++ [x] from libS_yes hTn ht)
         clear ht
         go_wp2_with fail
         go_at_call 32
         refine hA.mono ?_
         rintro e w3 ⟨rfl, hB3⟩
         have hown3 := own_below HO2.out hB3
         have HB3 := Lib.hid (below_trans HB2.out hB3)
         have hsz := HB3.out.size
         clear hA hB3
         go_wp2_with (at_builtin; refine wpList_append_own _ rfl _ _ 31 rfl w.heap.size 9 i0 _ 1 16 Tryd.underlying31 hi hz0 hz1 hz2 (by decide) (by decide) _ _ _ rfl (hown3.alloc _) ⟨w3.heap.size, 0, none⟩ 1 1 [sV x] rfl rfl (cell_one_new _ _ _) (by simp [Value.oneCell']) (by unfold maxLen; omega) (by omega) (by simp; omega) ?_; intro v' w4 hown' hgrow _)
         have HOX := Lib.hid (show w4.ownsRow w.heap.size 9 1 v' (T ++ [x]).length ((T ++ [x]).map sV) from by rw [List.map_append, List.length_append]; exact hown')
         have HB4 := Lib.hid (show Below w.heap.size w w4 from (HB3.out.alloc hsz _).grown hgrow (by simp; omega) fun k e => (hown3.lt k e).1)
         clear hown' hgrow hown3
         go_wp2_with fail
         go_roundw
         case rel => exact ⟨k + 1, HK.out, by go_num, by rw [show 16 * (k + 1) = 16 * k + 16 by omega, HA2.out], HB4.out, T ++ [x], Lib.hid (by rw [HST.out, HS2.out]), by rw [List.length_append]; simp; omega, HOX.out⟩
         case measure => have := HK.out; simp [RowKit.intOf]; omega
   · have HLB := Lib.hid (HE.out T (HLib.out k T HT.out hk (by omega)))
     have hT9 : T.length ≤ 16 := by omega
     have hex : ∀ g : Bool, decide ((k : Int) < 20000) = g → (g = true → decide ((T.length : Int) < (m : Int)) = false) := fun g h1 h2 => by
      subst h2
      exact decide_eq_false (by have := of_decide_eq_true h1; omega)
     by_cases hTl : T.length < m
     · obtain ⟨e1, -, e3⟩ := HLB.out
       rw [if_neg (by omega)] at e1
       have e3 := e3 (by omega)
       subst e1 e3
       have hk2 : ¬ (k : Int) < 20000 := by omega
       have hT2 : (T.length : Int) < (m : Int) := by omega
       have HB := Lib.hid hB
       clear hgo hk hTm hown hB hTl hex HLB
       go_wp2_with fail
       go_ret2
       exact ⟨_, rfl, ⟨none, 0, rfl, Nat.le_refl _, fun h => absurd h (by simp)⟩, HB.out⟩
     · obtain ⟨e1, e2, -⟩ := HLB.out
       have hTe : T.length = m := by omega
       rw [if_pos hTe] at e1
       have e2 := e2 hTe
       subst e1 e2
       have hT2 : ¬ (T.length : Int) < (m : Int) := by omega
       have HB := Lib.hid hB
       have HTE := Lib.hid hTe
       have hTn2 : T.length = 2 * n := by rw [hTe]; exact HM.out.symm
       have HPP := Lib.hid (allP_pairs n T hTn2)
       obtain ⟨j0, hpi, pz0, pz1, pz2⟩ := info_parts info_pr
       have hdr : Tryd.prog.follows .mixedOrders = true := by kernel_rfl
       have hn8b : n ≤ 8 := HN.out
       have hgk : (k : Int) < 20000 ∨ ¬ (k : Int) < 20000 := by omega
       clear hgo hk hTm hown hB hTl hex HLB
       rcases hgk with hgk | hgk
       all_goals
        go_wp2_with fail
        obtain ⟨w5, hw5⟩ : ∃ w5, w5 = wr := ⟨_, rfl⟩
        subst hw5
        go_loopw [10, 11] (fun t i wq => ∃ k : Nat, k ≤ n ∧ i = .int .i64 k ∧ Below w5.heap.size w5 wq ∧ wq.ownsRow w5.heap.size 46 2 t k ((T.take (2 * k)).map sV)) (fun _ i _ => n - (RowKit.intOf i).toNat)
        case atStart => exact ⟨0, Nat.zero_le _, rfl, Below.refl _ _, World.ownsRow_nil _ _ _ _⟩
        case round =>
         obtain ⟨p, hp, rfl, hBp, hov⟩ := hrel
         by_cases hlt : p < n
         · obtain ⟨b, off, rfl, hb, hcell⟩ := HC.out (by omega)
           have HTK := Lib.hid (show T.take (2 * (p + 1)) = T.take (2 * p) ++ [T[2 * p]'(by omega)] ++ [T[2 * p + 1]'(by omega)] from by
            rw [show 2 * (p + 1) = 2 * p + 1 + 1 by omega, List.take_succ_eq_append_getElem (by omega), List.take_succ_eq_append_getElem (by omega)])
           have hcx := hcell (2 * p) (T[2 * p]'(by omega)) (by rw [List.getElem?_eq_getElem])
           have hcy := hcell (2 * p + 1) (T[2 * p + 1]'(by omega)) (by rw [List.getElem?_eq_getElem])
           have q1 : IntKind.i64.wrap (2 * (p : Int)) = ((2 * p : Nat) : Int) := by rw [IntWalk.i64_in _ (by omega)]; omega
           have q2 : IntKind.i64.wrap (((2 * p : Nat) : Int) + 1) = ((2 * p + 1 : Nat) : Int) := by rw [IntWalk.i64_in _ (by omega)]; omega
           have q3 : wrap64 (2 * (p : Int)) = ((2 * p : Nat) : Int) := by rw [IntWalk.wrap64_in _ (by omega)]; omega
           have q4 : wrap64 (((2 * p : Nat) : Int) + 1) = ((2 * p + 1 : Nat) : Int) := by rw [IntWalk.wrap64_in _ (by omega)]; omega
           have hkl : (p : Int) < (n : Int) := by omega
           have hx1 : ((2 * p : Nat) : Int) < (T.length : Int) := by omega
           have hx2 : ((2 * p + 1 : Nat) : Int) < (T.length : Int) := by omega
           have Hk := Lib.hid hlt
           have hsz := hBp.size
           generalize T[2 * p]'(by omega) = x at *
           generalize T[2 * p + 1]'(by omega) = y at *
           generalize hm2 : 2 * p = q at *
           have hx4 : 0 ≤ (q : Int) + 1 ∧ (q : Int) + 1 < (T.length : Int) := by omega
           have hx1m : (q : Int) < (m : Int) := by omega
           have hx4m : (0 ≤ (q : Int) + 1 ∧ (q : Int) + 1 < (m : Int)) ∧ ((q + 1 : Nat) : Int) < (m : Int) := by omega
           have hx2m := hx4m.1
           have hx5m := hx4m.2
           have hx6m : (q : Int) + 1 < (m : Int) := hx4m.1.2
           have hbd : ∀ w, (Instr.build 46 #[(0, sV x), (1, sV y)]).run Tryd.prog w = .ok (.agg #[sV x, sV y]) w := fun _ => by kernel_rfl
           have hck : ∀ W, Below w5.heap.size wr W → W.cell? ⟨b, off + q, none⟩ = some (sV x) ∧ W.cell? ⟨b, off + (q + 1), none⟩ = some (sV y) := fun W hW =>
            have h := hBp.trans hW
            ⟨(h.cell (p := ⟨b, off + q, none⟩) hb).trans hcx, (h.cell (p := ⟨b, off + (q + 1), none⟩) hb).trans hcy⟩
           obtain ⟨cs, hcs⟩ : ∃ cs, (T.take q).map sV = cs := ⟨_, rfl⟩
           have HCS := Lib.hid (show (T.take (2 * (p + 1))).map sV = cs ++ [sV x, sV y] from by rw [HTK.out, List.map_append, List.map_append, hcs]; simp)
           rw [hcs] at hov
           have HOV := Lib.hid (show wr.ownsRow w5.heap.size 46 2 u10 p cs from hov)
           have HBp := Lib.hid hBp
           clear hcs HTK hcell hcx hcy hov hlt hp hm2 hBp
           go_wp2_with fail
           refine wp_region_ghostE (fun s => s == 10) (AlP w5 wr u10 p cs (sV x) (sV y)) (fun g => [(56, u10), (57, .slice (some ⟨b, off, none⟩) T.length c), (58, .int .i64 p), (59, .int .i64 (q : Nat)), (60, .pointer (some ⟨b, off + q, none⟩)), (61, sV x), (62, .slice (some ⟨b, off, none⟩) T.length c), (63, .int .i64 p), (64, .int .i64 (q : Nat)), (65, .int .i64 (q + 1 : Nat)), (66, .pointer (some ⟨b, off + (q + 1), none⟩)), (67, sV y), (68, .agg #[sV x, sV y]), (69, g 13), (70, g 14), (10, g 15)]) (fun j => if j = 15 then u10 else undef)
            (by kernel_rfl) (by kernel_rfl) (by kernel_rfl) (by kernel_rfl) (fun _ => by kernel_rfl) ?exB ?startB ?okB ?finB
           case exB =>
            intro s hs
            obtain rfl : s = 10 := eq_of_beq hs
            simp only [putAll, Act.put, List.setIfInBounds_toArray, List.set_cons_zero, List.set_cons_succ]
            rfl
           case startB =>
            intro D hD
            have e13 := hD 13 (by decide)
            have e14 := hD 14 (by decide)
            have e15 := hD 15 (by decide)
            refine ⟨⟨⟨rfl, rfl, rfl, Nat.le_refl _, fun _ _ => rfl⟩, hsz⟩, fun _ => HOV.out, ?_, ?_, fun _ => rfl, ?_, ?_, ?_⟩
            all_goals (intro h; simp [e13, e14, e15] at h)
           case okB =>
            intro T' hT
            simp only [putAll, Act.put, List.setIfInBounds_toArray, List.set_cons_zero, List.set_cons_succ] at hT
            simp only [geAll]
            refine ⟨?_, ?_, ?_, ?_, ?_, ?_, ?_, ?_, ?_, ?_, ?_, ?_, ?_, ?_, ?_, ?_, trivial⟩
            case refine_1 =>
             refine ge_same fun D g w' hD hdp hS => ?_
             have h15 := hS.at0 hD
             have hS2 := Lib.hid hS.op0
             rw [hT g, h15]
             clear hT hck hS hdp hD
             go_simp
             exact hS2.out
            case refine_14 =>
             refine ge_put rfl (fun g v => by rw [hT, hT]; rfl) fun D g w' hD hdp hS => ?_
             have hS2 := Lib.hid (hS.opX hD)
             rw [hT g]
             clear hT hck hS hdp
             go_simp
             exact hS2.out
            case refine_15 =>
             refine ge_put rfl (fun g v => by rw [hT, hT]; rfl) fun D g w' hD hdp hS => ?_
             have hds : D 0 = true ∧ D 13 = true := by simp [Region.binds] at hdp; simp [hdp]
             obtain ⟨r, hg11, hrq⟩ := hS.2.2.1 hds.2 hD
             have hcq : ∀ j u, [sV x, sV y][j]? = some u → w'.cell? ((⟨r, 0, none⟩ : Addr).add j) = some u := fun j u h => by
              have e : ((⟨r, 0, none⟩ : Addr).add j) = ⟨r, j, none⟩ := by unfold Addr.add; split <;> simp_all
              rw [e, hrq.cell]
              simpa using h
             refine wp_append_own w' (.tmp 56) (.tmp 69) _ rfl w5.heap.size 46 j0 _ 2 32 Tryd.underlying22 hpi pz0 pz1 pz2 (by decide) (by decide) u10 p cs (by rw [hT g]; rfl) (hS.2.1 hD) ⟨r, 0, none⟩ 1 1 [sV x, sV y] (by rw [hT g]; exact hg11) rfl hcq (by simp [Value.oneCell']) (by unfold maxLen; omega) (by omega) (Nat.le_trans hsz hS.1.1.size) ?_
             intro v' w2 hown hgr _
             exact ⟨v', rfl, hS.opY hD hds.2 hds.1 hown hgr⟩
            case refine_16 =>
             refine ge_put rfl (fun g v => by rw [hT, hT]; rfl) fun D g w' hD hdp hS => ?_
             have hds : D 14 = true := by simp [Region.binds] at hdp; simp [hdp]
             have hS2 := Lib.hid (hS.opZ hds)
             rw [hT g]
             clear hT hck hS hdp hD
             go_simp
             exact hS2.out
            case refine_2 =>
             refine ge_same fun D g w' hD hdp hS => ?_
             obtain ⟨cx1, cx2⟩ := hck w' hS.1.1
             have hS2 := Lib.hid (hS.same (i := 1) (by decide) (by decide) (by decide) (by decide))
             rw [hT g]
             clear hT hck hS hdp hD
             go_simp
             exact hS2.out
            case refine_3 =>
             refine ge_same fun D g w' hD hdp hS => ?_
             obtain ⟨cx1, cx2⟩ := hck w' hS.1.1
             have hS2 := Lib.hid (hS.same (i := 2) (by decide) (by decide) (by decide) (by decide))
             rw [hT g]
             clear hT hck hS hdp hD
             go_simp
             exact hS2.out
            case refine_4 =>
             refine ge_same fun D g w' hD hdp hS => ?_
             obtain ⟨cx1, cx2⟩ := hck w' hS.1.1
             have hS2 := Lib.hid (hS.same (i := 3) (by decide) (by decide) (by decide) (by decide))
             rw [hT g]
             clear hT hck hS hdp hD
             go_simp
             exact hS2.out
            case refine_5 =>
             refine ge_same fun D g w' hD hdp hS => ?_
             obtain ⟨cx1, cx2⟩ := hck w' hS.1.1
             have hS2 := Lib.hid (hS.same (i := 4) (by decide) (by decide) (by decide) (by decide))
             rw [hT g]
             clear hT hck hS hdp hD
             go_simp
             exact hS2.out
            case refine_6 =>
             refine ge_same fun D g w' hD hdp hS => ?_
             obtain ⟨cx1, cx2⟩ := hck w' hS.1.1
             have hS2 := Lib.hid (hS.same (i := 5) (by decide) (by decide) (by decide) (by decide))
             rw [hT g]
             clear hT hck hS hdp hD
             go_simp
             exact hS2.out
            case refine_7 =>
             refine ge_same fun D g w' hD hdp hS => ?_
             obtain ⟨cx1, cx2⟩ := hck w' hS.1.1
             have hS2 := Lib.hid (hS.same (i := 6) (by decide) (by decide) (by decide) (by decide))
             rw [hT g]
             clear hT hck hS hdp hD
             go_simp
             exact hS2.out
            case refine_8 =>
             refine ge_same fun D g w' hD hdp hS => ?_
             obtain ⟨cx1, cx2⟩ := hck w' hS.1.1
             have hS2 := Lib.hid (hS.same (i := 7) (by decide) (by decide) (by decide) (by decide))
             rw [hT g]
             clear hT hck hS hdp hD
             go_simp
             exact hS2.out
            case refine_9 =>
             refine ge_same fun D g w' hD hdp hS => ?_
             obtain ⟨cx1, cx2⟩ := hck w' hS.1.1
             have hS2 := Lib.hid (hS.same (i := 8) (by decide) (by decide) (by decide) (by decide))
             rw [hT g]
             clear hT hck hS hdp hD
             go_simp
             exact hS2.out
            case refine_10 =>
             refine ge_same fun D g w' hD hdp hS => ?_
             obtain ⟨cx1, cx2⟩ := hck w' hS.1.1
             have hS2 := Lib.hid (hS.same (i := 9) (by decide) (by decide) (by decide) (by decide))
             rw [hT g]
             clear hT hck hS hdp hD
             go_simp
             exact hS2.out
            case refine_11 =>
             refine ge_same fun D g w' hD hdp hS => ?_
             obtain ⟨cx1, cx2⟩ := hck w' hS.1.1
             have hS2 := Lib.hid (hS.same (i := 10) (by decide) (by decide) (by decide) (by decide))
             rw [hT g]
             clear hT hck hS hdp hD
             go_simp
             exact hS2.out
            case refine_12 =>
             refine ge_same fun D g w' hD hdp hS => ?_
             obtain ⟨cx1, cx2⟩ := hck w' hS.1.1
             have hS2 := Lib.hid (hS.same (i := 11) (by decide) (by decide) (by decide) (by decide))
             rw [hT g]
             clear hT hck hS hdp hD
             go_simp
             exact hS2.out
            case refine_13 =>
             refine ge_same fun D g w' hD hdp hS => ?_
             obtain ⟨cx1, cx2⟩ := hck w' hS.1.1
             have hS2 := Lib.hid (hS.same (i := 12) (by decide) (by decide) (by decide) (by decide))
             rw [hT g]
             clear hT hck hS hdp hD
             go_simp
             exact hS2.out
           case finB =>
            intro T' hT D g w6 hD hS
            simp only [putAll, Act.put, List.setIfInBounds_toArray, List.set_cons_zero, List.set_cons_succ] at hT
            rw [hT g]
            have e15 : g 15 = g 14 := hS.2.2.2.2.2.1 (hD 15 (by decide))
            have HS6 := Lib.hid (HBp.out.trans hS.1.1)
            have HO6 := Lib.hid (hS.2.2.2.1 (hD 14 (by decide)))
            rw [e15]
            generalize g 14 = v2 at *
            clear hS hT hD hck e15
            go_wp2_with fail
            go_roundw
            case rel => exact ⟨p + 1, Hk.out, by go_num, HS6.out, by rw [HCS.out]; exact HO6.out⟩
            case measure => have := Hk.out; simp [RowKit.intOf]; omega
         · obtain rfl : p = n := by omega
           have h3 : ¬ (p : Int) < (p : Int) := by omega
           have HOV := Lib.hid (show wr.ownsRow w5.heap.size 46 2 u10 (pairsOf T).length ((allP (pairsOf T)).map sV) from by
            rw [HPP.out.1, HPP.out.2]
            rw [← hTn2, List.take_length] at hov
            exact hov)
           have HBp := Lib.hid (HB.out.trans (hBp.mono HB.out.size))
           clear hov hlt hp hBp
           go_wp2_with fail
           go_ret2
           exact ⟨_, rfl, own_prs HOV.out, HBp.out⟩
end Go.Proofs.YtcngnjkpnmpcpaaDoor
