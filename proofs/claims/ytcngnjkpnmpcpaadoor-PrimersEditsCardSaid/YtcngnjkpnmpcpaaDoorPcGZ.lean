import Derived.Test.YtcngnjkpnmpcpaaDoorPaNZ
import Derived.Test.YtcngnjkpnmpcpaaDoorPbAZ
import Derived.Test.YtcngnjkpnmpcpaaDoorPcEZ
import Derived.Test.YtcngnjkpnmpcpaaDoorPcPZ
namespace Go.Proofs.YtcngnjkpnmpcpaaDoor
open Go.RowKit Go.Shelf
attribute [local go_sem] Oper.semAt_some run_store_func
theorem chkF_get : ∀ (xs t : List (List UInt8)), chkF t xs = true → ∀ j (h : j < xs.length), takeB (t ++ xs.take j) xs[j] = true
  | [], _, _, j, h => absurd h (by simp)
  | x :: xs, t, hc, 0, _ => by
    rw [chkF, Bool.and_eq_true] at hc
    simpa using hc.1
  | x :: xs, t, hc, j + 1, h => by
    rw [chkF, Bool.and_eq_true] at hc
    have := chkF_get xs (t ++ [x]) hc.2 j (by simpa using h)
    simpa using this
theorem beg_one {L : List Pr} (hE : chkE L = 0) {r : List UInt8} {i j : Nat} (hij : i < j) (hj : j < (allP L).length) (h1 : begB r ((allP L)[i]'(Nat.lt_trans hij hj)) = true) (h2 : begB r (allP L)[j] = true) : False := by
 have hb : chkB L = true := by
  unfold chkE at hE
  by_cases h : chkB L = true
  · exact h
  · rw [if_neg h] at hE; cases hE
 unfold chkB at hb
 rw [Bool.and_eq_true] at hb
 have hi := Nat.lt_trans hij hj
 have tj := chkF_get _ [] hb.2 j hj
 have ti := chkF_get _ [] hb.2 i hi
 unfold takeB at tj ti
 rw [Bool.and_eq_true, List.nil_append] at tj ti
 have hm : (allP L)[i] ∈ (allP L).take j := List.mem_iff_getElem.2 ⟨i, by rw [List.length_take]; omega, by rw [List.getElem_take]⟩
 have hd := of_decide_eq_true (List.all_eq_true.1 tj.2 _ hm)
 have := beg_near (oneG_is.1 tj.1).1 (oneG_is.1 ti.1).1 h2 h1
 omega
end Go.Proofs.YtcngnjkpnmpcpaaDoor
namespace Go.Proofs.YtcngnjkpnmpcpaaDoor
open Go.RowKit Go.Shelf
theorem way_front {n : Nat} {x r : List UInt8} (h : Way n x r) : ∀ a t, x = a ++ t → ∃ j m, m ≤ n ∧ j ≤ r.length ∧ Way m a (r.take j) := by
 induction h with
 | nil =>
   intro a t e
   have : a = [] := (List.append_eq_nil_iff.1 e.symm).1
   subst this
   exact ⟨0, 0, Nat.le_refl _, Nat.zero_le _, .nil⟩
 | keep x h ih =>
   intro a t e
   cases a with
   | nil => exact ⟨0, 0, Nat.zero_le _, Nat.zero_le _, .nil⟩
   | cons y a =>
     injection e with e1 e2
     subst e1
     obtain ⟨j, m, hm, hj, hw⟩ := ih a t e2
     exact ⟨j + 1, m, hm, by simpa using hj, .keep x hw⟩
 | swap x y h ih =>
   intro a t e
   cases a with
   | nil => exact ⟨0, 0, Nat.zero_le _, Nat.zero_le _, .nil⟩
   | cons z a =>
     injection e with e1 e2
     subst e1
     obtain ⟨j, m, hm, hj, hw⟩ := ih a t e2
     exact ⟨j + 1, m + 1, by omega, by simpa using hj, .swap x y hw⟩
 | gap x h ih =>
   intro a t e
   cases a with
   | nil => exact ⟨0, 0, Nat.zero_le _, Nat.zero_le _, .nil⟩
   | cons z a =>
     injection e with e1 e2
     subst e1
     obtain ⟨j, m, hm, hj, hw⟩ := ih a t e2
     exact ⟨j, m + 1, by omega, hj, .gap x hw⟩
 | more y h ih =>
   intro a t e
   obtain ⟨j, m, hm, hj, hw⟩ := ih a t e
   exact ⟨j + 1, m + 1, by omega, by simpa using hj, .more y hw⟩
theorem beg_edit {p t r : List UInt8} {n : Nat} (hp : p.length ≤ 1000) (hr : r.length ≤ 1000) (hn : n ≤ 1) (h : Way n (p ++ t) r) : begB r p = true := by
 obtain ⟨j, m, hm, hj, hw⟩ := way_front h p t rfl
 unfold begB
 rw [cut_same p hp, cut_same r hr]
 exact List.any_eq_true.2 ⟨j, List.mem_range.2 (by omega), decide_eq_true ((dist_le_iff _ _ _).2 ⟨m, by omega, hw⟩)⟩
theorem chkF_fold (m : Nat) (xs t : List (List UInt8)) (h : chkF [] t = true) : chkF [] (xs.foldl (libS m) t) = true := by
 induction xs generalizing t with
 | nil => exact h
 | cons x xs ih =>
   refine ih _ ?_
   unfold libS
   split
   · exact h
   · split
     · rename_i ht
       rw [chkF_snoc, h, ht]
       rfl
     · exact h
theorem lib_fine {n : Int} {s : Nat} (h : libE n s = 0) : chkE (libP n s) = 0 ∧ ((libP n s).length : Int) = n ∧ allP (libP n s) = libG (2 * n.toNat) s := by
 have h1 : (0 ≤ n ∧ n ≤ 8) ∧ (libG (2 * n.toNat) s).length = 2 * n.toNat := by
  unfold libE at h
  split at h
  · rename_i h1
    split at h
    · rename_i h2; exact ⟨h1, h2⟩
    · cases h
  · cases h
 have h2 := allP_pairs n.toNat _ h1.2
 have e : libP n s = pairsOf (libG (2 * n.toNat) s) := by unfold libP; rw [if_pos h]
 rw [e, h2.1, h2.2]
 refine ⟨?_, by omega, rfl⟩
 unfold chkE chkB
 rw [h2.1, h2.2, decide_eq_true (by omega), Bool.true_and, if_pos (show chkF [] (libG (2 * n.toNat) s) = true from chkF_fold _ _ [] rfl)]
end Go.Proofs.YtcngnjkpnmpcpaaDoor
namespace Go.Proofs.YtcngnjkpnmpcpaaDoor
open Go.RowKit Go.Shelf
attribute [local go_sem] Oper.semAt_some run_store_func
set_option maxRecDepth 100000 in
set_option maxHeartbeats 4000000 in
theorem RBeginsP_any (v0 : Value) (L : List Pr) (r : List UInt8) (hr : L.length ≤ 1000) (w : World) (h0 : PrsIn w.heap.size w v0 L) :
    Calls Tryd.prog 13 #[v0, sV r] w fun e w' => e = .returned (.tuple #[.int .i64 (begR L r), .bool (begK L r)]) ∧ Below w.heap.size w w' := by
  have hAl := RAllP_any v0 L hr w h0
  have HNo := Lib.hid (fun (h : ∀ p ∈ allP L, begB r p = false) => begI_none h)
  have HAt := Lib.hid (fun pre x (h : pre ++ [x] <+: allP L) => begI_at (r := r) h)
  have hl2 : (allP L).length ≤ 2000 := by rw [allP_len]; omega
  have HRd := Lib.hid (show ∀ n, begI L r = n → begR L r = (if n < (allP L).length then (n : Int) else -1) ∧ begK L r = decide (n < (allP L).length) from fun n h => by subst h; exact ⟨rfl, rfl⟩)
  obtain ⟨A, c, rfl⟩ := h0.len
  generalize begR L r = bR at *
  generalize begK L r = bK at *
  generalize begI L r = bI at *
  clear h0
  generalize allP L = all at *
  go_enter Tryd.func13, Tryd.ntmps13
  go_wp2_with fail
  go_at_call 15
  refine hAl.mono ?_
  rintro e w2 ⟨u, rfl, hown, hB⟩
  obtain ⟨A2, c2, rfl, hc, hcs⟩ := Sl.of_own hown
  have HC := Lib.hid hcs
  have HL := Lib.hid hl2
  have HB := Lib.hid hB
  clear hAl hown hcs hc hl2 hB
  go_wp2_with fail
  go_loopw [7] (fun i wr => ∃ k : Nat, k ≤ all.length ∧ i = .int .i64 k ∧ Below w2.heap.size w2 wr ∧ ∀ j (h : j < all.length), j < k → begB r all[j] = false) (fun i _ => all.length - (RowKit.intOf i).toNat)
  case atStart => exact ⟨0, Nat.zero_le _, rfl, Below.refl _ _, fun j _ h => absurd h (by omega)⟩
  case round =>
   obtain ⟨k, hk, rfl, hB3, hno⟩ := hrel
   by_cases hlt : k < all.length
   · obtain ⟨b, off, rfl, hb, hcell⟩ := HC.out (by omega)
     have hkl : (k : Int) < (all.length : Int) := by omega
     have hk9 : k ≤ 2000 := by have := HL.out; omega
     have hcx := (hB3.cell (p := ⟨b, off + k, none⟩) hb).trans (hcell k all[k] (List.getElem?_eq_getElem hlt))
     obtain ⟨x, hx⟩ : ∃ x, all[k] = x := ⟨_, rfl⟩
     rw [hx] at hcx
     obtain ⟨ca, w3, hcv1, hS1, hBa, -⟩ := to_bytes wr x
     obtain ⟨cb, w4, hcv2, hS2, hBb, -⟩ := to_bytes w3 r
     have hP := RPrefix_any _ _ x r w4 (hS1.next hBb) hS2
     have HBd := Lib.hid (fun n (h : IsPre (cut x) (cut r) n) => begB_pre h)
     have HB4 := Lib.hid (hB3.trans ((below_trans hBa hBb).mono hB3.size))
     have HX := Lib.hid (show ∀ h : k < all.length, all[k] = x from fun _ => hx)
     have HK := Lib.hid hlt
     have HNO := Lib.hid hno
     clear hno hlt hk hcell hx hS1 hS2 hBa hBb hB3
     go_wp2_with fail
     go_at_call 23
     refine hP.mono ?_
     rintro e w5 ⟨⟨n, rfl, hpre⟩, hB5⟩
     have HBx := Lib.hid (HBd.out n hpre)
     have HB5 := Lib.hid (HB4.out.trans (hB5.mono HB4.out.size))
     clear hP hcv1 hcv2 hpre hB5 hcx
     by_cases hn : n ≤ 1
     · have hbx : begB r x = true := by rw [HBx.out]; exact decide_eq_true hn
       have hpre : all.take k ++ [all[k]'HK.out] <+: all := by
        rw [← List.take_succ_eq_append_getElem HK.out]
        exact List.take_prefix _ _
       have hbi := (HAt.out (all.take k) (all[k]'HK.out) hpre (fun p hp => by
        obtain ⟨j, hj, rfl⟩ := List.mem_iff_getElem.1 hp
        rw [List.length_take] at hj
        rw [List.getElem_take]
        exact HNO.out j (by omega) (by omega)) (by rw [HX.out]; exact hbx)).1
       rw [List.length_take, Nat.min_eq_left (by have := HK.out; omega)] at hbi
       obtain ⟨e1, e2⟩ := HRd.out _ hbi
       rw [if_pos HK.out] at e1
       rw [decide_eq_true HK.out] at e2
       subst e1 e2
       have hn1 : (n : Int) ≤ 1 := by omega
       clear hn hbx hpre hbi
       go_wp2_with fail
       go_ret2
       exact ⟨rfl, below_trans HB.out HB5.out⟩
     · have hbx : begB r x = false := by rw [HBx.out]; exact decide_eq_false hn
       have hn1 : ¬ (n : Int) ≤ 1 := by omega
       have HN2 := Lib.hid (show ∀ j (h : j < all.length), j < k + 1 → begB r all[j] = false from fun j hj hjk => by
        by_cases e : j = k
        · subst e; rw [HX.out hj]; exact hbx
        · exact HNO.out j hj (by omega))
       clear hn hbx
       go_wp2_with fail
       go_roundw
       case rel => exact ⟨k + 1, HK.out, by go_num, HB5.out, HN2.out⟩
       case measure => have := HK.out; simp [RowKit.intOf]; omega
   · obtain rfl : k = all.length := by omega
     have h3 : ¬ (all.length : Int) < (all.length : Int) := by omega
     have hBt := HB.out.trans (hB3.mono HB.out.size)
     have hbi := HNo.out fun p hp => by
      obtain ⟨j, hj, rfl⟩ := List.mem_iff_getElem.1 hp
      exact hno j hj hj
     obtain ⟨e1, e2⟩ := HRd.out _ hbi
     rw [if_neg (by omega)] at e1
     rw [decide_eq_false (by omega)] at e2
     subst e1 e2
     clear hno hlt hk hB3 HC hbi
     go_wp2_with fail
     go_ret2
     exact ⟨rfl, hBt⟩
set_option maxRecDepth 100000 in
set_option maxHeartbeats 4000000 in
theorem RApart_any (v : Value) (xs : List (List UInt8)) (p : List UInt8) (base : Nat) (w : World) (hown : w.ownsRow base 9 1 v xs.length (xs.map sV)) (hn : xs.length ≤ 1000) :
    Calls Tryd.prog 32 #[sV p, v] w fun e w' => e = .returned (.bool (xs.all fun o => decide (5 ≤ dC p o))) ∧ Below w.heap.size w w' := by
  obtain ⟨A2, c2, rfl, hc, hcs⟩ := Sl.of_own hown
  have HC := Lib.hid hcs
  have HL := Lib.hid hn
  obtain ⟨R, hR⟩ : ∃ R, Hid ((xs.all fun o => decide (5 ≤ dC p o)) = R) := ⟨_, Lib.hid rfl⟩
  rw [hR.out]
  clear hcs hc hown hn
  go_enter Tryd.func32, Tryd.ntmps32
  go_wp2_with fail
  go_loopw [5] (fun i wr => ∃ k : Nat, k ≤ xs.length ∧ i = .int .i64 k ∧ Below w.heap.size w wr ∧ ∀ j (h : j < xs.length), j < k → 5 ≤ dC p xs[j]) (fun i _ => xs.length - (RowKit.intOf i).toNat)
  case atStart => exact ⟨0, Nat.zero_le _, rfl, Below.refl _ _, fun j _ h => absurd h (by omega)⟩
  case round =>
   obtain ⟨k, hk, rfl, hB3, hno⟩ := hrel
   by_cases hlt : k < xs.length
   · obtain ⟨b, off, rfl, hb, hcell⟩ := HC.out (by omega)
     have hkl : (k : Int) < (xs.length : Int) := by omega
     have hk9 : k ≤ 1000 := by have := HL.out; omega
     obtain ⟨x, hx⟩ : ∃ x, xs[k] = x := ⟨_, rfl⟩
     have hcx := hcell k x (by rw [List.getElem?_eq_getElem hlt, hx])
     obtain ⟨ca, w3, hcv1, hS1, hBa, -⟩ := to_bytes wr p
     obtain ⟨cb, w4, hcv2, hS2, hBb, -⟩ := to_bytes w3 x
     have hBp := hB3.trans (hBa.mono hB3.size)
     have hcx2 := (hBp.cell (p := ⟨b, off + k, none⟩) hb).trans hcx
     have hcx1 := (hB3.cell (p := ⟨b, off + k, none⟩) hb).trans hcx
     have hP : Calls Tryd.prog 25 #[_, _] w4 fun e w' => e = .returned (.int .i64 (dC p x : Nat)) ∧ Below w4.heap.size w4 w' := RDistance_any _ _ p x w4 (hS1.next hBb) hS2
     have HB4 := Lib.hid (hB3.trans ((below_trans hBa hBb).mono hB3.size))
     have HX := Lib.hid (show ∀ h : k < xs.length, xs[k] = x from fun _ => hx)
     have hmem : x ∈ xs := by rw [← hx]; exact List.getElem_mem hlt
     have HBad := Lib.hid (show dC p x < 5 → R = false from fun h => by
      rw [← hR.out]
      exact List.all_eq_false.2 ⟨x, hmem, by simp; omega⟩)
     have HK := Lib.hid hlt
     have HNO := Lib.hid hno
     have hdl := dC_le p x
     have HD := Lib.hid (show ∀ j (h : j < xs.length), j < k + 1 → 5 ≤ dC p x → 5 ≤ dC p xs[j] from fun j hj hjk h5 => by
      by_cases e : j = k
      · subst e; rw [hx]; exact h5
      · exact hno j hj (by omega))
     clear hno hlt hk hcell hx hS1 hS2 hBa hBb hB3 hBp hcx hmem
     generalize dC p x = d at *
     go_wp2_with fail
     go_at_call 25
     refine hP.mono ?_
     rintro e w5 ⟨rfl, hB5⟩
     have HB5 := Lib.hid (HB4.out.trans (hB5.mono HB4.out.size))
     clear hP hcv1 hcv2 hB5 hcx1 hcx2
     by_cases hn : d < 5
     · have dn : (d : Int) < 5 := by omega
       have HE := Lib.hid (HBad.out hn)
       clear hn
       go_wp2_with fail
       go_ret
       exact ⟨by rw [HE.out]; rfl, HB5.out⟩
     · have dn : ¬ (d : Int) < 5 := by omega
       have HD2 := Lib.hid (fun j (hj : j < xs.length) (hjk : j < k + 1) => HD.out j hj hjk (by omega))
       clear hn
       go_wp2_with fail
       go_roundw
       case rel => exact ⟨k + 1, HK.out, by go_num, HB5.out, HD2.out⟩
       case measure => have := HK.out; simp [RowKit.intOf]; omega
   · obtain rfl : k = xs.length := by omega
     have h3 : ¬ (xs.length : Int) < (xs.length : Int) := by omega
     have HE := Lib.hid (show R = true from by
      rw [← hR.out]
      refine List.all_eq_true.2 fun o ho => ?_
      obtain ⟨j, hj, rfl⟩ := List.mem_iff_getElem.1 ho
      exact decide_eq_true (hno j hj hj))
     have HB := Lib.hid hB3
     clear hno hlt hk hB3 HC
     go_wp2_with fail
     go_ret
     exact ⟨by rw [HE.out]; rfl, HB.out⟩
end Go.Proofs.YtcngnjkpnmpcpaaDoor
