import Derived.Test.YtcngnjkpnmpcpaaDoorPaWZ
import Derived.Test.YtcngnjkpnmpcpaaDoorPcEZ
import Derived.Test.YtcngnjkpnmpcpaaDoorPcPZ
namespace Go.Proofs.YtcngnjkpnmpcpaaDoor
open Go.RowKit Go.Shelf
attribute [local go_sem] Oper.semAt_some run_store_func
theorem chkF_get : ∀ (xs t : List (List UInt8)), chkF t xs = true → ∀ j (h : j < xs.length), takeB (t ++ xs.take j) xs[j] = true
  | [], _, _, j, h => absurd h (by simp)
  | x :: xs, t, hc, 0, _ => by
    rw [chkF, Bool.and_eq_true] at hc
    simpa using hc.1
  | x :: xs, t, hc, j + 1, h => by
    rw [chkF, Bool.and_eq_true] at hc
    have := chkF_get xs (t ++ [x]) hc.2 j (by simpa using h)
    simpa using this
theorem beg_one {L : List Pr} (hE : chkE L = 0) {r : List UInt8} {i j : Nat} (hij : i < j) (hj : j < (allP L).length) (h1 : begB r ((allP L)[i]'(Nat.lt_trans hij hj)) = true) (h2 : begB r (allP L)[j] = true) : False := by
 have hb : chkB L = true := by
  unfold chkE at hE
  by_cases h : chkB L = true
  · exact h
  · rw [if_neg h] at hE; cases hE
 unfold chkB at hb
 rw [Bool.and_eq_true] at hb
 have hi := Nat.lt_trans hij hj
 have tj := chkF_get _ [] hb.2 j hj
 have ti := chkF_get _ [] hb.2 i hi
 unfold takeB at tj ti
 rw [Bool.and_eq_true, List.nil_append] at tj ti
 have hm : (allP L)[i] ∈ (allP L).take j := List.mem_iff_getElem.2 ⟨i, by rw [List.length_take]; omega, by rw [List.getElem_take]⟩
 have hd := of_decide_eq_true (List.all_eq_true.1 tj.2 _ hm)
 have := beg_near (oneG_is.1 tj.1).1 (oneG_is.1 ti.1).1 h2 h1
 omega
set_option maxRecDepth 100000 in
set_option maxHeartbeats 8000000 in
theorem Once_main (v0 : Value) (L : List Pr) (r : List UInt8) (hr : r.length ≤ 100) (w : World) (h0 : PrsIn w.heap.size w v0 L) (hT : Tab w) (hE : chkE L = 0) :
    Calls Tryd.prog 4 #[v0, sV r] w fun e w' => e = .returned (.bool true) ∧ Below w.heap.size w w' := by
  have h8 : L.length ≤ 8 := by
   unfold chkE chkB at hE
   by_cases h : L.length ≤ 8
   · exact h
   · rw [decide_eq_false h] at hE; cases hE
  have hck := RCheckP_any v0 L w h0
  rw [hE] at hck
  have HAl := Lib.hid (fun W (h : Below w.heap.size w W) => RAllP_any v0 L (by omega) W (h0.next h))
  have HBg := Lib.hid (fun W (h : Below w.heap.size w W) => Begins_any v0 L r (by omega) W (h0.next h))
  have HCh := Lib.hid (fun W (h : Below w.heap.size w W) => Check_any v0 L (by omega) W (hT.below h) (h0.next h))
  have HWk := Lib.hid (fun W (h : Below w.heap.size w W) => wakes_any W (hT.below h))
  rw [hE] at HCh
  have HOne := Lib.hid (fun i j (hij : i < j) (hj : j < (allP L).length) => beg_one hE (r := r) hij hj)
  have HNo := Lib.hid (fun (h : ∀ p ∈ allP L, begB r p = false) => begI_none h)
  have HAt := Lib.hid (fun pre x (h : pre ++ [x] <+: allP L) => begI_at (r := r) h)
  have hl2 : (allP L).length ≤ 16 := by rw [allP_len]; omega
  have HRd := Lib.hid (show ∀ n, begI L r = n → begR L r = (if n < (allP L).length then (n : Int) else -1) ∧ begK L r = decide (n < (allP L).length) from fun n h => by subst h; exact ⟨rfl, rfl⟩)
  obtain ⟨A, c, rfl⟩ := h0.len
  have d100 : decide ((100 : Int) < (r.length : Int)) = false := decide_eq_false (by omega)
  generalize begR L r = bR at *
  generalize begK L r = bK at *
  generalize begI L r = bI at *
  clear h0 hT hE
  have HL8 := Lib.hid h8
  clear h8 hr
  generalize allP L = all at *
  go_enter Tryd.func4, Tryd.ntmps4
  go_wp2_with fail
  go_at_call 18
  refine hck.mono ?_
  rintro e w1 ⟨rfl, hB1⟩
  have hAl := HAl.out w1 hB1
  clear hck HAl
  go_wp2_with fail
  go_at_call 15
  refine hAl.mono ?_
  rintro e w2 ⟨u, rfl, hown, hB2⟩
  have hB := below_trans hB1 hB2
  obtain ⟨A2, c2, rfl, hc, hcs⟩ := Sl.of_own hown
  have HC := Lib.hid hcs
  have HL := Lib.hid hl2
  have HB := Lib.hid hB
  clear hAl hown hcs hc hl2 hB1 hB2 hB
  go_wp2_with fail
  go_loopw [5, 6, 8] (fun t f i wr => ∃ k : Nat, k ≤ all.length ∧ i = .int .i64 k ∧ Below w2.heap.size w2 wr ∧ ((t = .int .i64 0 ∧ f = .int .i64 (-1) ∧ ∀ j (h : j < all.length), j < k → begB r all[j] = false) ∨ (t = .int .i64 1 ∧ ∃ (q : Nat) (hq : q < all.length), q < k ∧ f = .int .i64 q ∧ begB r all[q] = true ∧ ∀ j (h : j < all.length), j < q → begB r all[j] = false))) (fun _ _ i _ => all.length - (RowKit.intOf i).toNat)
  case atStart => exact ⟨0, Nat.zero_le _, rfl, Below.refl _ _, .inl ⟨rfl, rfl, fun j _ h => absurd h (by omega)⟩⟩
  case round =>
   obtain ⟨k, hk, rfl, hB3, hst⟩ := hrel
   by_cases hlt : k < all.length
   · obtain ⟨b, off, rfl, hb, hcell⟩ := HC.out (by omega)
     have hkl : (k : Int) < (all.length : Int) := by omega
     have hk9 : k ≤ 16 := by have := HL.out; omega
     have hcx := (hB3.cell (p := ⟨b, off + k, none⟩) hb).trans (hcell k all[k] (List.getElem?_eq_getElem hlt))
     obtain ⟨x, hx⟩ : ∃ x, all[k] = x := ⟨_, rfl⟩
     rw [hx] at hcx
     obtain ⟨ca, w3, hcv1, hS1, hBa, -⟩ := to_bytes wr x
     obtain ⟨cb, w4, hcv2, hS2, hBb, -⟩ := to_bytes w3 r
     have hP := RPrefix_any _ _ x r w4 (hS1.next hBb) hS2
     have HBd := Lib.hid (fun n (h : IsPre (cut x) (cut r) n) => begB_pre h)
     have HB4 := Lib.hid (hB3.trans ((below_trans hBa hBb).mono hB3.size))
     have HX := Lib.hid (show ∀ h : k < all.length, all[k] = x from fun _ => hx)
     have HK := Lib.hid hlt
     have HST := Lib.hid hst
     clear hst hlt hk hcell hx hS1 hS2 hBa hBb hB3
     go_wp2_with fail
     go_at_call 23
     refine hP.mono ?_
     rintro e w5 ⟨⟨n, rfl, hpre⟩, hB5⟩
     have HBx := Lib.hid (HBd.out n hpre)
     have HB5 := Lib.hid (HB4.out.trans (hB5.mono HB4.out.size))
     clear hP hcv1 hcv2 hpre hB5 hcx
     by_cases hn : n ≤ 1
     · have dn : decide ((n : Int) ≤ 1) = true := decide_eq_true (by omega)
       have hbx : begB r x = true := by rw [HBx.out]; exact decide_eq_true hn
       rcases HST.out with ⟨rfl, rfl, hno⟩ | ⟨-, q, hq, hqk, -, hbq, -⟩
       · have HBX := Lib.hid hbx
         have HNO := Lib.hid hno
         have hn1 : (n : Int) ≤ 1 := by omega
         clear hno hbx hn
         go_wp2_with fail
         go_roundw
         case rel => exact ⟨k + 1, HK.out, by go_num, HB5.out, .inr ⟨by trivial, k, HK.out, by omega, by trivial, by rw [HX.out]; exact HBX.out, HNO.out⟩⟩
         case measure => have := HK.out; simp [RowKit.intOf]; omega
       · exact (HOne.out q k hqk HK.out hbq (by rw [HX.out]; exact hbx)).elim
     · have dn : decide ((n : Int) ≤ 1) = false := decide_eq_false (by omega)
       have hbx : begB r x = false := by rw [HBx.out]; exact decide_eq_false hn
       have HBX := Lib.hid hbx
       have hn1 : ¬ (n : Int) ≤ 1 := by omega
       clear hbx hn
       rcases HST.out with ⟨rfl, rfl, hno⟩ | ⟨rfl, q, hq, hqk, rfl, hbq, hno⟩
       · have HNO := Lib.hid (show ∀ j (h : j < all.length), j < k + 1 → begB r all[j] = false from fun j hj hjk => by
           by_cases e : j = k
           · subst e; rw [HX.out hj]; exact HBX.out
           · exact hno j hj (by omega))
         clear hno
         go_wp2_with fail
         go_roundw
         case rel => exact ⟨k + 1, HK.out, by go_num, HB5.out, .inl ⟨by trivial, by trivial, HNO.out⟩⟩
         case measure => have := HK.out; simp [RowKit.intOf]; omega
       · have HNO := Lib.hid hno
         have HQ := Lib.hid (show ∃ hq : q < all.length, q < k ∧ begB r all[q] = true from ⟨hq, hqk, hbq⟩)
         clear hno hq hqk hbq
         go_wp2_with fail
         go_roundw
         case rel =>
          obtain ⟨hq, hqk, hbq⟩ := HQ.out
          exact ⟨k + 1, HK.out, by go_num, HB5.out, .inr ⟨by trivial, q, hq, by omega, by trivial, hbq, HNO.out⟩⟩
         case measure => have := HK.out; simp [RowKit.intOf]; omega
   · obtain rfl : k = all.length := by omega
     have h3 : ¬ (all.length : Int) < (all.length : Int) := by omega
     have hBt := HB.out.trans (hB3.mono HB.out.size)
     have HBt := Lib.hid hBt
     have hBg := HBg.out wr hBt
     have HCt := HCh
     have HWt := HWk
     rcases hst with ⟨rfl, rfl, hno⟩ | ⟨rfl, q, hq, hqk, rfl, hbq, hno⟩
     · have hbi := HNo.out fun p hp => by
         obtain ⟨j, hj, rfl⟩ := List.mem_iff_getElem.1 hp
         exact hno j hj hj
       obtain ⟨e1, e2⟩ := HRd.out _ hbi
       rw [if_neg (by omega)] at e1
       rw [decide_eq_false (by omega)] at e2
       subst e1 e2
       clear hno hlt hk hB3 HC hbi hBt
       go_wp2_with fail
       go_at_call 12
       refine hBg.mono ?_
       rintro e w3 ⟨rfl, hB4⟩
       have HB4 := Lib.hid (below_trans HBt.out hB4)
       have hCh := HCh.out w3 HB4.out
       clear hBg hB4
       go_wp2_with fail
       go_at_call 17
       refine hCh.mono ?_
       rintro e w4 ⟨rfl, hB5⟩
       have HB5 := Lib.hid (below_trans HB4.out hB5)
       have hWk := HWk.out w4 HB5.out
       clear hCh hB5
       go_wp2_with fail
       go_at_call 9
       refine hWk.mono ?_
       rintro e w5 ⟨rfl, hB6⟩
       clear hWk
       go_wp2_with fail
       go_ret
       exact ⟨rfl, below_trans HB5.out hB6⟩
     · have hpre : all.take q ++ [all[q]] <+: all := by
         rw [← List.take_succ_eq_append_getElem hq]
         exact List.take_prefix _ _
       have hbi := (HAt.out (all.take q) all[q] hpre (fun p hp => by
        obtain ⟨j, hj, rfl⟩ := List.mem_iff_getElem.1 hp
        rw [List.length_take] at hj
        rw [List.getElem_take]
        exact hno j (by omega) (by omega)) hbq).1
       rw [List.length_take, Nat.min_eq_left (by omega)] at hbi
       obtain ⟨e1, e2⟩ := HRd.out _ hbi
       rw [if_pos hq] at e1
       rw [decide_eq_true hq] at e2
       subst e1 e2
       have hq0 : 0 ≤ (q : Int) := by omega
       clear hno hlt hk hB3 HC hbi hBt hpre hbq hqk hq
       go_wp2_with fail
       go_at_call 12
       refine hBg.mono ?_
       rintro e w3 ⟨rfl, hB4⟩
       have HB4 := Lib.hid (below_trans HBt.out hB4)
       have hCh := HCh.out w3 HB4.out
       clear hBg hB4
       go_wp2_with fail
       go_at_call 17
       refine hCh.mono ?_
       rintro e w4 ⟨rfl, hB5⟩
       have HB5 := Lib.hid (below_trans HB4.out hB5)
       have hWk := HWk.out w4 HB5.out
       clear hCh hB5
       go_wp2_with fail
       go_at_call 9
       refine hWk.mono ?_
       rintro e w5 ⟨rfl, hB6⟩
       clear hWk
       go_wp2_with fail
       go_ret
       exact ⟨rfl, below_trans HB5.out hB6⟩
set_option maxRecDepth 100000 in
set_option maxHeartbeats 4000000 in
theorem PrimersOnce_any (v0 : Value) (r : List UInt8) (L : List Pr) (w : World) (h0 : PrsIn w.heap.size w v0 L) (hT : Tab w) :
    Calls Tryd.prog 4 #[v0, sV r] w fun e w' => e = .returned (.bool true) ∧ Below w.heap.size w w' := by
  by_cases hr : r.length ≤ 100
  · by_cases hE : chkE L = 0
    · exact Once_main v0 L r hr w h0 hT hE
    · have hE2 : chkE L = 200 := by
        unfold chkE at hE ⊢
        split at hE
        · exact absurd rfl hE
        · rename_i h; rw [if_neg h]
      have hck := RCheckP_any v0 L w h0
      rw [hE2] at hck
      have HWk := Lib.hid (fun W (h : Below w.heap.size w W) => wakes_any W (hT.below h))
      obtain ⟨A, c, rfl⟩ := h0.len
      have d100 : decide ((100 : Int) < (r.length : Int)) = false := decide_eq_false (by omega)
      clear h0 hT hE hE2 hr
      go_enter Tryd.func4, Tryd.ntmps4
      go_wp2_with fail
      go_at_call 18
      refine hck.mono ?_
      rintro e w1 ⟨rfl, hB1⟩
      have hWk := HWk.out w1 hB1
      clear hck
      go_wp2_with fail
      go_at_call 9
      refine hWk.mono ?_
      rintro e w5 ⟨rfl, hB6⟩
      clear hWk
      go_wp2_with fail
      go_ret
      exact ⟨rfl, below_trans hB1 hB6⟩
  · have hWk := wakes_any w hT
    obtain ⟨A, c, rfl⟩ := h0.len
    have d100 : decide ((100 : Int) < (r.length : Int)) = true := decide_eq_true (by omega)
    clear h0 hT hr
    go_enter Tryd.func4, Tryd.ntmps4
    go_wp2_with fail
    go_at_call 9
    refine hWk.mono ?_
    rintro e w5 ⟨rfl, hB6⟩
    clear hWk
    go_wp2_with fail
    go_ret
    exact ⟨rfl, hB6⟩
end Go.Proofs.YtcngnjkpnmpcpaaDoor
