import Derived.Test.YtjclfkbhakjdaaaDoorFrDY
import Derived.Test.YtjclfkbhakjdaaaDoorFrEY
import Derived.Test.YtjclfkbhakjdaaaDoorFrMY
namespace Go.Proofs.YtjclfkbhakjdaaaDoor
open Go.RowKit Go.Shelf
attribute [local go_sem] Oper.semAt_some run_store_func
def Tabs (w : World) : Prop := Tu.Tab w ∧ Bl.Tab w ∧ Bl.TabO w ∧ Bt.Tab w ∧ Sh.Tab w
theorem Tabs.below {w w' : World} (h : Tabs w) (hB : Below w.heap.size w w') : Tabs w' := ⟨h.1.below hB, h.2.1.below hB, h.2.2.1.below hB, h.2.2.2.1.below hB, h.2.2.2.2.below hB⟩
theorem own_low {W : World} {B B' k n : Nat} {e : TypeId} {v : Value} {xs : List Value} (h : W.ownsRow B e k v n xs) (hb : B' ≤ B) : W.ownsRow B' e k v n xs := by
 refine ⟨h.1, ?_⟩
 rcases h.2 with h1 | ⟨g, cap, cur, e1, h2, h3⟩
 · exact .inl h1
 · exact .inr ⟨g, cap, cur, e1, Nat.le_trans hb h2, h3⟩
set_option maxRecDepth 100000 in
set_option maxHeartbeats 1000000 in
theorem packed_any (sv : Value) (b : List UInt8) (k : Nat) (hl : b.length = k * 5) (hr : b.length ≤ 1000) (w : World) (hS : Sl eB w.heap.size w sv b) :
    Calls Tryd.prog 22 #[sv] w fun e w' => ∃ v, e = .returned v ∧ Sl eB w'.heap.size w' v (tritsG b) ∧ Below w.heap.size w w' := by
  have hq := Tr.Pack_yes sv b k hl (by omega) w hS
  have he : tritsG b = Tr.packL b k := by unfold tritsG; rw [hl, Nat.mul_div_cancel _ (by omega)]
  rw [← he] at hq
  obtain ⟨A, c, rfl⟩ := hS.len
  clear hS he hl hr
  go_enter Tryd.func22, Tryd.ntmps22
  go_wp2_with fail
  go_at_call 34
  refine hq.mono ?_
  rintro e w1 ⟨v, rfl, hv, hB⟩
  have hs := Sl.of_own hv
  go_wp2_with fail
  go_at_call 18
  refine (must_ok _).mono ?_
  rintro e w2 ⟨rfl, rfl⟩
  go_wp2_with fail
  go_ret
  exact ⟨v, rfl, hs, hB⟩
set_option maxRecDepth 100000 in
set_option maxHeartbeats 1000000 in
theorem turned_any (sv : Value) (t : List UInt8) (ht : ∀ x ∈ t, Tu.IsTri x) (hr : t.length ≤ 1000) (w : World) (hT : Tabs w) (hS : Sl eB w.heap.size w sv t) :
    Calls Tryd.prog 23 #[sv] w fun e w' => ∃ v, e = .returned v ∧ Sl eB w'.heap.size w' v (bodyG t) ∧ Below w.heap.size w w' := by
  obtain ⟨h1, -, -, -, -⟩ := body_facts ht
  have hq := Tu.Turn_yes 65 sv t (bodyG t) (by
   show Tu.gatG 65 (Tu.wB 65 t) = _
   rw [h1]; exact Tu.gat_ok is_A _) (by omega) w hT.1 hS
  obtain ⟨A, c, rfl⟩ := hS.len
  clear hS h1 ht hr
  go_enter Tryd.func23, Tryd.ntmps23
  go_wp2_with fail
  go_at_call 35
  refine hq.mono ?_
  rintro e w1 ⟨v, rfl, hv, hB⟩
  have hs := Sl.of_own hv
  go_wp2_with fail
  go_at_call 18
  refine (must_ok _).mono ?_
  rintro e w2 ⟨rfl, rfl⟩
  go_wp2_with fail
  go_ret
  exact ⟨v, rfl, hs, hB⟩
set_option maxRecDepth 100000 in
set_option maxHeartbeats 2000000 in
theorem balanced_any (sv : Value) (s : List UInt8) (hf : Bl.Fine s) (hev : s.length % 2 = 0) (hr : s.length ≤ 300) (w : World) (hT : Tabs w) (hS : Sl eB w.heap.size w sv s) :
    Calls Tryd.prog 24 #[sv] w fun e w' => ∃ v, e = .returned v ∧ Own8 w.heap.size w' v (letG s) ∧ Below w.heap.size w w' := by
  obtain ⟨i0, hi, hz0, hz1, hz2⟩ := info_parts info_u8
  have hq := Bl.Balance_any sv s (by omega) w hS hT.2.1 hT.2.2.1
  have hky := kG_yes hf hev
  have hkl := hky.1
  obtain ⟨g1, g2, g3, g4⟩ := wid_facts hkl hr
  have hwid := fun w => Bl.Width_any (s.length : Int) (by omega) w
  have hnum := fun w => Bt.Number_yes (kG s) (widG s.length) (by omega) (by omega) g4 w
  have hbits := Bt.numOf_bits (kG s) (widG s.length)
  have hnl := Bt.numOf_length (kG s) (widG s.length)
  have hcv : ∀ w, (convert 3 65 (.int .i64 (kG s : Nat))).run Tryd.prog w = .ok (.int .u64 (kG s : Nat)) w := fun w => by
   have h1 := run_convert_int (P := Tryd.prog) (w := w) 3 65 .i64 (kG s : Nat) (by kernel_rfl) (by kernel_rfl)
   have hk : Tryd.prog.intKind 65 = .u64 := by kernel_rfl
   rw [hk, show IntKind.u64.wrap ((kG s : Nat) : Int) = ((kG s : Nat) : Int) from by
    show ((kG s : Nat) : Int) % 18446744073709551616 = _
    exact Int.emod_eq_of_lt (by omega) (by omega)] at h1
   exact h1
  have hlet : letG s = Bt.fieldOf (Bt.numOf (kG s) (widG s.length)) ++ Bl.flipOf s (kG s) := rfl
  have hfl := Bl.flipOf_length s (kG s)
  have HNO := Lib.hid (Bl.always hf hev)
  have HK := Lib.hid (fun k => @kG_is s k)
  rw [hlet]
  change ∀ w, Calls _ _ _ w (fun e w' => e = .returned (.int .i64 (widG s.length)) ∧ _) at hwid
  generalize hbb : Bt.numOf (kG s) (widG s.length) = bb at *
  generalize hff : Bl.flipOf s (kG s) = ff at *
  have HFF := Lib.hid hff
  have HKL := Lib.hid hkl
  generalize kG s = k at *
  generalize widG s.length = m at *
  clear hky hlet g2 g3 g4 hbb hff hf hev hkl
  obtain ⟨A, c, rfl⟩ := hS.len
  go_enter Tryd.func24, Tryd.ntmps24
  go_wp2_with fail
  go_at_call 36
  refine hq.mono ?_
  rintro e w1 ⟨hB1, ⟨v1, k1, rfl, hy, hv1⟩ | ⟨n, -, hno⟩⟩
  case inr => exact (HNO.out n hno).elim
  obtain rfl : k1 = k := HK.out k1 hy
  rw [HFF.out] at hv1
  have hnum1 := hnum
  have hT1 := hT.below hB1
  have hk3 : k1 ≤ 300 := by have := HKL.out; omega
  clear hq hy hT
  go_wp2_with fail
  go_at_call 18
  refine (must_ok _).mono ?_
  rintro e w2 ⟨rfl, rfl⟩
  go_wp2_with fail
  go_at_call 38
  refine (hwid _).mono ?_
  rintro e w2 ⟨rfl, rfl⟩
  go_wp2_with fail
  go_at_call 37
  refine (hnum _).mono ?_
  rintro e w3 ⟨v3, hB3, rfl, hv3⟩
  have hv1' := hv1.next hB3
  have hBt3 := below_trans hB1 hB3
  have hfd := Bt.Field_any v3 bb (by omega) w3 hv3 (hT1.below hB3).2.2.2.1
  clear hB3 hv1 hB1 hT1 hnum hnum1 hwid hcv hv3
  go_wp2_with fail
  go_at_call 18
  refine (must_ok _).mono ?_
  rintro e w4 ⟨rfl, rfl⟩
  go_wp2_with fail
  go_at_call 39
  refine hfd.mono ?_
  rintro e w5 ⟨v5, hB5, ⟨rfl, -, B, hBB, hBs, hown⟩ | ⟨-, hbad⟩⟩
  case inr => exact (hbad hbits).elim
  have hv5 := hv1'.next hB5
  have hBt5 := below_trans hBt3 hB5
  have hfdl := Bt.fieldOf_length bb
  have hb5 : w.heap.size ≤ B := Nat.le_trans hBt3.size hBB
  clear hfd hv1' hBt3 hbits hBB
  go_wp2_with fail
  go_at_call 18
  refine (must_ok _).mono ?_
  rintro e w6 ⟨rfl, rfl⟩
  generalize hfo : Bt.fieldOf bb = fo at *
  go_wp2_with
    (at_builtin
     refine wpList_append_sl _ rfl (.tmp 34) (.tmp 35) _ rfl B 5 i0 (.int .u8 0) 1 Tryd.underlying24 hi hz0 hz1 hz2 rfl _ _ _ hown rfl _ _ ff hv5 rfl (fun _ => rfl) (by unfold maxLen; omega) (by omega) hBs ?_
     intro v7 w7 hown7 hg7 hat7)
  go_ret
  refine ⟨v7, rfl, ?_, hBt5.trans (below_grown hown hg7 hBt5.size hb5)⟩
  rw [hfo]
  unfold Own8
  rw [List.length_append, List.map_append]
  exact own_low hown7 hb5
end Go.Proofs.YtjclfkbhakjdaaaDoor
namespace Go.Proofs.YtjclfkbhakjdaaaDoor
open Go.RowKit Go.Shelf
attribute [local go_sem] Oper.semAt_some run_store_func
def stepsL (b : List UInt8) : Nat → List UInt8
  | 0 => b
  | 1 => tritsG b
  | 2 => bodyG (tritsG b)
  | _ => lettersG b
abbrev fnV (f : Nat) (lb : Array Value) : Value := .func (.func f) #[] lb
set_option maxRecDepth 100000 in
set_option maxHeartbeats 4000000 in
theorem taken_letters (sv : Value) (b : List UInt8) (k : Nat) (hl : b.length = k * 5) (hk : k ≤ 5) (w : World) (hT : Tabs w) (hS : Sl eB w.heap.size w sv b) :
    Calls Tryd.prog 19 #[sv, .agg #[fnV 22 #[], fnV 23 #[], fnV 24 #[]]] w fun e w' => ∃ v, e = .returned v ∧ Own8 w.heap.size w' v (lettersG b) ∧ Below w.heap.size w w' := by
  have hcl : (Value.agg #[fnV 22 #[], fnV 23 #[], fnV 24 #[]]).cells = #[fnV 22 #[], fnV 23 #[], fnV 24 #[]] := rfl
  obtain ⟨W0, hW0⟩ : ∃ W0, w.alloc (.cells #[fnV 22 #[], fnV 23 #[], fnV 24 #[]] 53) = W0 := ⟨_, rfl⟩
  have hA : Below w.heap.size w W0 := by rw [← hW0]; exact below_alloc w _
  have hr : Rowed W0 w.heap.size 53 #[fnV 22 #[], fnV 23 #[], fnV 24 #[]] := by rw [← hW0]; exact Rowed.new w _ _
  have k0 := hr.cell 0
  have k1 := hr.cell 1
  have k2 := hr.cell 2
  have i0 : ∀ w, (Instr.index 53 (.agg #[fnV 22 #[], fnV 23 #[], fnV 24 #[]]) (.int .i64 0)).run Tryd.prog w = .ok (fnV 22 #[]) w := fun _ => by kernel_rfl
  have i1 : ∀ w, (Instr.index 53 (.agg #[fnV 22 #[], fnV 23 #[], fnV 24 #[]]) (.int .i64 1)).run Tryd.prog w = .ok (fnV 23 #[]) w := fun _ => by kernel_rfl
  have i2 : ∀ w, (Instr.index 53 (.agg #[fnV 22 #[], fnV 23 #[], fnV 24 #[]]) (.int .i64 2)).run Tryd.prog w = .ok (fnV 24 #[]) w := fun _ => by kernel_rfl
  have htl := tritsG_length b
  have htt := tritsG_tri b
  obtain ⟨-, hbl, hbt, -, -⟩ := body_facts htt
  have hfi := let_fine hbt
  have hmul : b.length / 5 = k := by rw [hl]; exact Nat.mul_div_cancel _ (by omega)
  rw [hmul] at htl
  have H1 := Lib.hid (fun W v (h : Sl eB W.heap.size W v b) => packed_any v b k hl (by omega) W h)
  have H2 := Lib.hid (fun W v (hT : Tabs W) (h : Sl eB W.heap.size W v (tritsG b)) => turned_any v (tritsG b) htt (by omega) W hT h)
  have H3 := Lib.hid (fun W v (hT : Tabs W) (h : Sl eB W.heap.size W v (bodyG (tritsG b))) => balanced_any v (bodyG (tritsG b)) hfi (by rw [hbl, htl]; omega) (by rw [hbl, htl]; omega) W hT h)
  have HA0 := Lib.hid hA.size
  have hsv := hS.next hA
  have hT0 := hT.below hA
  have e0 : stepsL b 0 = b := rfl
  have E1 := Lib.hid (show stepsL b 1 = tritsG b from rfl)
  have E2 := Lib.hid (show stepsL b 2 = bodyG (tritsG b) from rfl)
  have E3 := Lib.hid (show stepsL b 3 = letG (bodyG (tritsG b)) from rfl)
  have E4 := Lib.hid (show lettersG b = stepsL b 3 from rfl)
  rw [E4.out]
  obtain ⟨A, c, rfl⟩ := hS.len
  clear hS hT hl hmul htl htt hbl hbt hfi
  go_enter Tryd.func19, Tryd.ntmps19
  go_wp2_with fail
  go_loopw [0, 8] (fun v i wr => ∃ j : Nat, j ≤ 3 ∧ i = .int .i64 j ∧ Sl eB wr.heap.size wr v (stepsL b j) ∧ (j = 3 → Own8 w.heap.size wr v (stepsL b j)) ∧ Below W0.heap.size W0 wr) (fun _ i _ => 3 - (RowKit.intOf i).toNat)
  case atStart => exact ⟨0, Nat.zero_le _, rfl, hsv, fun h => absurd h (by decide), Below.refl _ _⟩
  case round =>
   obtain ⟨j, hj, rfl, hv, hown, hB⟩ := hrel
   have hTr := hT0.below hB
   have HB := Lib.hid hB
   by_cases hlt : j < 3
   · rcases (show j = 0 ∨ j = 1 ∨ j = 2 by omega) with rfl | rfl | rfl
     · have hq := H1.out wr _ hv
       clear hv hB hlt hj hsv hTr hown
       go_wp2_with fail
       go_at_call 22
       refine hq.mono ?_
       rintro e w1 ⟨v1, rfl, hv1, hB1⟩
       rw [← E1.out] at hv1
       clear hq
       go_wp2_with fail
       go_roundw
       case rel => exact ⟨1, by omega, rfl, hv1, fun h => absurd h (by decide), below_trans HB.out hB1⟩
       case measure => simp [RowKit.intOf]
     · rw [E1.out] at hv
       have hq := H2.out wr _ hTr hv
       clear hv hB hlt hj hsv hTr hown
       go_wp2_with fail
       go_at_call 23
       refine hq.mono ?_
       rintro e w1 ⟨v1, rfl, hv1, hB1⟩
       rw [← E2.out] at hv1
       clear hq
       go_wp2_with fail
       go_roundw
       case rel => exact ⟨2, by omega, rfl, hv1, fun h => absurd h (by decide), below_trans HB.out hB1⟩
       case measure => simp [RowKit.intOf]
     · rw [E2.out] at hv
       have hq := H3.out wr _ hTr hv
       clear hv hB hlt hj hsv hTr hown
       go_wp2_with fail
       go_at_call 24
       refine hq.mono ?_
       rintro e w1 ⟨v1, rfl, hv1, hB1⟩
       rw [← E3.out] at hv1
       clear hq
       go_wp2_with fail
       go_roundw
       case rel => exact ⟨3, by omega, rfl, hv1.sl, fun _ => own_low hv1 (Nat.le_trans HA0.out HB.out.size), below_trans HB.out hB1⟩
       case measure => simp [RowKit.intOf]
   · obtain rfl : j = 3 := by omega
     have ho := hown rfl
     clear hlt hj hsv hTr hB hv hown
     go_wp2_with fail
     go_ret
     exact ⟨_, rfl, ho, below_trans hA HB.out⟩
end Go.Proofs.YtjclfkbhakjdaaaDoor
namespace Go.Proofs.YtjclfkbhakjdaaaDoor
open Go.RowKit Go.Shelf
attribute [local go_sem] Oper.semAt_some run_store_func
theorem saidG_length (G PL : Int) (pay : List UInt8) : (saidG G PL pay).length = pay.length + 3 := by simp [saidG, headG]
theorem chk_yes {P D R G PL : Int} {n : Nat} (h : chkF P D R G PL n = 0) : Sh.May P D R ∧ 0 ≤ G ∧ G ≤ 65535 ∧ 0 ≤ PL ∧ PL < D + R ∧ (n : Int) = P := by
 unfold chkF at h
 split at h
 · rename_i hm
   split at h
   · rename_i h2; exact ⟨hm, h2⟩
   · cases h
 · cases h
theorem chk_five {P D R G PL : Int} {n : Nat} (h : chkF P D R G PL n = 0) : ∃ k, k ≤ 5 ∧ n + 3 = k * 5 := by
 obtain ⟨hm, -, -, -, -, hn⟩ := chk_yes h
 rcases hm.1 with e | e | e | e | e
 · exact ⟨1, by omega, by omega⟩
 · exact ⟨2, by omega, by omega⟩
 · exact ⟨3, by omega, by omega⟩
 · exact ⟨4, by omega, by omega⟩
 · exact ⟨5, by omega, by omega⟩
theorem sl_setbox {B : Nat} {W : World} {v : Value} {xs : List UInt8} {g : Nat} {t : TypeId} {n : Int} (h : Sl eB B W v xs) (hb : Boxed W g t (.int .i64 n)) (u : Value) : Sl eB B (W.setCell ⟨g, 0, none⟩ u) v xs := by
 obtain ⟨A, c, rfl, hc, hcs⟩ := h
 refine ⟨A, c, rfl, hc, fun h0 => ?_⟩
 obtain ⟨b, off, rfl, hbb, hcell⟩ := hcs h0
 refine ⟨b, off, rfl, hbb, fun j x hx => ?_⟩
 have hne : b ≠ g := by
  rintro rfl
  have h1 := hcell j x hx
  have h2 : W.heap[b]? = some (.cells #[.int .i64 n] t (0, 0)) := hb
  simp only [World.cell?, h2] at h1
  rcases hj : off + j with _ | m
  · rw [hj] at h1
    simp [eB] at h1
  · rw [hj] at h1
    simp at h1
 have := hcell j x hx
 rwa [World.cell?_setCell_other]
 intro e
 injection e with e1
 exact hne e1.symm
theorem own_setother {B k n g : Nat} {W : World} {e t : TypeId} {v : Value} {xs : List Value} {x : Value} (h : W.ownsRow B e k v n xs) (hb : Boxed W g t x) (ht : e ≠ t) (u : Value) : (W.setCell ⟨g, 0, none⟩ u).ownsRow B e k v n xs := by
 refine ⟨h.1, ?_⟩
 rcases h.2 with h1 | ⟨g', cap, cur, e1, h2, h3, h4⟩
 · exact .inl h1
 · refine .inr ⟨g', cap, cur, e1, h2, ?_, h4⟩
   have hne : g' ≠ g := by
    rintro rfl
    have h5 : W.heap[g']? = some (.cells #[x] t (0, 0)) := hb
    rw [h5] at h3
    injection h3 with h3
    injection h3 with _ h6
    exact ht h6.symm
   exact (Below.heap_setCell _ _ _ _ (by show g' ≠ g; exact hne)).trans h3
set_option maxRecDepth 100000 in
set_option maxHeartbeats 4000000 in
theorem Letters1_yes (P D R G PL : Int) (pv : Value) (pay : List UInt8) (hE : chkF P D R G PL pay.length = 0) (b0 b1 gx : Nat) (w : World) (h0 : Rowed w b0 23 (shB P D R)) (h1 : Rowed w b1 26 (frB G PL pv)) (hx : Boxed w gx 24 (.slice none 0 0)) (hT : Tabs w) (hS : Sl eB w.heap.size w pv pay) :
    Calls Tryd.prog 17 #[.pointer (some ⟨b0, 0, none⟩), .pointer (some ⟨b1, 0, none⟩), .pointer (some ⟨gx, 0, none⟩)] w fun e w' => e = .returned (.tuple #[]) ∧ ∃ v W2, Below w.heap.size w W2 ∧ Own8 w.heap.size W2 v (lettersG (saidG G PL pay)) ∧ w' = W2.setCell ⟨gx, 0, none⟩ v := by
  have hck := FCheck_any P D R G PL pv pay w hT.2.2.2.2 hS
  rw [hE] at hck
  obtain ⟨k, hk, h5⟩ := chk_five hE
  have k0 := h0.cell 0
  have k1 := h0.cell 1
  have k2 := h0.cell 2
  have f0 := h1.cell 0
  have f1 := h1.cell 1
  have f2 := h1.cell 2
  have hsl := saidG_length G PL pay
  have HS := Lib.hid hS
  have HP := Lib.hid (show pay.length ≤ 900 by omega)
  have HSL := Lib.hid (show (saidG G PL pay).length = k * 5 by omega)
  obtain ⟨A, c, rfl⟩ := hS.len
  clear hS hsl hE h5
  go_enter Tryd.func17, Tryd.ntmps17
  go_wp2_with fail
  go_at_call 15
  refine hck.mono ?_
  rintro e w1 ⟨rfl, hB1⟩
  have h11 : Rowed w1 b1 26 (frB G PL (.slice A pay.length c)) := (hB1.block _ h1.lt).trans h1
  have j0 := h11.cell 0
  have j1 := h11.cell 1
  have j2 := h11.cell 2
  have hx1 : Boxed w1 gx 24 (.slice none 0 0) := (hB1.block _ hx.lt).trans hx
  clear hck k0 k1 k2 f0 f1 f2
  go_wp2_with fail
  go_at_call 18
  refine (must_ok _).mono ?_
  rintro e w2 ⟨rfl, rfl⟩
  go_wp2_with fail
  go_at_call 21
  refine (said_any G PL (.slice A pay.length c) w1).mono ?_
  rintro e w2 ⟨rfl, hw2⟩
  have hA2 : Below w1.heap.size w1 w2 := by rw [hw2]; exact below_alloc w1 _
  have hr2 : Rowed w2 w1.heap.size 26 (frB G PL (.slice A pay.length c)) := by rw [hw2]; exact Rowed.new w1 _ _
  have hS2 := (HS.out.next hB1).next hA2
  have hT2 := (hT.below hB1).below hA2
  have hx2 : Boxed w2 gx 24 (.slice none 0 0) := (hA2.block _ hx1.lt).trans hx1
  have hB2 := below_trans hB1 hA2
  have hq := Collect_any 33 #[.pointer (some ⟨w1.heap.size, 0, none⟩)] (saidG G PL pay) (by have := HSL.out; omega) w2 (enters_of Tryd.func33 (by kernel_rfl) rfl)
   (said_stops 3 w1.heap.size w2.heap.size G PL _ pay HP.out w2 hr2 hr2.lt (Nat.le_refl _) hS2)
  clear hw2 hA2 hr2 hx1 hB1 h11 j0 j1 j2 hS2 hT
  go_wp2_with fail
  go_at_call 20
  refine hq.mono ?_
  rintro e w3 ⟨v3, rfl, hv3, hB3⟩
  have hq := taken_letters v3 (saidG G PL pay) k HSL.out hk w3 (hT2.below hB3) hv3.sl
  have hx3 : Boxed w3 gx 24 (.slice none 0 0) := (hB3.block _ hx2.lt).trans hx2
  have hBt3 := below_trans hB2 hB3
  have hbd : ∀ w, (Instr.build 53 #[(0, .func (.func 22) #[] #[]), (1, .func (.func 23) #[] #[]), (2, .func (.func 24) #[] #[])]).run Tryd.prog w = .ok (.agg #[fnV 22 #[], fnV 23 #[], fnV 24 #[]]) w := fun _ => by kernel_rfl
  clear hT2 hv3 hB3 hB2 hx2
  go_wp2_with fail
  go_at_call 19
  refine hq.mono ?_
  rintro e w4 ⟨v4, rfl, hv4, hB4⟩
  have hx4 : Boxed w4 gx 24 (.slice none 0 0) := (hB4.block _ hx3.lt).trans hx3
  have hcx := hx4.cell
  have hfx := hx4.frozen
  have hBt4 := below_trans hBt3 hB4
  obtain ⟨A4, c4, rfl⟩ := hv4.sl.len
  have hv5 := own_low hv4 hBt3.size
  clear hv4
  clear hq hx3 hB4 hBt3 hbd
  go_wp2_with fail
  go_end0
  exact ⟨rfl, _, w4, hBt4, hv5, rfl⟩
set_option maxRecDepth 100000 in
set_option maxHeartbeats 4000000 in
theorem Letters1_no (P D R G PL : Int) (pv : Value) (pay : List UInt8) (n : Int) (hn : n ≠ 0) (hE : chkF P D R G PL pay.length = n) (b0 b1 gx : Nat) (w : World) (h0 : Rowed w b0 23 (shB P D R)) (h1 : Rowed w b1 26 (frB G PL pv)) (hT : Tabs w) (hS : Sl eB w.heap.size w pv pay) :
    Calls Tryd.prog 17 #[.pointer (some ⟨b0, 0, none⟩), .pointer (some ⟨b1, 0, none⟩), .pointer (some ⟨gx, 0, none⟩)] w fun e w' => e = .panicked (errno n) ∧ Below w.heap.size w w' := by
  have hck := FCheck_any P D R G PL pv pay w hT.2.2.2.2 hS
  rw [hE] at hck
  have k0 := h0.cell 0
  have k1 := h0.cell 1
  have k2 := h0.cell 2
  have f0 := h1.cell 0
  have f1 := h1.cell 1
  have f2 := h1.cell 2
  obtain ⟨A, c, rfl⟩ := hS.len
  clear hS hE
  go_enter Tryd.func17, Tryd.ntmps17
  go_wp2_with fail
  go_at_call 15
  refine hck.mono ?_
  rintro e w1 ⟨rfl, hB1⟩
  clear hck k0 k1 k2 f0 f1 f2
  go_wp2_with fail
  go_at_call 18
  refine (must_no n hn _).mono ?_
  rintro e w2 ⟨rfl, rfl⟩
  go_wp2_with fail
  exact ⟨rfl, rfl, hB1⟩
end Go.Proofs.YtjclfkbhakjdaaaDoor
