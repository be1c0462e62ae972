import Derived.Test.YtjclfkbhakjdaaaDoorDTY
import Derived.Test.YtjclfkbhakjdaaaDoorFrQY
namespace Go.Proofs.YtjclfkbhakjdaaaDoor
open Go.RowKit Go.Shelf
theorem wid_k (k : Nat) (hk : k < 5) : widG (26 * (k + 1)) = idxG k := by
 rcases (show k = 0 ∨ k = 1 ∨ k = 2 ∨ k = 3 ∨ k = 4 by omega) with rfl | rfl | rfl | rfl | rfl <;> decide +kernel
theorem body_len {b : List UInt8} {k : Nat} (hl : b.length = 5 * (k + 1)) : (bodyG (tritsG b)).length = 26 * (k + 1) := by
 rw [(body_facts (tritsG_tri b)).2.1, tritsG_length, hl, Nat.mul_div_cancel_left _ (by omega)]
 omega
theorem letters_len {b : List UInt8} {k : Nat} (hk : k < 5) (hl : b.length = 5 * (k + 1)) : ((lettersG b).length : Int) = Sh.innerK k := by
 unfold lettersG
 rw [letG_length, body_len hl, wid_k k hk]
 unfold Sh.innerK Sh.bodyK
 rw [idx_is]
 omega
theorem v_num {x m : Nat} (hm : m ≤ 10) (hx : x < 2 ^ m) : vG (Bt.numOf x m) = x := by
 have h1 := Bt.valI_num x m (by omega) hx
 rw [valI_v (Bt.numOf_bits x m) (by rw [Bt.numOf_length]; exact hm)] at h1
 omega
theorem unb_let {s : List UInt8} (hf : Bl.Fine s) (hev : s.length % 2 = 0) (hr : s.length ≤ 300) : unbG (widG s.length) (letG s) = .ok s := by
 have hky := kG_yes hf hev
 obtain ⟨g1, -, g3, -⟩ := wid_facts hky.1 hr
 have ht : (letG s).take (widG s.length) = indexG s := by
  unfold letG
  rw [← indexG_length s, List.take_left]
 have hd : (letG s).drop (widG s.length) = Bl.flipOf s (kG s) := by
  unfold letG
  rw [← indexG_length s, List.drop_left]
 have hb : bitsG (indexG s) = Bt.numOf (kG s) (widG s.length) := Bt.back_field _ (Bt.numOf_bits _ _)
 unfold unbG
 rw [ht, hd, hb, v_num g1 g3, if_pos (show ∀ y ∈ (indexG s).zipIdx, Bt.LetterAt y from Bt.field_at _ (Bt.numOf_bits _ _)), if_neg (Bl.Fine.flip hf _), Bl.flip_twice hf, if_pos rfl]
theorem bak_let {b : List UInt8} {k : Nat} (hk : k < 5) (hl : b.length = 5 * (k + 1)) : bakG (idxG k) (k + 1) (lettersG b) = .ok b := by
 obtain ⟨-, -, h3, -, h5⟩ := body_facts (tritsG_tri b)
 have hsl := body_len hl
 have h1 := unb_let (let_fine h3) (by rw [hsl]; omega) (by rw [hsl]; omega)
 rw [hsl, wid_k k hk] at h1
 have h2 : Tu.backG 65 (bodyG (tritsG b)) = .ok (tritsG b) := by
  show Tu.gatG 65 (Tu.wT 65 (bodyG (tritsG b))) = _
  rw [h5]
  exact Tu.gat_ok is_A _
 have h4 : Tr.eachG Tr.backG (tritsG b) 26 (k + 1) = .ok b := by
  have := Tr.pack_back b (k + 1) (by omega)
  unfold tritsG
  rwa [hl, Nat.mul_div_cancel_left _ (by omega)]
 show bindG (bindG (unbG (idxG k) (letG (bodyG (tritsG b)))) (Tu.backG 65)) (fun t => Tr.eachG Tr.backG t 26 (k + 1)) = .ok b
 rw [h1]
 show bindG (Tu.backG 65 (bodyG (tritsG b))) (fun t => Tr.eachG Tr.backG t 26 (k + 1)) = .ok b
 rw [h2]
 exact h4
theorem u8_wrap (z : Int) : ((u8Z z).toNat : Int) = z % 256 := by
 rw [u8Z_int]
 unfold IntKind.wrap
 rfl
theorem said_grp {G PL : Int} {pay : List UInt8} (h0 : 0 ≤ G) (h1 : G ≤ 65535) : grpG (saidG G PL pay) = G := by
 have a := u8_wrap (G / 256)
 have b := u8_wrap G
 show (((u8Z (G / 256)).toNat * 256 + (u8Z G).toNat : Nat) : Int) = G
 omega
theorem said_plc {G PL : Int} {pay : List UInt8} (h0 : 0 ≤ PL) (h1 : PL ≤ 255) : plcG (saidG G PL pay) = PL := by
 have a := u8_wrap PL
 show ((u8Z PL).toNat : Int) = PL
 omega
theorem said_drop (G PL : Int) (pay : List UInt8) : (saidG G PL pay).drop 3 = pay := rfl
theorem back_let {P D R G PL : Int} {pay : List UInt8} (h : chkF P D R G PL pay.length = 0) : backF P D R (lettersG (saidG G PL pay)) = .ok (G, PL, pay) := by
 obtain ⟨hm, h1, h2, h3, h4, h5⟩ := chk_yes h
 obtain ⟨k, hk, rfl⟩ := Sh.payOk_at hm.1
 have hl : (saidG G PL pay).length = 5 * (k + 1) := by rw [saidG_length]; unfold Sh.pay at h5; omega
 have h255 : PL ≤ 255 := by obtain ⟨-, a, b, c, d⟩ := hm; omega
 unfold backF
 rw [if_pos hm, kOf_pay, if_pos (letters_len hk hl), bak_let hk hl]
 show frmG _ _ _ _ = _
 unfold frmG
 rw [said_grp h1 h2, said_plc h3 h255, said_drop, saidG_length, show pay.length + 3 - 3 = pay.length by omega, if_pos h]
theorem half_let {b : List UInt8} {k : Nat} (hl : b.length = 5 * (k + 1)) (hk : k < 5) : Bt.gcOf (lettersG b) * 2 = (lettersG b).length := by
 have hsl := body_len hl
 obtain ⟨-, -, h3, -, -⟩ := body_facts (tritsG_tri b)
 have hf := let_fine h3
 have hky := kG_yes hf (by rw [hsl]; omega)
 obtain ⟨g1, g2, -, -⟩ := wid_facts hky.1 (by rw [hsl]; omega)
 unfold lettersG
 rw [letG_length]
 unfold letG indexG
 have e1 : ∀ x y : List UInt8, Bt.gcOf (x ++ y) = Bt.gcOf x + Bt.gcOf y := Bl.gcOf_append
 rw [e1, Bt.gc_field, Bt.numOf_length]
 have e2 : ((Bt.gcOf (Bl.flipOf (bodyG (tritsG b)) (kG (bodyG (tritsG b)))) : Nat) : Int) = Bl.mk (bodyG (tritsG b)) (kG (bodyG (tritsG b))) := (Bl.mk_gc hf _ hky.1).symm
 have e3 := hky.2.2.1
 omega
end Go.Proofs.YtjclfkbhakjdaaaDoor
namespace Go.Proofs.YtjclfkbhakjdaaaDoor
open Go.RowKit Go.Shelf
attribute [local go_sem] Oper.semAt_some run_store_func
theorem same_any (sa sb : Value) (a b : List UInt8) (B : Nat) (w : World) (ha : Sl eB B w sa a) (hb : Sl eB B w sb b) :
    Calls Tryd.prog 14 #[sa, sb] w fun e w' => e = .returned (.bool (decide (a = b))) ∧ w = w' := by
  have ra := run_str (P := Tryd.prog) ha 24 9 5 Tryd.underlying24 Tryd.underlying5 Tryd.underlying9
  have rb := run_str (P := Tryd.prog) hb 24 9 5 Tryd.underlying24 Tryd.underlying5 Tryd.underlying9
  obtain ⟨Aa, ca, rfl⟩ := ha.len
  obtain ⟨Ab, cb, rfl⟩ := hb.len
  clear ha hb
  go_enter Tryd.func14, Tryd.ntmps14
  go_wp2
  go_ret
  exact ⟨by rw [← beq_dec]; rfl, rfl⟩
end Go.Proofs.YtjclfkbhakjdaaaDoor
namespace Go.Proofs.YtjclfkbhakjdaaaDoor
open Go.RowKit Go.Shelf
attribute [local go_sem] Oper.semAt_some run_store_func
theorem back_told {P D R : Int} {x : List UInt8} {G PL G' PL' : Int} {pay pay' : List UInt8} {v : Value} {E : Int} (h : BackTold (backF P D R x) G PL pay v E) (hf : backF P D R x = .ok (G', PL', pay')) : G = G' ∧ PL = PL' ∧ pay = pay' ∧ E = 0 := by
 rcases h with ⟨h1, h2⟩ | ⟨h1, -⟩
 · rw [hf] at h1
   injection h1 with h1
   injection h1 with e1 e2
   injection e2 with e2 e3
   exact ⟨e1.symm, e2.symm, e3.symm, h2⟩
 · rw [hf] at h1; cases h1
theorem same_eq (sa sb : Value) (a : List UInt8) (B : Nat) (w : World) (ha : Sl eB B w sa a) (hb : Sl eB B w sb a) :
    Calls Tryd.prog 14 #[sa, sb] w fun e w' => e = .returned (.bool true) ∧ w = w' := by
  have := same_any sa sb a a B w ha hb
  rwa [decide_eq_true rfl] at this
theorem wk_chk : chkF 2 4 2 300 5 2 = 0 := by decide
theorem wk_chk2 : chkF 2 4 2 300 6 2 = 2 := by decide
theorem wk_chk3 : chkF 0 0 0 300 5 2 = 180 := by decide
set_option maxRecDepth 100000 in
set_option maxHeartbeats 4000000 in
theorem wakes_any (w : World) (hT : Tabs w) : Calls Tryd.prog 6 #[] w fun e w' => e = .returned (.bool true) ∧ Below w.heap.size w w' := by
 obtain ⟨W0, hW0⟩ : ∃ W0, ((w.alloc (.cells (shB 2 4 2) 23)).alloc (.cells #[.int .u8 7, .int .u8 0] 5)).alloc (.cells (frB 300 5 (.slice (some ⟨w.heap.size + 1, 0, none⟩) 2 2)) 26) = W0 := ⟨_, rfl⟩
 have hA : Below w.heap.size w W0 := by rw [← hW0]; exact ((below_alloc w _).alloc (by simp) _).alloc (by simp; omega) _
 have r1 : Rowed W0 w.heap.size 23 (shB 2 4 2) := by rw [← hW0]; exact ((Rowed.new w 23 _).alloc _).alloc _
 have r2 : Rowed W0 (w.heap.size + 1 + 1) 26 (frB 300 5 (.slice (some ⟨w.heap.size + 1, 0, none⟩) 2 2)) := by
  rw [← hW0]
  have := Rowed.new ((w.alloc (.cells (shB 2 4 2) 23)).alloc (.cells #[.int .u8 7, .int .u8 0] 5)) 26 (frB 300 5 (.slice (some ⟨w.heap.size + 1, 0, none⟩) 2 2))
  simpa only [World.size_alloc] using this
 have s0 : Sl eB W0.heap.size W0 (.slice (some ⟨w.heap.size + 1, 0, none⟩) 2 2) [7, 0] := by
  have h1 := Sl.new eB (w.alloc (.cells (shB 2 4 2) 23)) [7, 0] #[eB 7, eB 0] 5 (0, 0) 2 2 rfl (Nat.le_refl _) rfl
  have h2 := h1.next (below_alloc _ (.cells (frB 300 5 (.slice (some ⟨w.heap.size + 1, 0, none⟩) 2 2)) 26))
  rw [← hW0]
  simp only [World.size_alloc] at h2 ⊢
  exact h2
 have hT0 := hT.below hA
 have k0 := r1.cell 0
 have k1 := r1.cell 1
 have k2 := r1.cell 2
 have f0 := r2.cell 0
 have f1 := r2.cell 1
 have f2 := r2.cell 2
 have hq := Letters_any 2 4 2 300 5 _ [7, 0] W0 hT0 s0
 rw [show chkF 2 4 2 300 5 ([7, 0] : List UInt8).length = 0 from wk_chk, show letE 2 4 2 300 5 ([7, 0] : List UInt8) = lettersG (saidG 300 5 [7, 0]) from if_pos wk_chk] at hq
 have hbk := back_let (P := 2) (D := 4) (R := 2) (G := 300) (PL := 5) (pay := [7, 0]) wk_chk
 have hhalf := half_let (b := saidG 300 5 [7, 0]) (k := 0) rfl (by omega)
 have hxl : (lettersG (saidG 300 5 [7, 0])).length = 32 := by
  have := letters_len (b := saidG 300 5 [7, 0]) (k := 0) (by omega) rfl
  have e : Sh.innerK 0 = 32 := by decide
  omega
 generalize lettersG (saidG 300 5 [7, 0]) = x at *
 obtain ⟨gcx, hgc⟩ : ∃ g, Bt.gcOf x = g := ⟨_, rfl⟩
 rw [hgc, hxl] at hhalf
 obtain rfl : gcx = 16 := by omega
 have HGC := Lib.hid (fun (W : World) v (h : Sl eB W.heap.size W v x) => Bt.Gc_any v x (by omega) W.heap.size W h)
 rw [hgc] at HGC
 have HBK := Lib.hid (fun W v (hT : Tabs W) (h : Sl eB W.heap.size W v x) => Back_any 2 4 2 v x W hT h)
 have HXL := Lib.hid hxl
 have HBKF := Lib.hid hbk
 have HTW := Lib.hid (fun W (h : Below w.heap.size w W) => hT.below h)
 clear hT hhalf hgc hxl hbk
 have b23 : ∀ w, (Instr.build 23 #[]).run Tryd.prog w = .ok (shV 0 0 0) w := fun _ => by kernel_rfl
 go_enter Tryd.func6, Tryd.ntmps6
 go_upto_region 3 with fail
 clear hW0
 go_wp2_with fail
 go_at_call 7
 refine hq.mono ?_
 rintro e w1 ⟨vx, rfl, hx, hB1⟩
 have r11 : Rowed w1 w.heap.size 23 (shB 2 4 2) := (hB1.block _ r1.lt).trans r1
 have r12 : Rowed w1 (w.heap.size + 1 + 1) 26 (frB 300 5 (.slice (some ⟨w.heap.size + 1, 0, none⟩) 2 2)) := (hB1.block _ r2.lt).trans r2
 have s1 := s0.next hB1
 have hT1 := hT0.below hB1
 have hBt1 := below_trans hA hB1
 have j0 := r11.cell 0
 have j1 := r11.cell 1
 have j2 := r11.cell 2
 have hq := HBK.out w1 vx hT1 hx
 clear k0 k1 k2 f0 f1 f2 r1 r2 s0 hB1 hA hT0 HBK
 obtain ⟨Ax, cx, rfl⟩ := hx.len
 go_wp2_with fail
 go_at_call 9
 refine hq.mono ?_
 rintro e w2 ⟨G, PL, pay, vg, E, rfl, hto, hg, hB2⟩
 obtain ⟨rfl, rfl, rfl, rfl⟩ := back_told hto HBKF.out
 obtain ⟨Ag, cg, rfl⟩ := hg.len
 have hg : Sl eB w2.heap.size w2 (.slice Ag 2 cg) [7, 0] := hg
 have r21 : Rowed w2 w.heap.size 23 (shB 2 4 2) := (hB2.block _ r11.lt).trans r11
 have r22 : Rowed w2 (w.heap.size + 1 + 1) 26 (frB 300 5 (.slice (some ⟨w.heap.size + 1, 0, none⟩) 2 2)) := (hB2.block _ r12.lt).trans r12
 have s2 := s1.next hB2
 have x2 := hx.next hB2
 have hT2 := hT1.below hB2
 have hBt2 := below_trans hBt1 hB2
 clear hq hto j0 j1 j2 r11 r12 s1 hx hB2 hT1 hBt1
 -- the frame that was told, in a variable of its own
 obtain ⟨W3, hW3⟩ : ∃ W3, w2.alloc (.cells (frB 300 5 (.slice Ag 2 cg)) 26) = W3 := ⟨_, rfl⟩
 have hA3 : Below w2.heap.size w2 W3 := by rw [← hW3]; exact below_alloc w2 _
 have r31 : Rowed W3 w.heap.size 23 (shB 2 4 2) := (hA3.block _ r21.lt).trans r21
 have r32 : Rowed W3 (w.heap.size + 1 + 1) 26 (frB 300 5 (.slice (some ⟨w.heap.size + 1, 0, none⟩) 2 2)) := (hA3.block _ r22.lt).trans r22
 have r33 : Rowed W3 w2.heap.size 26 (frB 300 5 (.slice Ag 2 cg)) := by rw [← hW3]; exact Rowed.new w2 _ _
 have s3 := s2.next hA3
 have x3 := x2.next hA3
 have g3 := hg.next hA3
 have hT3 := hT2.below hA3
 have hBt3 := below_trans hBt2 hA3
 have f0 := r32.cell 0
 have f1 := r32.cell 1
 have f2 := r32.cell 2
 have hl32 := r22.lt
 clear r21 r22 s2 x2 hg hT2 hBt2 hA3
 have hq := Letters_any 0 0 0 300 5 _ [7, 0] W3 hT3 s3
 rw [show chkF 0 0 0 300 5 ([7, 0] : List UInt8).length = 180 from wk_chk3] at hq
 have HHT := Lib.hid hT3
 have HGF := Lib.hid g3
 have HXF := Lib.hid x3
 clear hT3 g3 x3
 go_upto_region 5 with fail
 clear hW3
 go_wp2_with fail
 go_at_call 7
 refine hq.mono ?_
 rintro e w4 ⟨vn, rfl, -, hB4⟩
 have r41 : Rowed w4 w.heap.size 23 (shB 2 4 2) := (hB4.block _ r31.lt).trans r31
 have r42 : Rowed w4 (w.heap.size + 1 + 1) 26 (frB 300 5 (.slice (some ⟨w.heap.size + 1, 0, none⟩) 2 2)) := (hB4.block _ r32.lt).trans r32
 have r43 : Rowed w4 w2.heap.size 26 (frB 300 5 (.slice Ag 2 cg)) := (hB4.block _ r33.lt).trans r33
 have s4 := s3.next hB4
 have x4 := HXF.out.next hB4
 have g4 := HGF.out.next hB4
 have hT4 := HHT.out.below hB4
 have hBt4 := below_trans hBt3 hB4
 clear hq f0 f1 f2 r31 r32 r33 s3 hB4 hBt3 HHT HGF HXF
 -- the place is another one
 obtain ⟨W5, hW5⟩ : ∃ W5, w4.setCell ⟨w.heap.size + 1 + 1, 1, none⟩ (.int .i64 6) = W5 := ⟨_, rfl⟩
 have c42 := r42.cell 1
 have z42 := r42.frozen 1
 have hsz5 : W5.heap.size = w4.heap.size := by rw [← hW5]; simp
 have r52 : Rowed W5 (w.heap.size + 1 + 1) 26 (frB 300 6 (.slice (some ⟨w.heap.size + 1, 0, none⟩) 2 2)) := by rw [← hW5]; exact r42.set 1 (.int .i64 6)
 have r51 : Rowed W5 w.heap.size 23 (shB 2 4 2) := by rw [← hW5]; exact rowed_set_other r41 (by omega) 1 _
 have r53 : Rowed W5 w2.heap.size 26 (frB 300 5 (.slice Ag 2 cg)) := by rw [← hW5]; exact rowed_set_other r43 (by omega) 1 _
 have s5 : Sl eB W5.heap.size W5 (.slice (some ⟨w.heap.size + 1, 0, none⟩) 2 2) [7, 0] := by rw [hsz5, ← hW5]; exact sl_setfr s4 r42 1 _
 have x5 : Sl eB W5.heap.size W5 (.slice Ax x.length cx) x := by rw [hsz5, ← hW5]; exact sl_setfr x4 r42 1 _
 have g5 : Sl eB W5.heap.size W5 (.slice Ag 2 cg) [7, 0] := by rw [hsz5, ← hW5]; exact sl_setfr g4 r42 1 _
 have hBt5 : Below w.heap.size w W5 := by rw [← hW5]; exact hBt4.setCell (p := ⟨w.heap.size + 1 + 1, 1, none⟩) (by show w.heap.size ≤ w.heap.size + 1 + 1; omega) _
 clear hT4 r41 r42 r43 s4 x4 g4 hBt4
 go_upto_region 7 with fail
 obtain ⟨W6, hW6⟩ : ∃ W6, W5.alloc (.cells #[.int .u8 7, .int .u8 0] 5) = W6 := ⟨_, rfl⟩
 have hA6 : Below W5.heap.size W5 W6 := by rw [← hW6]; exact below_alloc W5 _
 have hn6 : Sl eB W6.heap.size W6 (.slice (some ⟨W5.heap.size, 0, none⟩) 2 2) [7, 0] := by
  rw [← hW6]
  exact Sl.new eB W5 [7, 0] #[eB 7, eB 0] 5 (0, 0) 2 2 rfl (Nat.le_refl _) rfl
 have r61 : Rowed W6 w.heap.size 23 (shB 2 4 2) := (hA6.block _ r51.lt).trans r51
 have r62 : Rowed W6 (w.heap.size + 1 + 1) 26 (frB 300 6 (.slice (some ⟨w.heap.size + 1, 0, none⟩) 2 2)) := (hA6.block _ r52.lt).trans r52
 have hq1 := same_eq _ _ [7, 0] W6.heap.size W6 (g5.next hA6) hn6
 have hBt6 := below_trans hBt5 hA6
 have hq2 := FCheck_any 2 4 2 300 6 _ [7, 0] W6 (HTW.out W6 hBt6).2.2.2.2 (s5.next hA6)
 rw [show chkF 2 4 2 300 6 ([7, 0] : List UInt8).length = 2 from wk_chk2] at hq2
 have x6 := x5.next hA6
 have c0 := r53.cell 0
 have c1 := r53.cell 1
 have c2 := r53.cell 2
 have d0 := r61.cell 0
 have d1 := r61.cell 1
 have d2 := r61.cell 2
 have e0 := r62.cell 0
 have e1 := r62.cell 1
 have e2 := r62.cell 2
 have HX6 := Lib.hid x6
 have HXL2 := HXL
 have hm : IntKind.i64.wrap (2 * 16) = 32 := by decide
 clear hA6 hn6 r61 r62 r51 r52 r53 s5 x5 g5 hBt5 x6 hsz5 hW5
 go_wp2_with fail
 go_at_call 14
 refine hq1.mono ?_
 rintro e w' ⟨rfl, rfl⟩
 clear hq1 hW6
 go_wp2_with fail
 go_at_call 15
 refine hq2.mono ?_
 rintro e w7 ⟨rfl, hB7⟩
 have hgc := HGC.out w7 (.slice Ax x.length cx) (HX6.out.next hB7)
 have hBt7 := below_trans hBt6 hB7
 have hxl := HXL.out
 have hxi : (x.length : Int) = 32 := by omega
 clear hq2 hB7 hBt6 hxl
 go_wp2_with fail
 go_at_call 12
 refine hgc.mono ?_
 rintro e w8 ⟨rfl, rfl⟩
 clear hgc
 go_wp2_with fail
 go_ret
 exact ⟨rfl, hBt7⟩
end Go.Proofs.YtjclfkbhakjdaaaDoor
