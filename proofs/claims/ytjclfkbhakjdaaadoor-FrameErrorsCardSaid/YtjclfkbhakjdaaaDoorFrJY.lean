import Derived.Test.YtjclfkbhakjdaaaDoorFrHY
namespace Go.Proofs.YtjclfkbhakjdaaaDoor
open Go.RowKit Go.Shelf
attribute [local go_sem] Oper.semAt_some run_store_func
theorem keep_below19 {B B' g : Nat} {W W' : World} (h : Keep B g W W') (hB : B' ≤ B) (hg : B' ≤ g) : Below B' W W' := ⟨h.1.1, h.1.2.1, h.1.2.2.1, h.1.2.2.2, fun k hk => h.2 k (by omega) (by omega)⟩
def letE (P D R G PL : Int) (pay : List UInt8) : List UInt8 := if chkF P D R G PL pay.length = 0 then lettersG (saidG G PL pay) else []
set_option maxRecDepth 100000 in
set_option maxHeartbeats 4000000 in
theorem Letters_own (P D R G PL : Int) (pv : Value) (pay : List UInt8) (w : World) (hT : Tabs w) (hS : Sl eB w.heap.size w pv pay) :
    Calls Tryd.prog 7 #[shV P D R, frV G PL pv] w fun e w' => ∃ v, e = .returned (.tuple #[v, .int .i64 (chkF P D R G PL pay.length)]) ∧ Own8 w.heap.size w' v (letE P D R G PL pay) ∧ Below w.heap.size w w' ∧ (chkF P D R G PL pay.length ≠ 0 → v = .slice none 0 0) := by
  have hmf : ∀ (fn : Fn) (first cap : Array Value) (w : World), (Instr.makeFunc fn first cap).run Tryd.prog w = .ok (.func fn first cap) w := fun _ _ _ _ => rfl
  obtain ⟨A, c, rfl⟩ := hS.len
  have hc1 : (shV P D R).cells = shB P D R := rfl
  have hc2 : (frV G PL (.slice A pay.length c)).cells = frB G PL (.slice A pay.length c) := rfl
  obtain ⟨W0, hW0⟩ : ∃ W0, ((w.alloc (.cells (shB P D R) 23)).alloc (.cells (frB G PL (.slice A pay.length c)) 26)).alloc (.cells #[.slice none 0 0] 24) = W0 := ⟨_, rfl⟩
  have hs0 : W0.heap.size = w.heap.size + 3 := by rw [← hW0]; simp
  have hA : Below w.heap.size w W0 := by rw [← hW0]; exact ((below_alloc w _).alloc (by simp) _).alloc (by simp; omega) _
  have h0 : Rowed W0 w.heap.size 23 (shB P D R) := by rw [← hW0]; exact ((Rowed.new w 23 (shB P D R)).alloc _).alloc _
  have h1 : Rowed W0 (w.heap.size + 1) 26 (frB G PL (.slice A pay.length c)) := by
   rw [← hW0]
   have := (Rowed.new (w.alloc (.cells (shB P D R) 23)) 26 (frB G PL (.slice A pay.length c))).alloc (.cells #[.slice none 0 0] 24)
   rwa [World.size_alloc] at this
  have hx : Boxed W0 (w.heap.size + 2) 24 (.slice none 0 0) := by
   rw [← hW0]
   have := Boxed.new ((w.alloc (.cells (shB P D R) 23)).alloc (.cells (frB G PL (.slice A pay.length c)) 26)) 24 (.slice none 0 0)
   simpa only [World.size_alloc] using this
  obtain ⟨E, hE⟩ : ∃ E, chkF P D R G PL pay.length = E := ⟨_, rfl⟩
  have hT0 := hT.below hA
  have hS0 := hS.next hA
  have hWd := below_alloc W0 (.cells #[.int .i64 0] 28)
  have hbe := Boxed.new W0 28 (.int .i64 0)
  have hsz1 : (W0.alloc (.cells #[.int .i64 0] 28)).heap.size = W0.heap.size + 1 := by simp
  have hwork : WorkIs 17 #[.pointer (some ⟨w.heap.size, 0, none⟩), .pointer (some ⟨w.heap.size + 1, 0, none⟩), .pointer (some ⟨w.heap.size + 2, 0, none⟩)] (w.heap.size + 2) (W0.alloc (.cells #[.int .i64 0] 28))
      (fun w' => E = 0 ∧ Boxed w' W0.heap.size 28 (.int .i64 0) ∧ ∃ v, Boxed w' (w.heap.size + 2) 24 v ∧ Own8 w.heap.size w' v (letE P D R G PL pay))
      (fun n w' => E = n ∧ n ≠ 0 ∧ Boxed w' (w.heap.size + 2) 24 (.slice none 0 0)) := by
   by_cases h : E = 0
   · subst h
     have hle : letE P D R G PL pay = lettersG (saidG G PL pay) := if_pos hE
     rw [hle]
     refine (Letters1_yes P D R G PL _ pay hE _ _ _ _ (h0.alloc _) (h1.alloc _) (hx.alloc _) (hT0.below hWd) (hS0.next hWd)).mono ?_
     rintro e w' ⟨rfl, v, W2, hB, hv, rfl⟩
     have hx2 : Boxed W2 (w.heap.size + 2) 24 (.slice none 0 0) := (hB.block _ (by rw [hsz1]; omega)).trans (hx.alloc _)
     have hb2 : Boxed W2 W0.heap.size 28 (.int .i64 0) := (hB.block _ (by rw [hsz1]; omega)).trans hbe
     refine ⟨?_, .inl ⟨⟨_, rfl⟩, rfl, ?_, v, hx2.set v, ?_⟩⟩
     · exact keep_t (keep_of hB) (keep_set _ _ _ _ _)
     · exact (Below.heap_setCell _ _ _ _ (by show W0.heap.size ≠ w.heap.size + 2; omega)).trans hb2
     · exact own_low (own_setother hv hx2 (by decide) v) (by rw [hsz1]; omega)
   · refine (Letters1_no P D R G PL _ pay E h hE _ _ _ _ (h0.alloc _) (h1.alloc _) (hT0.below hWd) (hS0.next hWd)).mono ?_
     rintro e w' ⟨rfl, hB⟩
     exact ⟨keep_of hB, .inr ⟨E, rfl, rfl, h, (hB.block _ (by rw [hsz1]; omega)).trans (hx.alloc _)⟩⟩
  have hq := caught_any 17 _ (w.heap.size + 2) W0 (by omega) (enters_of Tryd.func17 (by kernel_rfl) rfl) _ _ hwork
  have HL := Lib.hid (show E ≠ 0 → letE P D R G PL pay = [] from fun h => if_neg (by rw [hE]; exact h))
  rw [hE]
  generalize letE P D R G PL pay = L at *
  clear h0 h1 hE hT0 hS0 hWd hbe hsz1 hwork hS hT
  go_enter Tryd.func7, Tryd.ntmps7
  go_wp2_with fail
  go_at_call 16
  refine hq.mono ?_
  rintro e w' ⟨w1, n, hK, rfl, rfl, hlt, ⟨rfl, rfl, hb, v, hv, hs⟩ | ⟨rfl, hn, hv⟩⟩
  · have hv2 : Boxed (w1.setCell ⟨W0.heap.size, 0, none⟩ (.int .i64 0)) (w.heap.size + 2) 24 v := (Below.heap_setCell _ _ _ _ (by show w.heap.size + 2 ≠ W0.heap.size; omega)).trans hv
    have hs2 : Own8 w.heap.size (w1.setCell ⟨W0.heap.size, 0, none⟩ (.int .i64 0)) v L := own_setother hs hb (by decide) _
    have hB : Below w.heap.size w (w1.setCell ⟨W0.heap.size, 0, none⟩ (.int .i64 0)) := (hA.trans (keep_below19 hK (by omega) (by omega))).setCell (p := ⟨W0.heap.size, 0, none⟩) (by show w.heap.size ≤ W0.heap.size; omega) _
    have hc := hv2.cell
    clear hq hK hv hs
    generalize w1.setCell ⟨W0.heap.size, 0, none⟩ (.int .i64 0) = w2 at *
    go_wp2_with fail
    go_ret2
    exact ⟨v, rfl, hs2, hB, fun h => absurd rfl h⟩
  · have hv2 : Boxed (w1.setCell ⟨W0.heap.size, 0, none⟩ (.int .i64 E)) (w.heap.size + 2) 24 (.slice none 0 0) := (Below.heap_setCell _ _ _ _ (by show w.heap.size + 2 ≠ W0.heap.size; omega)).trans hv
    have hB : Below w.heap.size w (w1.setCell ⟨W0.heap.size, 0, none⟩ (.int .i64 E)) := (hA.trans (keep_below19 hK (by omega) (by omega))).setCell (p := ⟨W0.heap.size, 0, none⟩) (by show w.heap.size ≤ W0.heap.size; omega) _
    have hc := hv2.cell
    have hLn := Lib.hid (HL.out hn)
    clear hq hK hv
    generalize w1.setCell ⟨W0.heap.size, 0, none⟩ (.int .i64 E) = w2 at *
    go_wp2_with fail
    go_ret2
    exact ⟨_, rfl, by rw [hLn.out]; exact ⟨rfl, .inl ⟨rfl, rfl⟩⟩, hB, fun _ => rfl⟩
theorem Letters_any (P D R G PL : Int) (pv : Value) (pay : List UInt8) (w : World) (hT : Tabs w) (hS : Sl eB w.heap.size w pv pay) :
    Calls Tryd.prog 7 #[shV P D R, frV G PL pv] w fun e w' => ∃ v, e = .returned (.tuple #[v, .int .i64 (chkF P D R G PL pay.length)]) ∧ Sl eB w'.heap.size w' v (letE P D R G PL pay) ∧ Below w.heap.size w w' := by
  refine (Letters_own P D R G PL pv pay w hT hS).mono ?_
  rintro e w' ⟨v, rfl, hv, hB, -⟩
  exact ⟨v, rfl, hv.sl, hB⟩
theorem Letters_no (P D R G PL : Int) (pv : Value) (pay : List UInt8) (n : Int) (hn : n ≠ 0) (hE : chkF P D R G PL pay.length = n) (w : World) (hT : Tabs w) (hS : Sl eB w.heap.size w pv pay) :
    Calls Tryd.prog 7 #[shV P D R, frV G PL pv] w fun e w' => e = .returned (.tuple #[.slice none 0 0, .int .i64 n]) ∧ Below w.heap.size w w' := by
  refine (Letters_own P D R G PL pv pay w hT hS).mono ?_
  rintro e w' ⟨v, rfl, -, hB, hv⟩
  rw [hE] at hv ⊢
  rw [hv hn]
  exact ⟨rfl, hB⟩
end Go.Proofs.YtjclfkbhakjdaaaDoor
namespace Go.Proofs.YtjclfkbhakjdaaaDoor
open Go.RowKit Go.Shelf
attribute [local go_sem] Oper.semAt_some run_store_func
instance (y : UInt8 × Nat) : Decidable (Bt.LetterAt y) := by unfold Bt.LetterAt; infer_instance
def vG (b : List UInt8) : Nat := b.foldl (fun y c => 2 * y + c.toNat) 0
def bitsG (h : List UInt8) : List UInt8 := h.zipIdx.map Bt.bitB
theorem bitsG_length (h : List UInt8) : (bitsG h).length = h.length := by simp [bitsG]
theorem bitsG_le (h : List UInt8) : ∀ b ∈ bitsG h, b.toNat ≤ 1 := by
 intro b hb
 obtain ⟨y, -, rfl⟩ := List.mem_map.1 hb
 unfold Bt.bitB
 split <;> decide
theorem vfold_lt : ∀ (b : List UInt8) (y : Nat), (∀ c ∈ b, c.toNat ≤ 1) → b.foldl (fun y c => 2 * y + c.toNat) y < (y + 1) * 2 ^ b.length
  | [], y, _ => by simp
  | c :: b, y, h => by
    have h1 := vfold_lt b (2 * y + c.toNat) fun c hc => h c (List.mem_cons_of_mem _ hc)
    have h2 := h c List.mem_cons_self
    rw [List.foldl_cons, List.length_cons, Nat.pow_succ]
    have h3 : (2 * y + c.toNat + 1) * 2 ^ b.length ≤ (2 * y + 2) * 2 ^ b.length := Nat.mul_le_mul_right _ (by omega)
    have h4 : (2 * y + 2) * 2 ^ b.length = (y + 1) * (2 ^ b.length * 2) := by
     rw [show 2 * y + 2 = (y + 1) * 2 by omega, Nat.mul_assoc, Nat.mul_comm 2]
    omega
theorem vG_lt {b : List UInt8} (h : ∀ c ∈ b, c.toNat ≤ 1) (hl : b.length ≤ 10) : vG b < 1024 := by
 have h1 := vfold_lt b 0 h
 have h2 : 2 ^ b.length ≤ 2 ^ 10 := Nat.pow_le_pow_right (by omega) hl
 unfold vG
 omega
theorem valI_v {b : List UInt8} (h : ∀ c ∈ b, c.toNat ≤ 1) (hl : b.length ≤ 10) : Bt.valI b = (vG b : Int) := by
 have h2 : 2 ^ b.length ≤ 2 ^ 10 := Nat.pow_le_pow_right (by omega) hl
 have := Bt.vfold_nat b 0 (by omega) h
 exact this
def unbG (n : Nat) (x : List UInt8) : Except Int (List UInt8) :=
 if ∀ y ∈ (x.take n).zipIdx, Bt.LetterAt y then
   if (-1 : Int) ∈ Bl.codesOf (x.drop n) then .error 10
   else if kG (Bl.flipOf (x.drop n) (vG (bitsG (x.take n)))) = vG (bitsG (x.take n)) then .ok (Bl.flipOf (x.drop n) (vG (bitsG (x.take n)))) else .error 130
 else .error 10
def StepIs (w : World) (r : Except Int (List UInt8)) (e : Ending) (w' : World) : Prop :=
 Below w.heap.size w w' ∧ ((∃ v y, r = .ok y ∧ e = .returned v ∧ Sl eB w'.heap.size w' v y) ∨ ∃ m, r = .error m ∧ m ≠ 0 ∧ e = .panicked (errno m))
set_option maxHeartbeats 400000 in
theorem unbalanced_any (n : Int) (w : World) : Calls Tryd.prog 41 #[.int .i64 n] w fun e w' => e = .returned (fnV 63 #[.pointer (some ⟨w.heap.size, 0, none⟩)]) ∧ w' = w.alloc (.cells #[.int .i64 n] 3) := by
 go_enter Tryd.func41, Tryd.ntmps41
 go_wp2
 go_ret
 exact ⟨rfl, rfl⟩
set_option maxRecDepth 100000 in
set_option maxHeartbeats 4000000 in
theorem unb1_any (bi n m : Nat) (sv : Value) (x : List UInt8) (hl : x.length = n + m) (hn : n ≤ 10) (h0 : 1 ≤ m) (hm : m ≤ 300) (hev : m % 2 = 0) (w : World) (hb : Boxed w bi 3 (.int .i64 n)) (hT : Tabs w) (hS : Sl eB w.heap.size w sv x) :
    Calls Tryd.prog 63 #[sv, .pointer (some ⟨bi, 0, none⟩)] w fun e w' => StepIs w (unbG n x) e w' := by
  obtain ⟨A, c, hA, hc, hcs⟩ := hS
  subst hA
  obtain ⟨b, off, rfl, hbb, hcell⟩ := hcs (by omega)
  have hS : Sl eB w.heap.size w (.slice (some ⟨b, off, none⟩) x.length c) x := ⟨_, c, rfl, hc, fun _ => ⟨b, off, rfl, hbb, hcell⟩⟩
  have hcn : ¬ c = n := by omega
  have s1 := hS.upto (p := n) (by omega)
  have s2 : Sl eB w.heap.size w (.slice (some ⟨b, off + n, none⟩) (x.length - n) (c - n)) (x.drop n) := hS.from_ (by omega) _ (fun _ => by simp [Addr.add])
  have hc0 := hb.cell
  have l1 : (n : Int) ≤ x.length := by omega
  have l2 : (n : Int) ≤ c := by omega
  have l3 : (x.length : Int) ≤ c := by omega
  have hbk := Bt.Back_any (.slice (some ⟨b, off, none⟩) n c) (x.take n) (by rw [List.length_take]; omega) w (by have := s1; exact this) hT.2.2.2.1
  have htk : (x.take n).length ≤ 10 := by rw [List.length_take]; omega
  have hdl : (x.drop n).length = m := by rw [List.length_drop]; omega
  have hbl := bitsG_length (x.take n)
  have hble := bitsG_le (x.take n)
  have hvl := vG_lt hble (by omega)
  have hvi := valI_v hble (by omega)
  have HU := Lib.hid (show unbG n x = if ∀ y ∈ (x.take n).zipIdx, Bt.LetterAt y then (if (-1 : Int) ∈ Bl.codesOf (x.drop n) then .error 10 else if kG (Bl.flipOf (x.drop n) (vG (bitsG (x.take n)))) = vG (bitsG (x.take n)) then .ok (Bl.flipOf (x.drop n) (vG (bitsG (x.take n)))) else .error 130) else .error 10 from rfl)
  rw [show (x.take n).zipIdx.map Bt.bitB = bitsG (x.take n) from rfl] at hbk
  have hxn : x.length - n = m := by omega
  generalize hbb' : bitsG (x.take n) = bb at *
  generalize hdd : x.drop n = dd at *
  generalize vG bb = kk at *
  have HV := Lib.hid (fun W v (hT : Tabs W) (h : Sl eB W.heap.size W v bb) => Bt.Value_any v bb (by omega) hble W h hT.2.2.2.1)
  rw [hvi] at HV
  have HFl := Lib.hid (fun W v (hT : Tabs W) (h : Sl eB W.heap.size W v dd) => Bl.Flip_any v dd (kk : Int) (by omega) W h hT.2.1 hT.2.2.1)
  have HFi := Lib.hid (fun W v (hT : Tabs W) (h : Sl eB W.heap.size W v (Bl.flipOf dd kk)) => Bl.Find_any v (Bl.flipOf dd kk) (by rw [Bl.flipOf_length]; omega) W h hT.2.1 hT.2.2.1)
  have HNo := Lib.hid (show ∀ e, (-1 : Int) ∉ Bl.codesOf dd → ¬ Bl.FindNo (Bl.flipOf dd kk) e from fun e h => Bl.always (Bl.Fine.flip h _) (by rw [Bl.flipOf_length]; omega) e)
  have hfll := Bl.flipOf_length dd kk
  have hcv : ∀ w, (convert 65 3 (.int .u64 (kk : Nat))).run Tryd.prog w = .ok (.int .i64 (kk : Nat)) w := fun w => by
   have h1 := run_convert_int (P := Tryd.prog) (w := w) 65 3 .u64 (kk : Nat) (by kernel_rfl) (by kernel_rfl)
   have hk : Tryd.prog.intKind 3 = .i64 := by kernel_rfl
   rw [hk, IntWalk.i64_in _ (by omega)] at h1
   exact h1
  have hcv2 : ∀ (q : Nat) w, q ≤ 300 → (convert 3 65 (.int .i64 (q : Nat))).run Tryd.prog w = .ok (.int .u64 (q : Nat)) w := fun q w hq => by
   have h1 := run_convert_int (P := Tryd.prog) (w := w) 3 65 .i64 (q : Nat) (by kernel_rfl) (by kernel_rfl)
   have hk : Tryd.prog.intKind 65 = .u64 := by kernel_rfl
   rw [hk, show IntKind.u64.wrap ((q : Nat) : Int) = ((q : Nat) : Int) from by
    show ((q : Nat) : Int) % 18446744073709551616 = _
    exact Int.emod_eq_of_lt (by omega) (by omega)] at h1
   exact h1
  have HCV := Lib.hid hcv2
  generalize hul : unbG n x = R at *
  have HD := Lib.hid (show (Bl.flipOf dd kk).length ≤ 300 by omega)
  clear hS hcell hcs s1 htk hbl hble hvi hbb' hdd hul hcv2 hfll hdl hxn hl hev h0 hm hn hc
  go_enter Tryd.func63, Tryd.ntmps63
  go_wp2_with fail
  go_at_call 64
  refine hbk.mono ?_
  rintro e w1 ⟨v1, hB1, ⟨rfl, hlet, hv1⟩ | ⟨rfl, hlet⟩⟩
  case inr =>
   have hR : R = .error 10 := by rw [HU.out, if_neg hlet]
   clear hbk HU
   go_wp2_with fail
   go_at_call 18
   refine (must_no 10 (by decide) _).mono ?_
   rintro e w2 ⟨rfl, rfl⟩
   go_wp2_with fail
   exact ⟨rfl, hB1, .inr ⟨10, hR, by decide, rfl⟩⟩
  have hU2 := HU.out
  rw [if_pos hlet] at hU2
  have HU2 := Lib.hid hU2
  have hT1 := hT.below hB1
  have hc1 := (hB1.cell (p := ⟨bi, 0, none⟩) hb.lt).trans hc0
  have hs1 := s2.next hB1
  clear hbk HU hlet hU2 hc0 s2 hT
  have hV := HV.out w1 v1 hT1 hv1
  clear hv1 HV
  go_wp2_with fail
  go_at_call 18
  refine (must_ok _).mono ?_
  rintro e w2 ⟨rfl, rfl⟩
  go_wp2_with fail
  go_at_call 65
  refine hV.mono ?_
  rintro e w2 ⟨rfl, hB2⟩
  have hBt2 := below_trans hB1 hB2
  have hT2 := hT1.below hB2
  have hc2 := (hB2.cell (p := ⟨bi, 0, none⟩) (World.block_lt_of_cell? _ _ hc1)).trans hc1
  have hs2 := hs1.next hB2
  clear hV hT1 hc1 hs1 hB1 hB2
  have hF := HFl.out w2 _ hT2 hs2
  clear hs2 HFl
  go_wp2_with fail
  go_at_call 18
  refine (must_ok _).mono ?_
  rintro e w3 ⟨rfl, rfl⟩
  go_wp2_with fail
  go_at_call 54
  refine hF.mono ?_
  rintro e w3 ⟨hB3, ⟨v3, rfl, hfine, -, hv3⟩ | ⟨rfl, hbad⟩⟩
  case inr =>
   have hR : R = .error 10 := by rw [HU2.out, if_pos hbad]
   have hBt3 := below_trans hBt2 hB3
   clear hF
   go_wp2_with fail
   go_at_call 18
   refine (must_no 10 (by decide) _).mono ?_
   rintro e w4 ⟨rfl, rfl⟩
   go_wp2_with fail
   exact ⟨rfl, hBt3, .inr ⟨10, hR, by decide, rfl⟩⟩
  have hU3 := HU2.out
  rw [if_neg hfine] at hU3
  have HU3 := Lib.hid hU3
  have HNo2 := Lib.hid (fun e => HNo.out e hfine)
  have hT3 := hT2.below hB3
  have hBt3 := below_trans hBt2 hB3
  have hFi := HFi.out w3 v3 hT3 hv3
  clear hF hU3 HU2 HNo hfine hT2 hB3 hBt2 HFi hc2
  obtain ⟨A3, c3, rfl⟩ := hv3.len
  go_wp2_with fail
  go_at_call 18
  refine (must_ok _).mono ?_
  rintro e w4 ⟨rfl, rfl⟩
  go_wp2_with fail
  go_at_call 53
  refine hFi.mono ?_
  rintro e w4 ⟨hB4, ⟨q, rfl, hy⟩ | ⟨q, -, hno⟩⟩
  case inr => exact (HNo2.out q hno).elim
  have hq := kG_is hy
  have hql := hy.1
  have hcv3 := fun w => HCV.out q w (by have := HD.out; omega)
  have hBt4 := below_trans hBt3 hB4
  have hv4 := hv3.next hB4
  clear hFi hy hT3 hB4 hBt3 hv3
  by_cases he : q = kk
  · have hR : R = .ok (Bl.flipOf dd kk) := by rw [HU3.out, if_pos (by rw [← hq]; exact he)]
    have hbe : ((q : Int) == (kk : Int)) = true := by rw [beq_iff_eq]; omega
    generalize Bl.flipOf dd kk = ff at *
    clear HU3 hq
    go_wp2_with fail
    go_at_call 18
    refine (must_ok _).mono ?_
    rintro e w5 ⟨rfl, rfl⟩
    go_wp2_with fail
    go_ret
    exact ⟨hBt4, .inl ⟨_, _, hR, rfl, hv4⟩⟩
  · have hR : R = .error 130 := by rw [HU3.out, if_neg (by rw [← hq]; exact he)]
    have hbe : ((q : Int) == (kk : Int)) = false := by rw [beq_eq_false_iff_ne]; omega
    clear HU3 hq
    go_wp2_with fail
    go_at_call 18
    refine (must_ok _).mono ?_
    rintro e w5 ⟨rfl, rfl⟩
    go_wp2_with fail
    exact ⟨rfl, hBt4, .inr ⟨130, hR, by decide, rfl⟩⟩
end Go.Proofs.YtjclfkbhakjdaaaDoor
